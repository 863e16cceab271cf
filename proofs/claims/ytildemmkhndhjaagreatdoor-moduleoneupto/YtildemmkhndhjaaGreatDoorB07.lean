/-
  What the proof leans on, part 7 of 28. The conditions stand in each theorem.
-/
import Derived.Test.YtildemmkhndhjaaGreatDoorB04
import Derived.Test.YtildemmkhndhjaaGreatDoorB06
import Derived.Laws.BitsAllLaws
import Derived.Laws.Bits64
import Derived.Laws.ResultCell
import Derived.Test.YtildemmkhndhjaaGreatDoorB01
namespace Go.Proofs.YtildemmkhndhjaaGreatDoor
open Go.RowKit

/-- What is wrong with the entry of a type, of a method, of whatever an instruction names. -/
def typeW (l : List En) (op n : Int) : Int := if (typeAtR l n).2 = 0 then (if op = 30 then (if (typeAtR l n).1.1 = 8 then 15 else 0) else (if (typeAtR l n).1 = (0, []) then 15 else 0)) else (typeAtR l n).2
def methodW (l : List En) (op n : Int) : Int := if (methodR l n).2 = 0 then (if decide ((methodR l n).1.2.1 = initL) = decide (op = 41) then (if op = 41 ∧ (methodR l n).1.2.2.2.1 = false then 15 else 0) else 14) else (methodR l n).2
def entryI (l : List En) (i : In) : Int := if rowI i.2.1 = 3 then (numberR l i.2.2.1).2 else if rowI i.2.1 = 5 then (classR l i.2.2.1).2 else if rowI i.2.1 = 6 then (fieldR l i.2.2.1).2 else if rowI i.2.1 = 7 then typeW l i.2.1 i.2.2.1 else if rowI i.2.1 = 8 then methodW l i.2.1 i.2.2.1 else 0
/-- What is wrong with an instruction, beside a row that says where instructions begin. -/
def wrongB (bl : List Bool) (l : List En) (locals : Int) (i : In) : Int := if rowI i.2.1 = 2 then (if locals ≤ i.2.2.1 then 43 else 0) else if rowI i.2.1 = 4 then (if bl.getD i.2.2.1.toNat false = true then 0 else 18) else entryI l i

theorem row_op (op : Int) : (rowI op = 7 → op = 30 ∨ op = 36 ∨ op = 37) ∧ (rowI op = 8 → op = 38 ∨ op = 39 ∨ op = 40 ∨ op = 41) ∧ 0 ≤ rowI op ∧ rowI op ≤ 8 := by
 unfold rowI
 repeat' split
 all_goals omega

set_option maxHeartbeats 400000 in
set_option maxRecDepth 100000 in
theorem wtype_any {w : World} {ao : Option Addr} {l : List En} {d cap : Nat} (hE : ES w ao l d) (hl : l.length ≤ 9223372036854775807) (hA : ∀ e ∈ l, e.2.1.length ≤ 9223372036854775807) (locals : Int) (g : Value) (a op n s : Int) (hr : rowI op = 7) (hg : ∃ go m c, g = .slice go m c) :
  Calls Tryz.prog 196 #[.agg #[.slice ao l.length cap, .int .i64 locals, g], inV (a, op, n, s)] w fun e w' => e = .returned (.int .i64 (typeW l op n)) ∧ Only [] w w' := by
 obtain ⟨go, gm, gc, rfl⟩ := hg
 have o0 := ((Only.refl [] w).alloc (.cells #[.slice ao l.length cap, .int .i64 locals, .slice go gm gc] 248)).alloc (.cells #[.int .i64 a, .int .i64 op, .int .i64 n, .int .i64 s] 250)
 have I0 := hid (inAt_new (w.alloc (.cells #[.slice ao l.length cap, .int .i64 locals, .slice go gm gc] 248)) a op n s 250)
 rw [World.size_alloc] at I0
 have HT := ptype_any (cap := cap) (hE.only o0 (by simp)) hl hA n
 have hop := (row_op op).1 hr
 unfold typeW
 generalize typeAtR l n = X at *
 obtain ⟨⟨td, tn⟩, te⟩ := X
 have HN := fun W => number_any (td, tn) W
 simp only [inV, tyV] at HT HN ⊢
 clear hE hA hr
 by_cases he : te = 0
 ·subst he
  replace HT := hid HT
  rw [if_pos rfl]
  rcases hop with rfl | rfl | rfl
  ·by_cases h8 : td = 8
   ·subst h8
    clear HN
    go_enter Tryz.func196, Tryz.ntmps196
    go_wp2_with (go_at_call 213; refine HT.out.mono ?_; rintro e w1 ⟨rfl, ho1⟩; obtain ⟨c0, c1, c2, c3⟩ := (I0.out.only ho1 (by simp)).alloc (.cells #[.int .i64 8, .string (str tn)] 35); simp only [Nat.zero_add] at c1 c2 c3)
    go_ret
    exact ⟨rfl, (o0.next ho1 (by simp)).alloc _⟩
   ·have g8 : (td == 8) = false := by simpa using h8
    rw [if_pos rfl, if_neg h8]
    clear HN
    go_enter Tryz.func196, Tryz.ntmps196
    go_wp2_with (go_at_call 213; refine HT.out.mono ?_; rintro e w1 ⟨rfl, ho1⟩; obtain ⟨c0, c1, c2, c3⟩ := (I0.out.only ho1 (by simp)).alloc (.cells #[.int .i64 td, .string (str tn)] 35); simp only [Nat.zero_add] at c1 c2 c3)
    go_ret
    exact ⟨rfl, (o0.next ho1 (by simp)).alloc _⟩
  all_goals
   rw [if_neg (by decide)]
   by_cases hz : ((td, tn) : Ty) = (0, [])
   ·rw [if_pos hz]
    rw [decide_eq_true hz] at HN
    replace HN := hid HN
    clear hz
    go_enter Tryz.func196, Tryz.ntmps196
    go_wp2_with (first | (go_at_call 213; refine HT.out.mono ?_; rintro e w1 ⟨rfl, ho1⟩; obtain ⟨c0, c1, c2, c3⟩ := (I0.out.only ho1 (by simp)).alloc (.cells #[.int .i64 td, .string (str tn)] 35); simp only [Nat.zero_add] at c1 c2 c3) | (go_at_call 214; refine (HN.out _).mono ?_; rintro e w2 ⟨rfl, ho2⟩))
    go_ret
    exact ⟨rfl, ((o0.next ho1 (by simp)).alloc _).next ho2 (by simp)⟩
   ·rw [if_neg hz]
    rw [decide_eq_false hz] at HN
    replace HN := hid HN
    clear hz
    go_enter Tryz.func196, Tryz.ntmps196
    go_wp2_with (first | (go_at_call 213; refine HT.out.mono ?_; rintro e w1 ⟨rfl, ho1⟩; obtain ⟨c0, c1, c2, c3⟩ := (I0.out.only ho1 (by simp)).alloc (.cells #[.int .i64 td, .string (str tn)] 35); simp only [Nat.zero_add] at c1 c2 c3) | (go_at_call 214; refine (HN.out _).mono ?_; rintro e w2 ⟨rfl, ho2⟩))
    go_ret
    exact ⟨rfl, ((o0.next ho1 (by simp)).alloc _).next ho2 (by simp)⟩
 ·have ge : (te == 0) = false := by simpa using he
  replace HT := hid HT
  rw [if_neg he]
  clear HN hop
  go_enter Tryz.func196, Tryz.ntmps196
  go_wp2_with (go_at_call 213; refine HT.out.mono ?_; rintro e w1 ⟨rfl, ho1⟩)
  go_ret
  exact ⟨rfl, (o0.next ho1 (by simp)).alloc _⟩

set_option maxHeartbeats 1000000 in
set_option maxRecDepth 100000 in
theorem wmethod_any {w : World} {ao : Option Addr} {l : List En} {d cap : Nat} (hE : ES w ao l d) (hl : l.length ≤ 9223372036854775807) (hA : ∀ e ∈ l, e.2.1.length ≤ 9223372036854775807) (locals : Int) (g : Value) (a op n s : Int) (hg : ∃ go m c, g = .slice go m c) :
  Calls Tryz.prog 197 #[.agg #[.slice ao l.length cap, .int .i64 locals, g], inV (a, op, n, s)] w fun e w' => e = .returned (.int .i64 (methodW l op n)) ∧ Only [] w w' := by
 obtain ⟨go, gm, gc, rfl⟩ := hg
 have o0 := ((Only.refl [] w).alloc (.cells #[.slice ao l.length cap, .int .i64 locals, .slice go gm gc] 248)).alloc (.cells #[.int .i64 a, .int .i64 op, .int .i64 n, .int .i64 s] 250)
 have I0 := hid (inAt_new (w.alloc (.cells #[.slice ao l.length cap, .int .i64 locals, .slice go gm gc] 248)) a op n s 250)
 rw [World.size_alloc] at I0
 have HM := pmethod_any (cap := cap) (hE.only o0 (by simp)) hl hA n
 unfold methodW
 generalize methodR l n = X at *
 obtain ⟨⟨xc, nm, ps, void, td, tn⟩, er⟩ := X
 simp only [inV, sigV] at HM ⊢
 clear hE hA
 have hst := str_toList nm
 have hci : (⟨#[60, 105, 110, 105, 116, 62]⟩ : ByteArray).toList = initL := str_toList initL
 replace HM := hid HM
 by_cases he : er = 0
 ·subst he
  rw [if_pos rfl]
  by_cases hn : nm = initL
  ·subst hn
   rw [decide_eq_true rfl]
   have gn : (initL == initL) = true := by decide
   generalize initL = nm at *
   by_cases h41 : op = 41
   ·subst h41
    rw [if_pos (by decide)]
    cases void with
    | true =>
     rw [if_neg (by simp)]
     go_enter Tryz.func197, Tryz.ntmps197
     go_wp2_with (go_at_call 215; refine HM.out.mono ?_; rintro e w1 ⟨vo, vc, rfl, hown, ho1⟩; clear hown; obtain ⟨c0, c1, c2, c3⟩ := (I0.out.only ho1 (by simp)).alloc (.cells #[.slice vo ps.length vc, .bool true, .int .i64 td, .string (str tn)] 37); simp only [Nat.zero_add] at c1 c2 c3)
     go_ret
     exact ⟨by simp, (o0.next ho1 (by simp)).alloc _⟩
    | false =>
     rw [if_pos (by simp)]
     go_enter Tryz.func197, Tryz.ntmps197
     go_wp2_with (go_at_call 215; refine HM.out.mono ?_; rintro e w1 ⟨vo, vc, rfl, hown, ho1⟩; clear hown; obtain ⟨c0, c1, c2, c3⟩ := (I0.out.only ho1 (by simp)).alloc (.cells #[.slice vo ps.length vc, .bool false, .int .i64 td, .string (str tn)] 37); simp only [Nat.zero_add] at c1 c2 c3)
     go_ret
     exact ⟨by simp, (o0.next ho1 (by simp)).alloc _⟩
   ·have g41 : (op == 41) = false := by simpa using h41
    have e1 : Hid (decide (op = 41) = false) := decide_eq_false h41
    rw [e1.out]
    go_enter Tryz.func197, Tryz.ntmps197
    go_wp2_with (go_at_call 215; refine HM.out.mono ?_; rintro e w1 ⟨vo, vc, rfl, hown, ho1⟩; clear hown; obtain ⟨c0, c1, c2, c3⟩ := (I0.out.only ho1 (by simp)).alloc (.cells #[.slice vo ps.length vc, .bool void, .int .i64 td, .string (str tn)] 37); simp only [Nat.zero_add] at c1 c2 c3)
    go_ret
    exact ⟨by simp, (o0.next ho1 (by simp)).alloc _⟩
  ·have gn : (nm == initL) = false := by simpa using hn
   rw [decide_eq_false hn]
   by_cases h41 : op = 41
   ·subst h41
    go_enter Tryz.func197, Tryz.ntmps197
    go_wp2_with (go_at_call 215; refine HM.out.mono ?_; rintro e w1 ⟨vo, vc, rfl, hown, ho1⟩; clear hown; obtain ⟨c0, c1, c2, c3⟩ := (I0.out.only ho1 (by simp)).alloc (.cells #[.slice vo ps.length vc, .bool void, .int .i64 td, .string (str tn)] 37); simp only [Nat.zero_add] at c1 c2 c3)
    go_ret
    exact ⟨by simp, (o0.next ho1 (by simp)).alloc _⟩
   ·have g41 : (op == 41) = false := by simpa using h41
    have e1 : Hid (decide (op = 41) = false) := decide_eq_false h41
    rw [e1.out]
    go_enter Tryz.func197, Tryz.ntmps197
    go_wp2_with (go_at_call 215; refine HM.out.mono ?_; rintro e w1 ⟨vo, vc, rfl, hown, ho1⟩; clear hown; obtain ⟨c0, c1, c2, c3⟩ := (I0.out.only ho1 (by simp)).alloc (.cells #[.slice vo ps.length vc, .bool void, .int .i64 td, .string (str tn)] 37); simp only [Nat.zero_add] at c1 c2 c3)
    go_ret
    exact ⟨by simp, (o0.next ho1 (by simp)).alloc _⟩
 ·have ge : (er == 0) = false := by simpa using he
  rw [if_neg he]
  go_enter Tryz.func197, Tryz.ntmps197
  go_wp2_with (go_at_call 215; refine HM.out.mono ?_; rintro e w1 ⟨vo, vc, rfl, hown, ho1⟩; clear hown)
  go_ret
  exact ⟨rfl, (o0.next ho1 (by simp)).alloc _⟩

set_option maxHeartbeats 1000000 in
set_option maxRecDepth 100000 in
theorem wrong_in {w : World} {ao go : Option Addr} {l : List En} {bl : List Bool} {d dg cap gc : Nat} (hE : ES w ao l d) (hl : l.length ≤ 9223372036854775807) (hA : ∀ e ∈ l, e.2.1.length ≤ 9223372036854775807) (hG : RS w go (lcs bl) dg) (_ : bl.length ≤ 9223372036854775807) (locals a op n s : Int) (hn : 0 ≤ n) :
  Calls Tryz.prog 170 #[.agg #[.slice ao l.length cap, .int .i64 locals, .slice go bl.length gc], inV (a, op, n, s)] w fun e w' => e = .returned (.int .i64 (wrongB bl l locals (a, op, n, s))) ∧ Only [] w w' := by
 have o0 := ((Only.refl [] w).alloc (.cells #[.slice ao l.length cap, .int .i64 locals, .slice go bl.length gc] 248)).alloc (.cells #[.int .i64 a, .int .i64 op, .int .i64 n, .int .i64 s] 250)
 have HR := row_any op ((w.alloc (.cells #[.slice ao l.length cap, .int .i64 locals, .slice go bl.length gc] 248)).alloc (.cells #[.int .i64 a, .int .i64 op, .int .i64 n, .int .i64 s] 250))
 have hE0 := hE.only o0 (by simp)
 have H3 := hid (pnumber_any (cap := cap) hE0 hl hA n)
 have H5 := hid (pclass_any (cap := cap) hE0 hl hA n)
 have H6 := hid (pfield_any (cap := cap) hE0 hl hA n)
 have H7 := hid (fun hr => wtype_any (cap := cap) hE0 hl hA locals (.slice go bl.length gc) a op n s hr ⟨_, _, _, rfl⟩)
 have H8 := hid (wmethod_any (cap := cap) hE0 hl hA locals (.slice go bl.length gc) a op n s ⟨_, _, _, rfl⟩)
 obtain ⟨_, _, r0, r8⟩ := row_op op
 have ew : wrongB bl l locals (a, op, n, s) = if rowI op = 2 then (if locals ≤ n then 43 else 0) else if rowI op = 4 then (if bl.getD n.toNat false = true then 0 else 18) else if rowI op = 3 then (numberR l n).2 else if rowI op = 5 then (classR l n).2 else if rowI op = 6 then (fieldR l n).2 else if rowI op = 7 then typeW l op n else if rowI op = 8 then methodW l op n else 0 := rfl
 rw [ew]
 clear ew hE hE0 hA
 simp only [inV] at H7 H8 ⊢
 generalize rowI op = r at *
 generalize numberR l n = X3 at *
 generalize classR l n = X5 at *
 generalize fieldR l n = X6 at *
 generalize typeW l op n = X7 at *
 generalize methodW l op n = X8 at *
 obtain ⟨x3, e3⟩ := X3
 obtain ⟨x5, e5⟩ := X5
 obtain ⟨⟨x6, y6, z6⟩, e6⟩ := X6
 simp only [tyV] at H3 H5 H6 ⊢
 replace HR := hid HR
 rcases (by omega : r = 0 ∨ r = 1 ∨ r = 2 ∨ r = 3 ∨ r = 4 ∨ r = 5 ∨ r = 6 ∨ r = 7 ∨ r = 8) with rfl | rfl | rfl | rfl | rfl | rfl | rfl | rfl | rfl
 ·clear H3 H5 H6 H7 H8
  go_enter Tryz.func170, Tryz.ntmps170
  go_wp2_with (go_at_call 192; refine HR.out.mono ?_; rintro e w' ⟨rfl, rfl⟩)
  go_ret
  exact ⟨rfl, o0⟩
 ·clear H3 H5 H6 H7 H8
  go_enter Tryz.func170, Tryz.ntmps170
  go_wp2_with (go_at_call 192; refine HR.out.mono ?_; rintro e w' ⟨rfl, rfl⟩)
  go_ret
  exact ⟨rfl, o0⟩
 ·clear H3 H5 H6 H7 H8
  rw [if_pos rfl]
  by_cases h : locals ≤ n
  ·rw [if_pos h]
   go_enter Tryz.func170, Tryz.ntmps170
   go_wp2_with (go_at_call 192; refine HR.out.mono ?_; rintro e w' ⟨rfl, rfl⟩)
   go_ret
   exact ⟨rfl, o0⟩
  ·rw [if_neg h]
   go_enter Tryz.func170, Tryz.ntmps170
   go_wp2_with (go_at_call 192; refine HR.out.mono ?_; rintro e w' ⟨rfl, rfl⟩)
   go_ret
   exact ⟨rfl, o0⟩
 ·clear H5 H6 H7 H8
  go_enter Tryz.func170, Tryz.ntmps170
  go_wp2_with (first | (go_at_call 192; refine HR.out.mono ?_; rintro e w' ⟨rfl, rfl⟩) | (go_at_call 193; refine H3.out.mono ?_; rintro e w2 ⟨rfl, ho2⟩))
  go_ret
  exact ⟨rfl, o0.next ho2 (by simp)⟩
 ·clear H3 H5 H6 H7 H8
  rw [if_neg (by decide), if_pos rfl]
  obtain ⟨k, rfl⟩ : ∃ k : Nat, n = (k : Int) := ⟨n.toNat, by omega⟩
  rw [Int.toNat_natCast]
  by_cases hk : k < bl.length
  ·obtain ⟨off, rfl, hc⟩ := (hG.only0 o0).at (j := k) (by rw [lcs_length]; omega)
   have y0 := hc k _ (lcs_get bl k hk)
   have g1 : ¬ ((bl.length : Int) ≤ (k : Int)) := by omega
   have g2 : ((k : Int) < (bl.length : Int)) := by omega
   have eg : bl.getD k false = bl[k] := by simp [List.getD, hk]
   rw [eg]
   clear hc hG eg
   generalize bl[k] = z at *
   cases z with
   | true =>
    go_enter Tryz.func170, Tryz.ntmps170
    go_wp2_with (go_at_call 192; refine HR.out.mono ?_; rintro e w' ⟨rfl, rfl⟩)
    go_ret
    exact ⟨rfl, o0⟩
   | false =>
    go_enter Tryz.func170, Tryz.ntmps170
    go_wp2_with (go_at_call 192; refine HR.out.mono ?_; rintro e w' ⟨rfl, rfl⟩)
    go_ret
    exact ⟨rfl, o0⟩
  ·have g1 : ((bl.length : Int) ≤ (k : Int)) := by omega
   have eg : bl.getD k false = false := by simp [List.getD, List.getElem?_eq_none (Nat.le_of_not_lt hk)]
   rw [eg]
   clear hG eg
   go_enter Tryz.func170, Tryz.ntmps170
   go_wp2_with (go_at_call 192; refine HR.out.mono ?_; rintro e w' ⟨rfl, rfl⟩)
   go_ret
   exact ⟨rfl, o0⟩
 ·clear H3 H6 H7 H8
  go_enter Tryz.func170, Tryz.ntmps170
  go_wp2_with (first | (go_at_call 192; refine HR.out.mono ?_; rintro e w' ⟨rfl, rfl⟩) | (go_at_call 194; refine H5.out.mono ?_; rintro e w2 ⟨rfl, ho2⟩))
  go_ret
  exact ⟨rfl, o0.next ho2 (by simp)⟩
 ·clear H3 H5 H7 H8
  go_enter Tryz.func170, Tryz.ntmps170
  go_wp2_with (first | (go_at_call 192; refine HR.out.mono ?_; rintro e w' ⟨rfl, rfl⟩) | (go_at_call 195; refine H6.out.mono ?_; rintro e w2 ⟨rfl, ho2⟩))
  go_ret
  exact ⟨rfl, o0.next ho2 (by simp)⟩
 ·clear H3 H5 H6 H8
  replace H7 := hid (H7.out rfl)
  go_enter Tryz.func170, Tryz.ntmps170
  go_wp2_with (first | (go_at_call 192; refine HR.out.mono ?_; rintro e w' ⟨rfl, rfl⟩) | (go_at_call 196; refine H7.out.mono ?_; rintro e w2 ⟨rfl, ho2⟩))
  go_ret
  exact ⟨rfl, o0.next ho2 (by simp)⟩
 ·clear H3 H5 H6 H7
  go_enter Tryz.func170, Tryz.ntmps170
  go_wp2_with (first | (go_at_call 192; refine HR.out.mono ?_; rintro e w' ⟨rfl, rfl⟩) | (go_at_call 197; refine H8.out.mono ?_; rintro e w2 ⟨rfl, ho2⟩))
  go_ret
  exact ⟨rfl, o0.next ho2 (by simp)⟩

theorem i64_or_nat (a b : Nat) (ha : a < 4611686018427387904) (hb : b < 4611686018427387904) : bits .or .i64 (a : Int) (b : Int) = ((a ||| b : Nat) : Int) := by
 have hx : a ||| b < 2 ^ 62 := Nat.or_lt_two_pow (by omega) (by omega)
 show IntKind.i64.wrap ((BitVec.ofInt 64 (a : Int) ||| BitVec.ofInt 64 (b : Int)).toNat : Int) = _
 rw [BitVec.toNat_or, ofInt_u64 a (by omega), ofInt_u64 b (by omega), IntKind.wrap_i64]
 omega

/-- A number moved by a byte, and a byte. -/
theorem or_shl8 (x c : Nat) (hx : x < 65536) (hc : c < 256) : bits .or .i64 ((x : Int) * 256) (c : Int) = ((x * 256 + c : Nat) : Int) := by
 have e1 : (x : Int) * 256 = ((x * 256 : Nat) : Int) := by omega
 rw [e1, i64_or_nat _ _ (by omega) (by omega), nat_join 8 _ _ (by omega) (by omega)]

/-- A slice of a row of bytes. -/
theorem slice_mid (ao : Option Addr) (len cap i j : Nat) (hij : i ≤ j) (hj : j ≤ cap) (w : World) :
  ∃ ao', (Instr.slice 38 (.slice ao len cap) (some (.int .i64 (i : Int))) (some (.int .i64 (j : Int))) none).run Tryz.prog w = .ok (.slice ao' (j - i) (cap - i)) w ∧ (i < cap → ao' = ao.map (·.add i)) := by
 obtain ⟨i0, hi, hz0, hz1, hz2⟩ := elByte.parts
 refine ⟨if cap = i then ao else ao.map (·.add i), ?_, fun h => by rw [if_neg (by omega)]⟩
 simp [Instr.slice, run_underlying Tryz.underlying38, Instr.sliceBounds, run_sliceBound, sizeOf, typeInfo, hi, hz1, hij, hj]

/-- The bytes of a slice of a row. -/
theorem RS.mid {w : World} {off d : Nat} {l : List UInt8} (h : ∀ j u, (bcs l)[j]? = some u → w.cell? ⟨d, off + j, none⟩ = some u) (i k : Nat) (hk : i + k < l.length) : w.cell? ⟨d, off + i + k, none⟩ = some (.int .u8 (l[i + k].toNat : Int)) := by
 have := h (i + k) _ (bcs_get l (i + k) hk)
 rw [Nat.add_assoc]
 exact this

theorem in_result {w : World} {b : Nat} {i : In} {x : Value} (h : InAt w b 0 i) (tmps : Array Value) (h2 : tmps.getD 4 undef = .pointer (some ⟨b, 0, none⟩)) (h3 : tmps.getD 5 undef = x) :
  (results Tryz.f191 tmps).run Tryz.prog w = .ok (.tuple #[inV i, x]) w := by
 obtain ⟨c0, c1, c2, c3⟩ := h
 rw [results_cell_tmp (p := 4) (u := 5) (ty := 250) Tryz.results191, h2, h3]
 simp only [Nat.zero_add] at c1 c2 c3
 simp [go_sem, c0, c1, c2, c3, inV]

/-- What decode does at a place of the code. -/
theorem decR_at {code : List UInt8} {k : Nat} (h : k < code.length) : decR code (k : Int) = if sizeN code[k].toNat = 0 then (in0, 17) else if code.length - k < sizeN code[k].toNat then (in0, 11) else (((k : Int), (code[k].toNat : Int), (beI ((code.drop (k + 1)).take (sizeN code[k].toNat - 1)) : Int), (sizeN code[k].toNat : Int)), 0) := by
 unfold decR
 rw [if_neg (by omega), Int.toNat_natCast, List.drop_eq_getElem_cons h, decAt]
 have e : (code.drop (k + 1)).length + 1 = code.length - k := by simp; omega
 rw [e]

theorem decR_out {code : List UInt8} {at_ : Int} (h : at_ < 0 ∨ (code.length : Int) ≤ at_) : decR code at_ = (in0, 11) := by
 unfold decR
 by_cases h0 : at_ < 0
 ·rw [if_pos h0]
 ·rw [if_neg h0, List.drop_eq_nil_of_le (by omega)]
  rfl

set_option maxHeartbeats 1000000 in
set_option maxRecDepth 100000 in
theorem dec_any {w : World} {ao : Option Addr} {code : List UInt8} {d cap : Nat} (hB : RS w ao (bcs code) d) (hc : code.length ≤ cap) (hl : cap ≤ 9223372036854775807) (at_ : Int) :
  Calls Tryz.prog 191 #[.slice ao code.length cap, .int .i64 at_] w fun e w' => e = .returned (.tuple #[inV (decR code at_).1, .int .i64 (decR code at_).2]) ∧ Only [] w w' := by
 have o0 := hid ((Only.refl [] w).alloc (.cells #[.int .i64 0, .int .i64 0, .int .i64 0, .int .i64 0] 250))
 by_cases h0 : at_ < 0
 ·rw [decR_out (.inl h0)]
  clear hB
  go_enter Tryz.func191, Tryz.ntmps191
  go_wp2
  exact bodyPost_ret (in_result (inAt_new w 0 0 0 0 250) _ rfl rfl) rfl ⟨rfl, o0.out⟩
 by_cases h1 : (code.length : Int) ≤ at_
 ·rw [decR_out (.inr h1)]
  clear hB
  go_enter Tryz.func191, Tryz.ntmps191
  go_wp2
  exact bodyPost_ret (in_result (inAt_new w 0 0 0 0 250) _ rfl rfl) rfl ⟨rfl, o0.out⟩
 obtain ⟨k, rfl⟩ : ∃ k : Nat, at_ = (k : Int) := ⟨at_.toNat, by omega⟩
 have hk : k < code.length := by omega
 rw [decR_at hk]
 obtain ⟨off, rfl, hcells⟩ := hB.at (j := k) (by rw [bcs_length]; omega)
 have y0 := hcells k _ (bcs_get code k hk)
 have y0' := fun o => cell_alloc o y0
 have hsz := sizeN_le code[k].toNat
 have HS := fun W => size_any (code[k].toNat : Int) W
 have hcn := code[k].toNat_lt
 have hmid := hid (RS.mid hcells (k + 1))
 clear hcells hB
 generalize code[k].toNat = c at *
 generalize sizeN (c : Int) = z at *
 replace HS := hid HS
 by_cases hz : z = 0
 ·subst hz
  rw [if_pos rfl]
  clear hmid
  go_enter Tryz.func191, Tryz.ntmps191
  go_wp2_with (go_at_call 210; refine (HS.out _).mono ?_; rintro e w' ⟨rfl, rfl⟩)
  exact bodyPost_ret (in_result (inAt_new w 0 0 0 0 250) _ rfl rfl) rfl ⟨rfl, o0.out⟩
 rw [if_neg hz]
 have gz : ((z : Int) == 0) = false := by simp; omega
 have gz' : ¬ ((z : Int) = 0) := by omega
 by_cases hs : code.length - k < z
 ·rw [if_pos hs]
  have g1 : ((code.length : Int) - (k : Int) < (z : Int)) := by omega
  clear hmid
  go_enter Tryz.func191, Tryz.ntmps191
  go_wp2_with (go_at_call 210; refine (HS.out _).mono ?_; rintro e w' ⟨rfl, rfl⟩)
  exact bodyPost_ret (in_result (inAt_new w 0 0 0 0 250) _ rfl rfl) rfl ⟨rfl, o0.out⟩
 rw [if_neg hs]
 have g1 : ¬ ((code.length : Int) - (k : Int) < (z : Int)) := by omega
 obtain ⟨ao', hsl, hao⟩ := slice_mid (some ⟨d, off, none⟩) code.length cap (k + 1) (k + z) (by omega) (by omega) (w.alloc (.cells #[.int .i64 0, .int .i64 0, .int .i64 0, .int .i64 0] 250))
 rw [show ((k + 1 : Nat) : Int) = (k : Int) + 1 by omega, show ((k + z : Nat) : Int) = (k : Int) + (z : Int) by omega, show k + z - (k + 1) = z - 1 by omega] at hsl
 obtain ⟨bs, hbs⟩ : ∃ bs, bs = (code.drop (k + 1)).take (z - 1) := ⟨_, rfl⟩
 rw [← hbs]
 have hbl : bs.length = z - 1 := by rw [hbs]; simp; omega
 have hget : ∀ j (hj : j < bs.length), ao' = some ⟨d, off + (k + 1), none⟩ ∧ w.cell? ⟨d, off + (k + 1) + j, none⟩ = some (.int .u8 (bs[j].toNat : Int)) := by
  intro j hj
  refine ⟨by rw [hao (by omega)]; simp [Addr.add_lit], ?_⟩
  rw [hmid.out j (by omega)]
  congr 3
  simp [hbs]
 clear hmid hbs
 rw [← hbl] at hsl
 replace hget := hid hget
 replace hao := hid hao
 have hb2 : bs.length ≤ 2 := by omega
 have hz1 : z ≤ bs.length + 1 := by omega
 have hz2 : bs.length + 1 ≤ z := by omega
 clear hbl
 go_enter Tryz.func191, Tryz.ntmps191
 go_wp2_with (go_at_call 210; refine (HS.out _).mono ?_; rintro e w' ⟨rfl, rfl⟩)
 go_loop [8, 45] (fun x i => ∃ j : Nat, j ≤ bs.length ∧ i = .int .i64 j ∧ x = .int .i64 (beI (bs.take j) : Int)) (fun _ i => bs.length - (intOf i).toNat)
 case atStart => exact ⟨0, Nat.zero_le _, rfl, rfl⟩
 case round =>
  obtain ⟨j, hj, rfl, rfl⟩ := hrel
  by_cases hlt : j < bs.length
  ·obtain ⟨rfl, hcell⟩ := hget.out j hlt
   have hcell' := fun o => cell_alloc o hcell
   have g2 : ((j : Int) < (bs.length : Int)) := by omega
   have hb := beI_lt (bs.take j)
   have hb' : beI (bs.take j) < 65536 := Nat.lt_of_lt_of_le hb (Nat.le_trans (Nat.pow_le_pow_right (by decide) (show (bs.take j).length ≤ 2 by simp; omega)) (by decide))
   have hor := or_shl8 (beI (bs.take j)) bs[j].toNat hb' bs[j].toNat_lt
   have hsucc := beI_take_succ bs j hlt
   have hbn := bs[j].toNat_lt
   clear hget hao hb
   go_wp2
   refine ⟨⟨j + 1, by omega, by go_num, ?_⟩, by simp [intOf]; omega⟩
   rw [hsucc]
   exact congrArg _ (by omega)
  ·have g2 : ¬ ((j : Int) < (bs.length : Int)) := by omega
   have e1 : Hid (bs.take j = bs) := List.take_of_length_le (by omega)
   clear hget hao
   go_wp2
   rw [e1.out]
   exact bodyPost_ret (in_result (inAt_new w (k : Int) (c : Int) (beI bs : Int) (z : Int) 250) _ rfl rfl) rfl ⟨rfl, (Only.refl [] w).alloc _⟩

/-- An instruction in a block of its own that may be written. -/
structure InW (w : World) (b : Nat) (i : In) : Prop where
 at_ : InAt w b 0 i
 fr : ∀ j, w.frozen? ⟨b, j, none⟩ = false

theorem inW_new (w : World) (a op n s : Int) (t : TypeId) : InW (w.alloc (.cells #[.int .i64 a, .int .i64 op, .int .i64 n, .int .i64 s] t)) w.heap.size (a, op, n, s) := ⟨inAt_new w a op n s t, fun _ => frozen_new _ _ _ _⟩

theorem InW.only {w w' : World} {S : List Nat} {b : Nat} {i : In} (h : InW w b i) (ho : Only S w w') (hb : b ∉ S) : InW w' b i :=
 ⟨h.at_.only ho hb, fun j => by rw [ho.frozen h.at_.lt hb]; exact h.fr j⟩

theorem InW.put2 {w : World} {b : Nat} {i : In} (h : InW w b i) (x : Int) : InW (w.setCell ⟨b, 2, none⟩ (.int .i64 x)) b (i.1, i.2.1, x, i.2.2.2) := by
 obtain ⟨⟨c0, c1, c2, c3⟩, f⟩ := h
 simp only [Nat.zero_add] at c1 c2 c3
 refine ⟨⟨?_, ?_, ?_, ?_⟩, fun j => by rw [frozen_setCell]; exact f j⟩
 ·rw [cell_setCell_ne _ _ (by simp)]; exact c0
 ·rw [Nat.zero_add, cell_setCell_ne _ _ (by simp)]; exact c1
 ·rw [Nat.zero_add]; exact cell_setCell_same _ _ c2
 ·rw [Nat.zero_add, cell_setCell_ne _ _ (by simp)]; exact c3

theorem InW.put {w : World} {b : Nat} {i : In} (h : InW w b i) (a op n s : Int) :
  InW ((((w.setCell ⟨b, 0, none⟩ (.int .i64 a)).setCell ⟨b, 1, none⟩ (.int .i64 op)).setCell ⟨b, 2, none⟩ (.int .i64 n)).setCell ⟨b, 3, none⟩ (.int .i64 s)) b (a, op, n, s) := by
 obtain ⟨⟨c0, c1, c2, c3⟩, f⟩ := h
 simp only [Nat.zero_add] at c1 c2 c3
 refine ⟨⟨?_, ?_, ?_, ?_⟩, fun j => by rw [frozen_setCell, frozen_setCell, frozen_setCell, frozen_setCell]; exact f j⟩
 ·rw [cell_setCell_ne _ _ (by simp), cell_setCell_ne _ _ (by simp), cell_setCell_ne _ _ (by simp)]
  exact cell_setCell_same _ _ c0
 ·rw [Nat.zero_add, cell_setCell_ne _ _ (by simp), cell_setCell_ne _ _ (by simp)]
  exact cell_setCell_same _ _ (by rw [cell_setCell_ne _ _ (by simp)]; exact c1)
 ·rw [Nat.zero_add, cell_setCell_ne _ _ (by simp)]
  exact cell_setCell_same _ _ (by rw [cell_setCell_ne _ _ (by simp), cell_setCell_ne _ _ (by simp)]; exact c2)
 ·rw [Nat.zero_add]
  exact cell_setCell_same _ _ (by rw [cell_setCell_ne _ _ (by simp), cell_setCell_ne _ _ (by simp), cell_setCell_ne _ _ (by simp)]; exact c3)

theorem InW.drew {w : World} {b : Nat} {i : In} (h : InW w b i) : InW w.drew b i := h.only (Only.refl [] w).drew (by simp)

/-- Four cells of a new block written. -/
theorem Only.put4 {w w' : World} (h : Only [] w w') {b : Nat} (hb : w.heap.size ≤ b) (x y z t : Value) : Only [] w ((((w'.setCell ⟨b, 0, none⟩ x).setCell ⟨b, 1, none⟩ y).setCell ⟨b, 2, none⟩ z).setCell ⟨b, 3, none⟩ t) :=
 (((h.setCell (.inr hb) x).setCell (.inr hb) y).setCell (.inr hb) z).setCell (.inr hb) t

theorem rin_result {w : World} {b : Nat} {i : In} {x : Value} (h : InAt w b 0 i) (tmps : Array Value) (h2 : tmps.getD 4 undef = .pointer (some ⟨b, 0, none⟩)) (h3 : tmps.getD 5 undef = x) :
  (results Tryz.f226 tmps).run Tryz.prog w = .ok (.tuple #[inV i, x]) w := by
 obtain ⟨c0, c1, c2, c3⟩ := h
 rw [results_cell_tmp (p := 4) (u := 5) (ty := 250) Tryz.results226, h2, h3]
 simp only [Nat.zero_add] at c1 c2 c3
 simp [go_sem, c0, c1, c2, c3, inV]

set_option maxHeartbeats 1000000 in
set_option maxRecDepth 100000 in
theorem rdec_any {w : World} {ao : Option Addr} {code : List UInt8} {d cap : Nat} (hB : RS w ao (bcs code) d) (hc : code.length ≤ cap) (hl : cap ≤ 9223372036854775807) (at_ : Int) :
  Calls Tryz.prog 226 #[.slice ao code.length cap, .int .i64 at_] w fun e w' => e = .returned (.tuple #[inV (decR code at_).1, .int .i64 (decR code at_).2]) ∧ Only [] w w' := by
 have o0 := hid ((Only.refl [] w).alloc (.cells #[.int .i64 0, .int .i64 0, .int .i64 0, .int .i64 0] 250))
 by_cases h0 : at_ < 0
 ·rw [decR_out (.inl h0)]
  clear hB
  go_enter Tryz.func226, Tryz.ntmps226
  go_wp2
  exact bodyPost_ret (rin_result (inAt_new w 0 0 0 0 250) _ rfl rfl) rfl ⟨rfl, o0.out⟩
 by_cases h1 : (code.length : Int) ≤ at_
 ·rw [decR_out (.inr h1)]
  clear hB
  go_enter Tryz.func226, Tryz.ntmps226
  go_wp2
  exact bodyPost_ret (rin_result (inAt_new w 0 0 0 0 250) _ rfl rfl) rfl ⟨rfl, o0.out⟩
 obtain ⟨k, rfl⟩ : ∃ k : Nat, at_ = (k : Int) := ⟨at_.toNat, by omega⟩
 have hk : k < code.length := by omega
 rw [decR_at hk]
 have hB' := hid hB
 obtain ⟨off, rfl, hcells⟩ := hB.at (j := k) (by rw [bcs_length]; omega)
 have y0 := hcells k _ (bcs_get code k hk)
 have y0' := fun o => cell_alloc o y0
 have hsz := sizeN_le code[k].toNat
 have HS := fun W => rsize_any (code[k].toNat : Int) W
 have hcn := code[k].toNat_lt
 clear hcells hB
 obtain ⟨bs, hbs⟩ : ∃ bs, bs = (code.drop (k + 1)).take (sizeN code[k].toNat - 1) := ⟨_, rfl⟩
 rw [← hbs]
 generalize code[k].toNat = c at *
 generalize sizeN (c : Int) = z at *
 replace HS := hid HS
 by_cases hz : z = 0
 ·subst hz
  rw [if_pos rfl]
  clear hbs hB'
  go_enter Tryz.func226, Tryz.ntmps226
  go_wp2_with (go_at_call 235; refine (HS.out _).mono ?_; rintro e w' ⟨rfl, rfl⟩)
  exact bodyPost_ret (rin_result ((inAt_new w 0 0 0 0 250).alloc _) _ rfl rfl) rfl ⟨rfl, o0.out.alloc _⟩
 rw [if_neg hz]
 have gz : ((z : Int) == 0) = false := by simp; omega
 have gz' : ¬ ((z : Int) = 0) := by omega
 by_cases hs : code.length - k < z
 ·rw [if_pos hs]
  have g1 : ((code.length : Int) - (k : Int) < (z : Int)) := by omega
  clear hbs hB'
  go_enter Tryz.func226, Tryz.ntmps226
  go_wp2_with (go_at_call 235; refine (HS.out _).mono ?_; rintro e w' ⟨rfl, rfl⟩)
  exact bodyPost_ret (rin_result ((inAt_new w 0 0 0 0 250).alloc _) _ rfl rfl) rfl ⟨rfl, o0.out.alloc _⟩
 rw [if_neg hs]
 have g1 : ¬ ((code.length : Int) - (k : Int) < (z : Int)) := by omega
 have hbl : bs.length = z - 1 := by rw [hbs]; simp; omega
 have hget : ∀ W, Only [] w W → ∀ j (hj : j < bs.length), W.cell? ⟨d, off + (k + (j + 1)), none⟩ = some (.int .u8 (bs[j].toNat : Int)) := by
  intro W hW j hj
  obtain ⟨off', ho, hcell⟩ := (hB'.out.only0 hW).byteAt (j := k + (j + 1)) (by omega)
  cases ho
  have e : bs[j]? = code[k + 1 + j]? := by rw [hbs, List.getElem?_take, if_pos (by omega), List.getElem?_drop]
  rw [List.getElem?_eq_getElem hj, show k + 1 + j = k + (j + 1) by omega, List.getElem?_eq_getElem (by omega), Option.some.injEq] at e
  rw [hcell, e]
 clear hbs hB'
 replace hget := hid hget
 have hb2 : bs.length ≤ 2 := by omega
 have hz1 : z ≤ bs.length + 1 := by omega
 have hz2 : bs.length + 1 ≤ z := by omega
 clear hbl
 have I0 := hid ((inW_new w 0 0 0 0 250).only ((Only.refl [] _).alloc (.cells #[.int .i64 (k : Int), .int .i64 (c : Int), .int .i64 0, .int .i64 (z : Int)] 250)) (by simp))
 have I1 := hid (inW_new (w.alloc (.cells #[.int .i64 0, .int .i64 0, .int .i64 0, .int .i64 0] 250)) (k : Int) (c : Int) 0 (z : Int) 250)
 rw [World.size_alloc] at I1
 go_enter Tryz.func226, Tryz.ntmps226
 go_wp2_with (go_at_call 235; refine (HS.out _).mono ?_; rintro e w' ⟨rfl, rfl⟩)
 go_loopw [7] (fun i wr => ∃ j : Nat, j ≤ bs.length ∧ i = .int .i64 ((j : Int) + 1) ∧ Hid (InW wr (w.heap.size + 1) ((k : Int), (c : Int), (beI (bs.take j) : Int), (z : Int))) ∧ Hid (InW wr w.heap.size in0) ∧ Hid (Only [] w wr)) (fun i _ => (bs.length + 1 - intOf i).toNat)
 case atStart => exact ⟨0, Nat.zero_le _, rfl, I1, I0, hid (o0.out.alloc _)⟩
 case round =>
  obtain ⟨j, hj, rfl, i1, i0, hor⟩ := hrel
  clear I0 I1
  obtain ⟨⟨c0, c1, c2, c3⟩, f⟩ := i1.out
  simp only [Nat.zero_add] at c1 c2 c3
  have f2 := f 2
  clear f
  by_cases hlt : j < bs.length
  ·have hcell := hget.out wr hor.out j hlt
   have g2 : ((j : Int) + 1 < (z : Int)) := by omega
   have hb := beI_lt (bs.take j)
   have hb' : beI (bs.take j) < 65536 := Nat.lt_of_lt_of_le hb (Nat.le_trans (Nat.pow_le_pow_right (by decide) (show (bs.take j).length ≤ 2 by simp; omega)) (by decide))
   have hsucc := hid (beI_take_succ bs j hlt)
   have hbn := bs[j].toNat_lt
   clear hget hb
   go_wp2_with fail
   go_region
   go_wp2
   refine ⟨⟨j + 1, by omega, by go_num, ?_, ?_, ?_⟩, by simp [intOf]; omega⟩
   ·have := i1.out.put2 (256 * (beI (bs.take j) : Int) + (bs[j].toNat : Int))
    rw [hsucc.out]
    rw [show (256 : Int) * (beI (bs.take j) : Int) + (bs[j].toNat : Int) = ((beI (bs.take j) * 256 + bs[j].toNat : Nat) : Int) by omega] at this ⊢
    exact hid this.drew
   ·exact hid (i0.out.only (S := [w.heap.size + 1]) ((Only.refl _ _).setCell (.inl (by simp)) _).drew (by simp))
   ·exact hid (hor.out.setCell (.inr (by simp)) _).drew
  ·have g2 : ¬ ((j : Int) + 1 < (z : Int)) := by omega
   have e1 : Hid (bs.take j = bs) := List.take_of_length_le (by omega)
   obtain ⟨⟨b0, b1, b2, b3⟩, e⟩ := i0.out
   simp only [Nat.zero_add] at b1 b2 b3
   have e0 := e 0
   have e1' := e 1
   have e2 := e 2
   have e3 := e 3
   clear hget e
   go_wp2
   rw [e1.out]
   exact bodyPost_ret (rin_result (i0.out.put (k : Int) (c : Int) (beI bs : Int) (z : Int)).at_ _ rfl rfl) rfl ⟨rfl, hor.out.put4 (Nat.le_refl _) _ _ _ _⟩

/-- What All answers. -/
def AllPost (w : World) (r : List In × Int × Int) (e : Ending) (w' : World) : Prop :=
 ∃ ao cap, e = .returned (.tuple #[.slice ao r.1.length cap, .int .i64 r.2.1, .int .i64 r.2.2]) ∧ w'.ownsRow w.heap.size 250 4 (.slice ao r.1.length cap) r.1.length (qcs r.1) ∧ Only [] w w'

theorem joinR_zero (l : List In) (r : List In × Int × Int) : (joinR l r).2.2 = 0 → (joinR l r).2.1 = 0 := by
 unfold joinR
 split
 ·intro _; rfl
 ·intro h; contradiction
theorem joinR_none (l : List In) (r : List In × Int × Int) : (joinR l r).2.2 ≠ 0 → (joinR l r).1 = [] := by
 unfold joinR
 split
 ·intro h; exact absurd rfl h
 ·intro _; rfl

theorem allL_zero (f k : Nat) (bs : List UInt8) : (allL f k bs).2.2 = 0 → (allL f k bs).2.1 = 0 := by
 cases f with
 | zero => intro _; rfl
 | succ f =>
  unfold allL
  split
  ·intro _; rfl
  ·split
   ·exact joinR_zero _ _
   ·intro h; contradiction
theorem allL_none (f k : Nat) (bs : List UInt8) : (allL f k bs).2.2 ≠ 0 → (allL f k bs).1 = [] := by
 cases f with
 | zero => intro _; rfl
 | succ f =>
  unfold allL
  split
  ·intro _; rfl
  ·split
   ·exact joinR_none _ _
   ·intro _; rfl

set_option maxHeartbeats 1000000 in
set_option maxRecDepth 100000 in
theorem all_any {w : World} {ao : Option Addr} {code : List UInt8} {d cap : Nat} (hB : RS w ao (bcs code) d) (hc : code.length ≤ cap) (hl : cap ≤ 9223372036854775807) (hs : code.length ≤ 100000) :
  Calls Tryz.prog 169 #[.slice ao code.length cap] w (AllPost w (allR code)) := by
 obtain ⟨x, hx⟩ : ∃ x, x = allR code := ⟨_, rfl⟩
 rw [← hx]
 have hr : Hid (x = joinR [] (allL code.length 0 (code.drop 0))) := by
  rw [hx, joinR_nil _ (allL_zero _ _ _) (allL_none _ _ _)]
  rfl
 clear hx
 have HD := hid (fun W (hW : Only [] w W) (k : Nat) => dec_any (hB.only0 hW) hc hl (k : Int))
 clear hB
 go_enter Tryz.func169, Tryz.ntmps169
 go_wp2
 go_loopw [5, 6] (fun v i wr => ∃ (k : Nat) (l : List In) (vo : Option Addr) (vc : Nat), k ≤ code.length ∧ l.length ≤ k ∧ i = .int .i64 (k : Int) ∧ v = .slice vo l.length vc ∧ Hid (x = joinR l (allL code.length k (code.drop k))) ∧ Hid (wr.ownsRow w.heap.size 250 4 (.slice vo l.length vc) l.length (qcs l)) ∧ Only [] w wr) (fun _ i _ => code.length - (intOf i).toNat)
 case atStart => exact ⟨0, [], none, 0, Nat.zero_le _, Nat.le_refl _, rfl, rfl, hr, hid (World.ownsRow_nil _ _ _ _), Only.refl _ _⟩
 case round =>
  obtain ⟨k, l, vo, vc, hk, hlk, rfl, rfl, hq, hown, hor⟩ := hrel
  clear hr
  by_cases hlt : k < code.length
  ·have g2 : ((k : Int) < (code.length : Int)) := by omega
   replace HD := HD.out wr hor k
   have hd : decR code (k : Int) = decAt k (code.drop k) := by unfold decR; rw [if_neg (by omega), Int.toNat_natCast]
   have hne : code.drop k ≠ [] := by
    intro e
    have := congrArg List.length e
    simp at this
    omega
   rw [hd] at HD
   by_cases he : (decAt k (code.drop k)).2 = 0
   ·obtain ⟨c, r, hb, hp, hle, hi⟩ := decAt_ok he
    have hst := allL_step hne (by simp) he (f := code.length)
    rw [hi] at hst
    rw [he, hi] at HD
    simp only [Int.toNat_natCast, List.drop_drop] at hst
    rw [List.length_drop] at hle
    have hz := sizeN_le c.toNat
    generalize beI (r.take (sizeN c.toNat - 1)) = nn at *
    generalize sizeN c.toNat = z at *
    generalize c.toNat = cc at *
    have hq' : Hid (x = joinR (l ++ [((k : Int), (cc : Int), (nn : Int), (z : Int))]) (allL code.length (k + z) (code.drop (k + z)))) := by
     rw [Hid, hq.out, hst, joinR_joinR]
    clear hq hst hd hne hi hb he
    simp only [inV] at HD
    replace HD := hid HD
    go_wp2_with (first | (go_at_call 191; refine HD.out.mono ?_; rintro e w1 ⟨rfl, ho1⟩; have I1 := hid (inAt_new w1 (k : Int) (cc : Int) (nn : Int) (z : Int) 250); replace hown := hid (rows_only hown.out ho1 (by simp))) | (at_builtin; refine wpList_append_any (ys := qcs [((k : Int), (cc : Int), (nn : Int), (z : Int))]) rfl (.tmp 23) (.tmp 25) elIn Tryz.underlying243 rfl rfl rfl (rows_only hown.out (((Only.refl [] w1).alloc (.cells #[.int .i64 (k : Int), .int .i64 (cc : Int), .int .i64 (nn : Int), .int .i64 (z : Int)] 250)).alloc (.cells #[.int .i64 (k : Int), .int .i64 (cc : Int), .int .i64 (nn : Int), .int .i64 (z : Int)] 250)) (by simp)) (rows_in _ _ _ _ _ (by simp)) rfl (qcs_one _) (by simp) (by omega) (by have := hor.size; have := ho1.size; simp; omega) ?_; rintro ao' cap' w2 hA; have hlt1 : ∀ a, vo = some a → w1.heap.size ≠ a.block := fun a ha => (by have := ((RS.of_owns hown.out).2.2.2.2 a ha).2.1; omega); obtain ⟨c0, c1, c2, c3⟩ := (I1.out.alloc _).only hA.only (block_not hlt1); simp only [Nat.zero_add] at c1 c2 c3))
    refine ⟨⟨k + z, l ++ [((k : Int), (cc : Int), (nn : Int), (z : Int))], ao', cap', by omega, by simp; omega, by go_num, by simp, hq', ?_, ?_⟩, by simp [intOf]; omega⟩
    ·have := hA.own
     rw [← qcs_append] at this
     simpa [Hid] using this
    ·exact hA.next (rows_only hown.out (((Only.refl [] w1).alloc _).alloc _) (by simp)) (((hor.next ho1 (by simp)).alloc _).alloc _)
   ·have hst := allL_stop hne (by simp) he (f := code.length)
    rw [(decAt_err he).1] at HD
    have hxx : x = ([], (k : Int), (decAt k (code.drop k)).2) := by
     rw [hq.out, hst]
     unfold joinR
     rw [if_neg he]
    clear hq hst
    generalize (decAt k (code.drop k)).2 = er at *
    subst hxx
    have ge : (er == 0) = false := by simpa using he
    clear hd hne
    simp only [inV, in0] at HD
    replace HD := hid HD
    go_wp2_with (go_at_call 191; refine HD.out.mono ?_; rintro e w1 ⟨rfl, ho1⟩)
    go_ret3
    exact ⟨none, 0, rfl, World.ownsRow_nil _ _ _ _, (hor.next ho1 (by simp)).alloc _⟩
  ·have g2 : ¬ ((k : Int) < (code.length : Int)) := by omega
   have hxx : x = (l, 0, 0) := by
    rw [hq.out, List.drop_eq_nil_of_le (by omega), allL_nil]
    simp [joinR]
   subst hxx
   clear HD hq
   go_wp2
   go_ret3
   exact ⟨vo, vc, rfl, hown.out, hor⟩

set_option maxHeartbeats 1000000 in
set_option maxRecDepth 100000 in
theorem rall_any {w : World} {ao : Option Addr} {code : List UInt8} {d cap : Nat} (hB : RS w ao (bcs code) d) (hc : code.length ≤ cap) (hl : cap ≤ 9223372036854775807) (hs : code.length ≤ 100000) :
  Calls Tryz.prog 217 #[.slice ao code.length cap] w (AllPost w (allR code)) := by
 obtain ⟨x, hx⟩ : ∃ x, x = allR code := ⟨_, rfl⟩
 rw [← hx]
 have hr : Hid (x = joinR [] (allL code.length 0 (code.drop 0))) := by
  rw [hx, joinR_nil _ (allL_zero _ _ _) (allL_none _ _ _)]
  rfl
 clear hx
 have HD := hid (fun W (hW : Only [] w W) (k : Nat) => rdec_any (hB.only0 hW) hc hl (k : Int))
 clear hB
 go_enter Tryz.func217, Tryz.ntmps217
 go_wp2
 go_loopw [5, 6] (fun v i wr => ∃ (k : Nat) (l : List In) (vo : Option Addr) (vc : Nat), k ≤ code.length ∧ l.length ≤ k ∧ i = .int .i64 (k : Int) ∧ v = .slice vo l.length vc ∧ Hid (x = joinR l (allL code.length k (code.drop k))) ∧ Hid (wr.ownsRow w.heap.size 250 4 (.slice vo l.length vc) l.length (qcs l)) ∧ Only [] w wr) (fun _ i _ => code.length - (intOf i).toNat)
 case atStart => exact ⟨0, [], none, 0, Nat.zero_le _, Nat.le_refl _, rfl, rfl, hr, hid (World.ownsRow_nil _ _ _ _), Only.refl _ _⟩
 case round =>
  obtain ⟨k, l, vo, vc, hk, hlk, rfl, rfl, hq, hown, hor⟩ := hrel
  clear hr
  by_cases hlt : k < code.length
  ·have g2 : ((k : Int) < (code.length : Int)) := by omega
   replace HD := HD.out wr hor k
   have hd : decR code (k : Int) = decAt k (code.drop k) := by unfold decR; rw [if_neg (by omega), Int.toNat_natCast]
   have hne : code.drop k ≠ [] := by
    intro e
    have := congrArg List.length e
    simp at this
    omega
   rw [hd] at HD
   by_cases he : (decAt k (code.drop k)).2 = 0
   ·obtain ⟨c, r, hb, hp, hle, hi⟩ := decAt_ok he
    have hst := allL_step hne (by simp) he (f := code.length)
    rw [hi] at hst
    rw [he, hi] at HD
    simp only [Int.toNat_natCast, List.drop_drop] at hst
    rw [List.length_drop] at hle
    have hz := sizeN_le c.toNat
    generalize beI (r.take (sizeN c.toNat - 1)) = nn at *
    generalize sizeN c.toNat = z at *
    generalize c.toNat = cc at *
    have hq' : Hid (x = joinR (l ++ [((k : Int), (cc : Int), (nn : Int), (z : Int))]) (allL code.length (k + z) (code.drop (k + z)))) := by
     rw [Hid, hq.out, hst, joinR_joinR]
    clear hq hst hd hne hi hb he
    simp only [inV] at HD
    replace HD := hid HD
    go_wp2_with (first | (go_at_call 226; refine HD.out.mono ?_; rintro e w1 ⟨rfl, ho1⟩; have I1 := hid (inAt_new w1 (k : Int) (cc : Int) (nn : Int) (z : Int) 250); replace hown := hid (rows_only hown.out ho1 (by simp))) | (at_builtin; refine wpList_append_any (ys := qcs [((k : Int), (cc : Int), (nn : Int), (z : Int))]) rfl (.tmp 23) (.tmp 25) elIn Tryz.underlying243 rfl rfl rfl (rows_only hown.out (((Only.refl [] w1).alloc (.cells #[.int .i64 (k : Int), .int .i64 (cc : Int), .int .i64 (nn : Int), .int .i64 (z : Int)] 250)).alloc (.cells #[.int .i64 (k : Int), .int .i64 (cc : Int), .int .i64 (nn : Int), .int .i64 (z : Int)] 250)) (by simp)) (rows_in _ _ _ _ _ (by simp)) rfl (qcs_one _) (by simp) (by omega) (by have := hor.size; have := ho1.size; simp; omega) ?_; rintro ao' cap' w2 hA; have hlt1 : ∀ a, vo = some a → w1.heap.size ≠ a.block := fun a ha => (by have := ((RS.of_owns hown.out).2.2.2.2 a ha).2.1; omega); obtain ⟨c0, c1, c2, c3⟩ := (I1.out.alloc _).only hA.only (block_not hlt1); simp only [Nat.zero_add] at c1 c2 c3))
    refine ⟨⟨k + z, l ++ [((k : Int), (cc : Int), (nn : Int), (z : Int))], ao', cap', by omega, by simp; omega, by go_num, by simp, hq', ?_, ?_⟩, by simp [intOf]; omega⟩
    ·have := hA.own
     rw [← qcs_append] at this
     simpa [Hid] using this
    ·exact hA.next (rows_only hown.out (((Only.refl [] w1).alloc _).alloc _) (by simp)) (((hor.next ho1 (by simp)).alloc _).alloc _)
   ·have hst := allL_stop hne (by simp) he (f := code.length)
    rw [(decAt_err he).1] at HD
    have hxx : x = ([], (k : Int), (decAt k (code.drop k)).2) := by
     rw [hq.out, hst]
     unfold joinR
     rw [if_neg he]
    clear hq hst
    generalize (decAt k (code.drop k)).2 = er at *
    subst hxx
    have ge : (er == 0) = false := by simpa using he
    clear hd hne
    simp only [inV, in0] at HD
    replace HD := hid HD
    go_wp2_with (go_at_call 226; refine HD.out.mono ?_; rintro e w1 ⟨rfl, ho1⟩)
    go_ret3
    exact ⟨none, 0, rfl, World.ownsRow_nil _ _ _ _, (hor.next ho1 (by simp)).alloc _⟩
  ·have g2 : ¬ ((k : Int) < (code.length : Int)) := by omega
   have hxx : x = (l, 0, 0) := by
    rw [hq.out, List.drop_eq_nil_of_le (by omega), allL_nil]
    simp [joinR]
   subst hxx
   clear HD hq
   go_wp2
   go_ret3
   exact ⟨vo, vc, rfl, hown.out, hor⟩

/-- One round of reading. -/
theorem allL_cases {f k : Nat} {bs : List UInt8} (hf : bs.length ≤ f) :
  (bs = [] ∧ allL f k bs = ([], 0, 0)) ∨
  (∃ c r, bs = c :: r ∧ 0 < sizeN c.toNat ∧ sizeN c.toNat ≤ bs.length ∧ (decAt k bs).1 = ((k : Int), (c.toNat : Int), (beI (r.take (sizeN c.toNat - 1)) : Int), (sizeN c.toNat : Int)) ∧ (decAt k bs).2 = 0 ∧
   allL f k bs = joinR [((k : Int), (c.toNat : Int), (beI (r.take (sizeN c.toNat - 1)) : Int), (sizeN c.toNat : Int))] (allL f (k + sizeN c.toNat) (bs.drop (sizeN c.toNat)))) ∨
  (bs ≠ [] ∧ (decAt k bs).2 ≠ 0 ∧ allL f k bs = ([], (k : Int), (decAt k bs).2)) := by
 by_cases h0 : bs = []
 ·exact .inl ⟨h0, by rw [h0, allL_nil]⟩
 right
 by_cases h1 : (decAt k bs).2 = 0
 ·left
  obtain ⟨c, r, hb, hp, hl, he⟩ := decAt_ok h1
  have := allL_step h0 hf h1
  rw [he] at this
  simp only [Int.toNat_natCast] at this
  exact ⟨c, r, hb, hp, hl, he, h1, this⟩
 ·exact .inr ⟨h0, h1, allL_stop h0 hf h1⟩

theorem joinR_ok {l : List In} {r : List In × Int × Int} (h : r.2.2 = 0) : joinR l r = (l ++ r.1, 0, 0) := by simp [joinR, h]
theorem joinR_no {l : List In} {r : List In × Int × Int} (h : r.2.2 ≠ 0) : joinR l r = ([], r.2.1, r.2.2) := by simp [joinR, h]

/-- Something that holds of each instruction. -/
theorem allL_each {P : In → Prop} (f : Nat) : ∀ (n k : Nat) (bs : List UInt8), bs.length ≤ n → bs.length ≤ f →
  (∀ (k' : Nat) (c : UInt8) (r : List UInt8), k ≤ k' → 0 < sizeN c.toNat → k' + sizeN c.toNat ≤ k + bs.length → P ((k' : Int), (c.toNat : Int), (beI (r.take (sizeN c.toNat - 1)) : Int), (sizeN c.toNat : Int))) → ∀ i ∈ (allL f k bs).1, P i := by
 intro n
 induction n with
 | zero =>
  intro k bs h1 h2 _ i hi
  have : bs = [] := List.eq_nil_of_length_eq_zero (by omega)
  rw [this, allL_nil] at hi
  simp at hi
 | succ n ih =>
  intro k bs h1 h2 hP i hi
  rcases allL_cases (k := k) h2 with ⟨_, e⟩ | ⟨c, r, hb, hp, hl, _, _, e⟩ | ⟨_, _, e⟩
  ·rw [e] at hi; simp at hi
  ·rw [e] at hi
   by_cases h0 : (allL f (k + sizeN c.toNat) (bs.drop (sizeN c.toNat))).2.2 = 0
   ·rw [joinR_ok h0] at hi
    simp only [List.singleton_append, List.mem_cons] at hi
    rcases hi with rfl | hi
    ·exact hP k c r (Nat.le_refl _) hp (by omega)
    ·refine ih (k + sizeN c.toNat) (bs.drop (sizeN c.toNat)) (by simp; omega) (by simp; omega) ?_ i hi
     intro k' c' r' hk hp' hl'
     simp only [List.length_drop] at hl'
     exact hP k' c' r' (by omega) hp' (by omega)
   ·rw [joinR_no h0] at hi; simp at hi
  ·rw [e] at hi; simp at hi

theorem allL_len (f : Nat) : ∀ (n k : Nat) (bs : List UInt8), bs.length ≤ n → bs.length ≤ f → (allL f k bs).1.length ≤ bs.length := by
 intro n
 induction n with
 | zero =>
  intro k bs h1 h2
  have : bs = [] := List.eq_nil_of_length_eq_zero (by omega)
  rw [this, allL_nil]
  simp
 | succ n ih =>
  intro k bs h1 h2
  rcases allL_cases (k := k) h2 with ⟨_, e⟩ | ⟨c, r, hb, hp, hl, _, _, e⟩ | ⟨_, _, e⟩
  ·rw [e]; simp
  ·rw [e]
   by_cases h0 : (allL f (k + sizeN c.toNat) (bs.drop (sizeN c.toNat))).2.2 = 0
   ·rw [joinR_ok h0]
    have := ih (k + sizeN c.toNat) (bs.drop (sizeN c.toNat)) (by simp; omega) (by simp; omega)
    simp only [List.length_drop] at this
    simp
    omega
   ·rw [joinR_no h0]; simp
  ·rw [e]; simp

theorem all_len (code : List UInt8) : (allR code).1.length ≤ code.length := allL_len _ _ _ _ (Nat.le_refl _) (Nat.le_refl _)

/-- What each instruction of some code is. -/
theorem all_each (code : List UInt8) : ∀ i ∈ (allR code).1, 0 ≤ i.1 ∧ i.1 + i.2.2.2 ≤ code.length ∧ 0 ≤ i.2.1 ∧ i.2.1 ≤ 45 ∧ i.2.2.2 = (sizeN i.2.1 : Int) ∧ 0 < i.2.2.2 ∧ 0 ≤ i.2.2.1 ∧ i.2.2.1 < ((256 ^ (sizeN i.2.1 - 1) : Nat) : Int) := by
 refine allL_each code.length code.length 0 code (Nat.le_refl _) (Nat.le_refl _) ?_
 intro k c r _ hp hl
 have hb := beI_lt (r.take (sizeN c.toNat - 1))
 have hr : 256 ^ (r.take (sizeN c.toNat - 1)).length ≤ 256 ^ (sizeN c.toNat - 1) := Nat.pow_le_pow_right (by decide) (by simp; omega)
 have hop : (c.toNat : Int) ≤ 45 := by
  unfold sizeN at hp
  split at hp
  ·omega
  ·omega
 refine ⟨by simp only; omega, by simp only; omega, by simp only; omega, hop, rfl, by simp only; omega, by simp only; omega, ?_⟩
 simp only
 omega

end Go.Proofs.YtildemmkhndhjaaGreatDoor
