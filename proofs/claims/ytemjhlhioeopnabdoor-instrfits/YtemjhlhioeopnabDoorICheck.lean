/-
  What is wrong with an instruction, as plain functions; the contracts of wrongType, wrongMethod, wrong. No conditions.
-/
import Derived.Test.YtemjhlhioeopnabDoorIIn
import Derived.Test.YtemjhlhioeopnabDoorPField
namespace Go.Proofs.YtemjhlhioeopnabDoor
open Go.RowKit

/-- What is wrong with the entry of a type, of a method, of whatever an instruction names. -/
def typeW (l : List En) (op n : Int) : Int := if (typeAtR l n).2 = 0 then (if op = 30 then (if (typeAtR l n).1.1 = 8 then 15 else 0) else (if (typeAtR l n).1 = (0, []) then 15 else 0)) else (typeAtR l n).2
def methodW (l : List En) (op n : Int) : Int := if (methodR l n).2 = 0 then (if decide ((methodR l n).1.2.1 = initL) = decide (op = 41) then (if op = 41 ∧ (methodR l n).1.2.2.2.1 = false then 15 else 0) else 14) else (methodR l n).2
def entryI (l : List En) (i : In) : Int := if rowI i.2.1 = 3 then (numberR l i.2.2.1).2 else if rowI i.2.1 = 5 then (classR l i.2.2.1).2 else if rowI i.2.1 = 6 then (fieldR l i.2.2.1).2 else if rowI i.2.1 = 7 then typeW l i.2.1 i.2.2.1 else if rowI i.2.1 = 8 then methodW l i.2.1 i.2.2.1 else 0
/-- What is wrong with an instruction, beside a row that says where instructions begin. -/
def wrongB (bl : List Bool) (l : List En) (locals : Int) (i : In) : Int := if rowI i.2.1 = 2 then (if locals ≤ i.2.2.1 then 43 else 0) else if rowI i.2.1 = 4 then (if bl.getD i.2.2.1.toNat false = true then 0 else 18) else entryI l i

theorem row_op (op : Int) : (rowI op = 7 → op = 30 ∨ op = 36 ∨ op = 37) ∧ (rowI op = 8 → op = 38 ∨ op = 39 ∨ op = 40 ∨ op = 41) ∧ 0 ≤ rowI op ∧ rowI op ≤ 8 := by
  unfold rowI
  repeat' split
  all_goals omega

set_option maxHeartbeats 400000 in
set_option maxRecDepth 100000 in
theorem wtype_any {w : World} {ao : Option Addr} {l : List En} {d cap : Nat} (hE : ES w ao l d) (hl : l.length ≤ 9223372036854775807) (hA : ∀ e ∈ l, e.2.1.length ≤ 9223372036854775807) (locals : Int) (g : Value) (a op n s : Int) (hr : rowI op = 7) (hg : ∃ go m c, g = .slice go m c) :
    Calls Tryd.prog 23 #[.agg #[.slice ao l.length cap, .int .i64 locals, g], inV (a, op, n, s)] w fun e w' => e = .returned (.int .i64 (typeW l op n)) ∧ Only [] w w' := by
  obtain ⟨go, gm, gc, rfl⟩ := hg
  have o0 := ((Only.refl [] w).alloc (.cells #[.slice ao l.length cap, .int .i64 locals, .slice go gm gc] 54)).alloc (.cells #[.int .i64 a, .int .i64 op, .int .i64 n, .int .i64 s] 31)
  have I0 := hid (inAt_new (w.alloc (.cells #[.slice ao l.length cap, .int .i64 locals, .slice go gm gc] 54)) a op n s 31)
  rw [World.size_alloc] at I0
  have HT := ptype_any (cap := cap) (hE.only o0 (by simp)) hl hA n
  have hop := (row_op op).1 hr
  unfold typeW
  generalize typeAtR l n = X at *
  obtain ⟨⟨td, tn⟩, te⟩ := X
  have HN := fun W => number_any (td, tn) W
  simp only [inV, tyV] at HT HN ⊢
  clear hE hA hr
  by_cases he : te = 0
  · subst he
    replace HT := hid HT
    rw [if_pos rfl]
    rcases hop with rfl | rfl | rfl
    · by_cases h8 : td = 8
      · subst h8
        clear HN
        go_enter Tryd.func23, Tryd.ntmps23
        go_wp2_with (go_at_call 29; refine HT.out.mono ?_; rintro e w1 ⟨rfl, ho1⟩; obtain ⟨c0, c1, c2, c3⟩ := (I0.out.only ho1 (by simp)).alloc (.cells #[.int .i64 8, .string (str tn)] 62); simp only [Nat.zero_add] at c1 c2 c3)
        go_ret
        exact ⟨rfl, (o0.next ho1 (by simp)).alloc _⟩
      · have g8 : (td == 8) = false := by simpa using h8
        rw [if_pos rfl, if_neg h8]
        clear HN
        go_enter Tryd.func23, Tryd.ntmps23
        go_wp2_with (go_at_call 29; refine HT.out.mono ?_; rintro e w1 ⟨rfl, ho1⟩; obtain ⟨c0, c1, c2, c3⟩ := (I0.out.only ho1 (by simp)).alloc (.cells #[.int .i64 td, .string (str tn)] 62); simp only [Nat.zero_add] at c1 c2 c3)
        go_ret
        exact ⟨rfl, (o0.next ho1 (by simp)).alloc _⟩
    all_goals
      rw [if_neg (by decide)]
      by_cases hz : ((td, tn) : Ty) = (0, [])
      · rw [if_pos hz]
        rw [decide_eq_true hz] at HN
        replace HN := hid HN
        clear hz
        go_enter Tryd.func23, Tryd.ntmps23
        go_wp2_with (first | (go_at_call 29; refine HT.out.mono ?_; rintro e w1 ⟨rfl, ho1⟩; obtain ⟨c0, c1, c2, c3⟩ := (I0.out.only ho1 (by simp)).alloc (.cells #[.int .i64 td, .string (str tn)] 62); simp only [Nat.zero_add] at c1 c2 c3) | (go_at_call 30; refine (HN.out _).mono ?_; rintro e w2 ⟨rfl, ho2⟩))
        go_ret
        exact ⟨rfl, ((o0.next ho1 (by simp)).alloc _).next ho2 (by simp)⟩
      · rw [if_neg hz]
        rw [decide_eq_false hz] at HN
        replace HN := hid HN
        clear hz
        go_enter Tryd.func23, Tryd.ntmps23
        go_wp2_with (first | (go_at_call 29; refine HT.out.mono ?_; rintro e w1 ⟨rfl, ho1⟩; obtain ⟨c0, c1, c2, c3⟩ := (I0.out.only ho1 (by simp)).alloc (.cells #[.int .i64 td, .string (str tn)] 62); simp only [Nat.zero_add] at c1 c2 c3) | (go_at_call 30; refine (HN.out _).mono ?_; rintro e w2 ⟨rfl, ho2⟩))
        go_ret
        exact ⟨rfl, ((o0.next ho1 (by simp)).alloc _).next ho2 (by simp)⟩
  · have ge : (te == 0) = false := by simpa using he
    replace HT := hid HT
    rw [if_neg he]
    clear HN hop
    go_enter Tryd.func23, Tryd.ntmps23
    go_wp2_with (go_at_call 29; refine HT.out.mono ?_; rintro e w1 ⟨rfl, ho1⟩)
    go_ret
    exact ⟨rfl, (o0.next ho1 (by simp)).alloc _⟩

end Go.Proofs.YtemjhlhioeopnabDoor
