/-
  The walk of PoolKinds: it answers true of whatever entries, and writes nothing that was there. No conditions.
-/
import Derived.Test.YtcdjddakdlflmaaPKnown
import Derived.Test.YtcdjddakdlflmaaPAll
namespace Go.Proofs.Ytcdjddakdlflmaa
open Go.RowKit

/-- What a call that tells something of an entry answers. -/
def Tells (kd k x : Int) : Prop := (kd = k ∧ x = 0) ∨ (kd ≠ k ∧ x = 16)

theorem tells_of {kd k x : Int} (h : x = if kd = k then 0 else 16) : Tells kd k x := by
  by_cases hk : kd = k
  · exact .inl ⟨hk, by rw [h, if_pos hk]⟩
  · exact .inr ⟨hk, by rw [h, if_neg hk]⟩

set_option maxHeartbeats 1000000 in
set_option maxRecDepth 100000 in
theorem kinds_any {w : World} {ao : Option Addr} {l : List En} {d cap : Nat} (hE : ES w ao l d) (hl : l.length ≤ 9223372036854775807) (hA : ∀ e ∈ l, e.2.1.length ≤ 9223372036854775807) :
    Calls Try.prog 8 #[.slice ao l.length cap] w fun e w' => e = .returned (.bool true) ∧ Only [] w w' := by
  have HK := hid (known_any w)
  have HC := fun W (hW : Only [] w W) => pcheck_any (cap := cap) (hE.only hW (by simp)) hl hA
  have hall : (checkE l).2 = 0 → ∀ e ∈ l, wrongE l e = 0 := fun h => (check_all h).2
  have H1 := fun W (hW : Only [] w W) (j : Nat) => ptext_any (cap := cap) (hE.only hW (by simp)) hl hA (j : Int)
  have H2 := fun W (hW : Only [] w W) (j : Nat) => pnumber_any (cap := cap) (hE.only hW (by simp)) hl hA (j : Int)
  have H3 := fun W (hW : Only [] w W) (j : Nat) => pclass_any (cap := cap) (hE.only hW (by simp)) hl hA (j : Int)
  have H4 := fun W (hW : Only [] w W) (j : Nat) => ptype_any (cap := cap) (hE.only hW (by simp)) hl hA (j : Int)
  have H5 := fun W (hW : Only [] w W) (j : Nat) => pfield_any (cap := cap) (hE.only hW (by simp)) hl hA (j : Int)
  have H6 := fun W (hW : Only [] w W) (j : Nat) => pmethod_any (cap := cap) (hE.only hW (by simp)) hl hA (j : Int)
  generalize checkE l = X at *
  obtain ⟨xi, xe⟩ := X
  simp only at *
  replace HC := hid HC
  replace H1 := hid H1
  replace H2 := hid H2
  replace H3 := hid H3
  replace H4 := hid H4
  replace H5 := hid H5
  replace H6 := hid H6
  replace hE := hid hE
  clear hA
  by_cases h4 : 400 < l.length
  · have g1 : (400 < (l.length : Int)) := by omega
    clear hall
    go_enter Try.func8, Try.ntmps8
    go_wp2_with (go_at_call 9; refine HK.out.mono ?_; rintro e w1 ⟨rfl, ho1⟩)
    go_ret
    exact ⟨rfl, ho1⟩
  have g1 : ¬ (400 < (l.length : Int)) := by omega
  by_cases hx : xe = 0
  · subst hx
    replace hall := hid (hall rfl)
    go_enter Try.func8, Try.ntmps8
    go_wp2_with (first | (go_at_call 9; refine HK.out.mono ?_; rintro e w1 ⟨rfl, ho1⟩) | fail)
    refine (HC.out _ ho1).mono ?_
    rintro e w2 ⟨rfl, ho2⟩
    have o2 := hid (ho1.next ho2 (by simp))
    clear HK HC
    go_wp2
    go_loopw [5] (fun i wr => ∃ j : Nat, j ≤ l.length ∧ i = .int .i64 (j : Int) ∧ Only [] w wr) (fun i _ => l.length - (intOf i).toNat)
    case atStart => exact ⟨0, by omega, rfl, o2.out⟩
    case round =>
      obtain ⟨j, hj, rfl, hor⟩ := hrel
      by_cases hlt : j < l.length
      · have g2 : ((j : Int) < (l.length : Int)) := by omega
        have t1 := tells_of (kind_text hall.out j hlt)
        have t2 := tells_of (kind_number hall.out j hlt)
        have t3 := tells_of (kind_class hall.out j hlt)
        have t4 := tells_of (kind_type hall.out j hlt)
        have t5 := tells_of (kind_field hall.out j hlt)
        have t6 := tells_of (kind_method hall.out j hlt)
        replace H1 := fun W (hW : Only [] w W) => H1.out W hW j
        replace H2 := fun W (hW : Only [] w W) => H2.out W hW j
        replace H3 := fun W (hW : Only [] w W) => H3.out W hW j
        replace H4 := fun W (hW : Only [] w W) => H4.out W hW j
        replace H5 := fun W (hW : Only [] w W) => H5.out W hW j
        replace H6 := fun W (hW : Only [] w W) => H6.out W hW j
        have hK := fun W (hW : Only [] w W) => (hE.out.only hW (by simp)).at hlt
        generalize textR l (j : Int) = X1 at *
        generalize numberR l (j : Int) = X2 at *
        generalize classR l (j : Int) = X3 at *
        generalize typeAtR l (j : Int) = X4 at *
        generalize fieldR l (j : Int) = X5 at *
        generalize methodR l (j : Int) = X6 at *
        generalize l[j] = en at *
        obtain ⟨kd, et, enn, ea, eb, ec⟩ := en
        obtain ⟨a1, x1⟩ := X1
        obtain ⟨a2, x2⟩ := X2
        obtain ⟨a3, x3⟩ := X3
        obtain ⟨⟨a4, b4⟩, x4⟩ := X4
        obtain ⟨⟨a5, b5, c5, d5⟩, x5⟩ := X5
        obtain ⟨⟨a6, b6, c6, d6, e6, f6⟩, x6⟩ := X6
        simp only [tyV, sigV] at *
        replace H1 := hid H1
        replace H2 := hid H2
        replace H3 := hid H3
        replace H4 := hid H4
        replace H5 := hid H5
        replace H6 := hid H6
        replace hK := hid hK
        replace t1 := hid t1
        replace t2 := hid t2
        replace t3 := hid t3
        replace t4 := hid t4
        replace t5 := hid t5
        replace t6 := hid t6
        clear hall
        go_wp2_with fail
        refine (H1.out _ hor).mono ?_
        rintro e w3 ⟨rfl, ho3⟩
        have o3 := hor.next ho3 (by simp)
        clear H1
        go_wp2_with fail
        refine (H2.out _ o3).mono ?_
        rintro e w4 ⟨rfl, ho4⟩
        have o4 := o3.next ho4 (by simp)
        clear H2
        go_wp2_with fail
        refine (H3.out _ o4).mono ?_
        rintro e w5 ⟨rfl, ho5⟩
        have o5 := o4.next ho5 (by simp)
        clear H3
        go_wp2_with fail
        refine (H4.out _ o5).mono ?_
        rintro e w6 ⟨rfl, ho6⟩
        have o6 := (o5.next ho6 (by simp)).alloc (.cells #[.int .i64 a4, .string (str b4)] 41)
        clear H4
        go_wp2_with fail
        refine (H5.out _ o6).mono ?_
        rintro e w7 ⟨rfl, ho7⟩
        have o7 := (o6.next ho7 (by simp)).alloc (.cells #[.int .i64 c5, .string (str d5)] 41)
        clear H5
        go_wp2_with fail
        refine (H6.out _ o7).mono ?_
        rintro e w8 ⟨vo, vc, rfl, hown, ho8⟩
        have o8 := ((o7.next ho8 (by simp)).alloc (.cells #[.slice vo c6.length vc, .bool d6, .int .i64 e6, .string (str f6)] 43)).alloc (.cells #[.int .i64 16, .int .i64 x1, .int .i64 x2, .int .i64 x3, .int .i64 x4, .int .i64 x5, .int .i64 x6] 63)
        clear H6 hown ho8 ho7 ho6 ho5 ho4 ho3 o3 o4 o5 o6 o7
        obtain ⟨off, rfl, y0, y1, y2, y3, y4, y5⟩ := hK.out _ o8
        simp only at y0
        clear y1 y2 y3 y4 y5 hK
        replace o8 := hid o8
        go_wp2
        go_loopw [23] (fun i wx => ∃ k : Int, 1 ≤ k ∧ k ≤ 7 ∧ i = .int .i64 k ∧ wx = ((w8.alloc (.cells #[.slice vo c6.length vc, .bool d6, .int .i64 e6, .string (str f6)] 43)).alloc (.cells #[.int .i64 16, .int .i64 x1, .int .i64 x2, .int .i64 x3, .int .i64 x4, .int .i64 x5, .int .i64 x6] 63))) (fun i _ => (7 - intOf i).toNat)
        case atStart => exact ⟨1, by omega, by omega, rfl, rfl⟩
        case round =>
          obtain ⟨k, hk1, hk7, rfl, rfl⟩ := hrel
          rcases (by omega : k = 1 ∨ k = 2 ∨ k = 3 ∨ k = 4 ∨ k = 5 ∨ k = 6 ∨ k = 7) with rfl | rfl | rfl | rfl | rfl | rfl | rfl
          · rcases t1.out with ⟨hk, hx⟩ | ⟨hk, hx⟩
            · subst hk
              subst hx
              clear t1 t2 t3 t4 t5 t6
              go_wp2
              exact ⟨⟨2, by omega, by omega, by go_num, by first | rfl | trivial⟩, by simp [intOf]⟩
            · subst hx
              have ga : ((1 : Int) == kd) = false := by simpa using fun h => hk h.symm
              have gb : ¬ ((1 : Int) = kd) := fun h => hk h.symm
              clear hk t1 t2 t3 t4 t5 t6
              go_wp2
              exact ⟨⟨2, by omega, by omega, by go_num, by first | rfl | trivial⟩, by simp [intOf]⟩
          · rcases t2.out with ⟨hk, hx⟩ | ⟨hk, hx⟩
            · subst hk
              subst hx
              clear t1 t2 t3 t4 t5 t6
              go_wp2
              exact ⟨⟨3, by omega, by omega, by go_num, by first | rfl | trivial⟩, by simp [intOf]⟩
            · subst hx
              have ga : ((2 : Int) == kd) = false := by simpa using fun h => hk h.symm
              have gb : ¬ ((2 : Int) = kd) := fun h => hk h.symm
              clear hk t1 t2 t3 t4 t5 t6
              go_wp2
              exact ⟨⟨3, by omega, by omega, by go_num, by first | rfl | trivial⟩, by simp [intOf]⟩
          · rcases t3.out with ⟨hk, hx⟩ | ⟨hk, hx⟩
            · subst hk
              subst hx
              clear t1 t2 t3 t4 t5 t6
              go_wp2
              exact ⟨⟨4, by omega, by omega, by go_num, by first | rfl | trivial⟩, by simp [intOf]⟩
            · subst hx
              have ga : ((3 : Int) == kd) = false := by simpa using fun h => hk h.symm
              have gb : ¬ ((3 : Int) = kd) := fun h => hk h.symm
              clear hk t1 t2 t3 t4 t5 t6
              go_wp2
              exact ⟨⟨4, by omega, by omega, by go_num, by first | rfl | trivial⟩, by simp [intOf]⟩
          · rcases t4.out with ⟨hk, hx⟩ | ⟨hk, hx⟩
            · subst hk
              subst hx
              clear t1 t2 t3 t4 t5 t6
              go_wp2
              exact ⟨⟨5, by omega, by omega, by go_num, by first | rfl | trivial⟩, by simp [intOf]⟩
            · subst hx
              have ga : ((4 : Int) == kd) = false := by simpa using fun h => hk h.symm
              have gb : ¬ ((4 : Int) = kd) := fun h => hk h.symm
              clear hk t1 t2 t3 t4 t5 t6
              go_wp2
              exact ⟨⟨5, by omega, by omega, by go_num, by first | rfl | trivial⟩, by simp [intOf]⟩
          · rcases t5.out with ⟨hk, hx⟩ | ⟨hk, hx⟩
            · subst hk
              subst hx
              clear t1 t2 t3 t4 t5 t6
              go_wp2
              exact ⟨⟨6, by omega, by omega, by go_num, by first | rfl | trivial⟩, by simp [intOf]⟩
            · subst hx
              have ga : ((5 : Int) == kd) = false := by simpa using fun h => hk h.symm
              have gb : ¬ ((5 : Int) = kd) := fun h => hk h.symm
              clear hk t1 t2 t3 t4 t5 t6
              go_wp2
              exact ⟨⟨6, by omega, by omega, by go_num, by first | rfl | trivial⟩, by simp [intOf]⟩
          · rcases t6.out with ⟨hk, hx⟩ | ⟨hk, hx⟩
            · subst hk
              subst hx
              clear t1 t2 t3 t4 t5 t6
              go_wp2
              exact ⟨⟨7, by omega, by omega, by go_num, by first | rfl | trivial⟩, by simp [intOf]⟩
            · subst hx
              have ga : ((6 : Int) == kd) = false := by simpa using fun h => hk h.symm
              have gb : ¬ ((6 : Int) = kd) := fun h => hk h.symm
              clear hk t1 t2 t3 t4 t5 t6
              go_wp2
              exact ⟨⟨7, by omega, by omega, by go_num, by first | rfl | trivial⟩, by simp [intOf]⟩
          · clear t1 t2 t3 t4 t5 t6
            go_wp2
            exact ⟨⟨j + 1, by omega, by go_num, o8.out⟩, by simp [intOf]; omega⟩
      · have g2 : ¬ ((j : Int) < (l.length : Int)) := by omega
        clear hall H1 H2 H3 H4 H5 H6
        go_wp2
        go_ret
        exact ⟨rfl, hor⟩
  · have g3 : (xe == 0) = false := by simpa using hx
    clear hall hx
    go_enter Try.func8, Try.ntmps8
    go_wp2_with (first | (go_at_call 9; refine HK.out.mono ?_; rintro e w1 ⟨rfl, ho1⟩) | fail)
    refine (HC.out _ ho1).mono ?_
    rintro e w2 ⟨rfl, ho2⟩
    go_wp2
    go_ret
    exact ⟨rfl, ho1.next ho2 (by simp)⟩

theorem kinds_walk {w : World} {ao : Option Addr} {l : List En} {d cap : Nat} (hE : ES w ao l d) (_ : ao = none → cap = 0) (hl : l.length ≤ 9223372036854775807) (hA : ∀ e ∈ l, e.2.1.length ≤ 9223372036854775807) :
    Calls Try.prog 8 #[.slice ao l.length cap] w fun e w' => e = .returned (.bool true) ∧ Below w.heap.size w w' :=
  (kinds_any hE hl hA).mono fun _ _ h => ⟨h.1, h.2.below (Nat.le_refl _) (by simp)⟩

end Go.Proofs.Ytcdjddakdlflmaa
