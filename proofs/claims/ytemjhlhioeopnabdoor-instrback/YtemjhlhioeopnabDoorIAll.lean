/-
  The contracts of All, of both programs. The code is at most 100000 bytes.
-/
import Derived.Test.YtemjhlhioeopnabDoorIRDec
namespace Go.Proofs.YtemjhlhioeopnabDoor
open Go.RowKit

/-- What All answers. -/
def AllPost (w : World) (r : List In × Int × Int) (e : Ending) (w' : World) : Prop :=
  ∃ ao cap, e = .returned (.tuple #[.slice ao r.1.length cap, .int .i64 r.2.1, .int .i64 r.2.2]) ∧ w'.ownsRow w.heap.size 31 4 (.slice ao r.1.length cap) r.1.length (qcs r.1) ∧ Only [] w w'

theorem joinR_zero (l : List In) (r : List In × Int × Int) : (joinR l r).2.2 = 0 → (joinR l r).2.1 = 0 := by
  unfold joinR
  split
  · intro _; rfl
  · intro h; contradiction
theorem joinR_none (l : List In) (r : List In × Int × Int) : (joinR l r).2.2 ≠ 0 → (joinR l r).1 = [] := by
  unfold joinR
  split
  · intro h; exact absurd rfl h
  · intro _; rfl

theorem allL_zero (f k : Nat) (bs : List UInt8) : (allL f k bs).2.2 = 0 → (allL f k bs).2.1 = 0 := by
  cases f with
  | zero => intro _; rfl
  | succ f =>
    unfold allL
    split
    · intro _; rfl
    · split
      · exact joinR_zero _ _
      · intro h; contradiction
theorem allL_none (f k : Nat) (bs : List UInt8) : (allL f k bs).2.2 ≠ 0 → (allL f k bs).1 = [] := by
  cases f with
  | zero => intro _; rfl
  | succ f =>
    unfold allL
    split
    · intro _; rfl
    · split
      · exact joinR_none _ _
      · intro _; rfl

set_option maxHeartbeats 1000000 in
set_option maxRecDepth 100000 in
theorem all_any {w : World} {ao : Option Addr} {code : List UInt8} {d cap : Nat} (hB : RS w ao (bcs code) d) (hc : code.length ≤ cap) (hl : cap ≤ 9223372036854775807) (hs : code.length ≤ 100000) :
    Calls Tryd.prog 9 #[.slice ao code.length cap] w (AllPost w (allR code)) := by
  obtain ⟨x, hx⟩ : ∃ x, x = allR code := ⟨_, rfl⟩
  rw [← hx]
  have hr : Hid (x = joinR [] (allL code.length 0 (code.drop 0))) := by
    rw [hx, joinR_nil _ (allL_zero _ _ _) (allL_none _ _ _)]
    rfl
  clear hx
  have HD := hid (fun W (hW : Only [] w W) (k : Nat) => dec_any (hB.only0 hW) hc hl (k : Int))
  clear hB
  go_enter Tryd.func9, Tryd.ntmps9
  go_wp2
  go_loopw [5, 6] (fun v i wr => ∃ (k : Nat) (l : List In) (vo : Option Addr) (vc : Nat), k ≤ code.length ∧ l.length ≤ k ∧ i = .int .i64 (k : Int) ∧ v = .slice vo l.length vc ∧ Hid (x = joinR l (allL code.length k (code.drop k))) ∧ Hid (wr.ownsRow w.heap.size 31 4 (.slice vo l.length vc) l.length (qcs l)) ∧ Only [] w wr) (fun _ i _ => code.length - (intOf i).toNat)
  case atStart => exact ⟨0, [], none, 0, Nat.zero_le _, Nat.le_refl _, rfl, rfl, hr, hid (World.ownsRow_nil _ _ _ _), Only.refl _ _⟩
  case round =>
    obtain ⟨k, l, vo, vc, hk, hlk, rfl, rfl, hq, hown, hor⟩ := hrel
    clear hr
    by_cases hlt : k < code.length
    · have g2 : ((k : Int) < (code.length : Int)) := by omega
      replace HD := HD.out wr hor k
      have hd : decR code (k : Int) = decAt k (code.drop k) := by unfold decR; rw [if_neg (by omega), Int.toNat_natCast]
      have hne : code.drop k ≠ [] := by
        intro e
        have := congrArg List.length e
        simp at this
        omega
      rw [hd] at HD
      by_cases he : (decAt k (code.drop k)).2 = 0
      · obtain ⟨c, r, hb, hp, hle, hi⟩ := decAt_ok he
        have hst := allL_step hne (by simp) he (f := code.length)
        rw [hi] at hst
        rw [he, hi] at HD
        simp only [Int.toNat_natCast, List.drop_drop] at hst
        rw [List.length_drop] at hle
        have hz := sizeN_le c.toNat
        generalize beI (r.take (sizeN c.toNat - 1)) = nn at *
        generalize sizeN c.toNat = z at *
        generalize c.toNat = cc at *
        have hq' : Hid (x = joinR (l ++ [((k : Int), (cc : Int), (nn : Int), (z : Int))]) (allL code.length (k + z) (code.drop (k + z)))) := by
          rw [Hid, hq.out, hst, joinR_joinR]
        clear hq hst hd hne hi hb he
        simp only [inV] at HD
        replace HD := hid HD
        go_wp2_with (first | (go_at_call 10; refine HD.out.mono ?_; rintro e w1 ⟨rfl, ho1⟩; have I1 := hid (inAt_new w1 (k : Int) (cc : Int) (nn : Int) (z : Int) 31); replace hown := hid (rows_only hown.out ho1 (by simp))) | (at_builtin; refine wpList_append_any (ys := qcs [((k : Int), (cc : Int), (nn : Int), (z : Int))]) rfl (.tmp 23) (.tmp 25) elIn Tryd.underlying22 rfl rfl rfl (rows_only hown.out (((Only.refl [] w1).alloc (.cells #[.int .i64 (k : Int), .int .i64 (cc : Int), .int .i64 (nn : Int), .int .i64 (z : Int)] 31)).alloc (.cells #[.int .i64 (k : Int), .int .i64 (cc : Int), .int .i64 (nn : Int), .int .i64 (z : Int)] 31)) (by simp)) (rows_in _ _ _ _ _ (by simp)) rfl (qcs_one _) (by simp) (by omega) (by have := hor.size; have := ho1.size; simp; omega) ?_; rintro ao' cap' w2 hA; have hlt1 : ∀ a, vo = some a → w1.heap.size ≠ a.block := fun a ha => (by have := ((RS.of_owns hown.out).2.2.2.2 a ha).2.1; omega); obtain ⟨c0, c1, c2, c3⟩ := (I1.out.alloc _).only hA.only (block_not hlt1); simp only [Nat.zero_add] at c1 c2 c3))
        refine ⟨⟨k + z, l ++ [((k : Int), (cc : Int), (nn : Int), (z : Int))], ao', cap', by omega, by simp; omega, by go_num, by simp, hq', ?_, ?_⟩, by simp [intOf]; omega⟩
        · have := hA.own
          rw [← qcs_append] at this
          simpa [Hid] using this
        · exact hA.next (rows_only hown.out (((Only.refl [] w1).alloc _).alloc _) (by simp)) (((hor.next ho1 (by simp)).alloc _).alloc _)
      · have hst := allL_stop hne (by simp) he (f := code.length)
        rw [(decAt_err he).1] at HD
        have hxx : x = ([], (k : Int), (decAt k (code.drop k)).2) := by
          rw [hq.out, hst]
          unfold joinR
          rw [if_neg he]
        clear hq hst
        generalize (decAt k (code.drop k)).2 = er at *
        subst hxx
        have ge : (er == 0) = false := by simpa using he
        clear hd hne
        simp only [inV, in0] at HD
        replace HD := hid HD
        go_wp2_with (go_at_call 10; refine HD.out.mono ?_; rintro e w1 ⟨rfl, ho1⟩)
        go_ret3
        exact ⟨none, 0, rfl, World.ownsRow_nil _ _ _ _, (hor.next ho1 (by simp)).alloc _⟩
    · have g2 : ¬ ((k : Int) < (code.length : Int)) := by omega
      have hxx : x = (l, 0, 0) := by
        rw [hq.out, List.drop_eq_nil_of_le (by omega), allL_nil]
        simp [joinR]
      subst hxx
      clear HD hq
      go_wp2
      go_ret3
      exact ⟨vo, vc, rfl, hown.out, hor⟩

end Go.Proofs.YtemjhlhioeopnabDoor