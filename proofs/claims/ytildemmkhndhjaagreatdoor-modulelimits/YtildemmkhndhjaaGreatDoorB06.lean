/-
  What the proof leans on, part 6 of 23. The conditions stand in each theorem.
-/
import Derived.Test.YtildemmkhndhjaaGreatDoorB05
import Derived.Test.YtildemmkhndhjaaGreatDoorB01
import Derived.Lib.Builder
import Derived.Lib.FrozenHead
import Derived.Lib.FrozenHead2
import Derived.Lib.OthersKept
import Derived.Lib.AppendStr
import Derived.Shelf.Strings.BuilderK
import Derived.Shelf.Strings.Repeat
import Derived.Shelf.Strconv.Itoa4
import Derived.Test.YtildemmkhndhjaaGreatDoorProg
namespace Go.Proofs.YtildemmkhndhjaaGreatDoor
open Go.RowKit

/-- What All answers. -/
def AllPost (w : World) (r : List In × Int × Int) (e : Ending) (w' : World) : Prop :=
  ∃ ao cap, e = .returned (.tuple #[.slice ao r.1.length cap, .int .i64 r.2.1, .int .i64 r.2.2]) ∧ w'.ownsRow w.heap.size 250 4 (.slice ao r.1.length cap) r.1.length (qcs r.1) ∧ Only [] w w'

theorem joinR_zero (l : List In) (r : List In × Int × Int) : (joinR l r).2.2 = 0 → (joinR l r).2.1 = 0 := by
  unfold joinR
  split
  · intro _; rfl
  · intro h; contradiction
theorem joinR_none (l : List In) (r : List In × Int × Int) : (joinR l r).2.2 ≠ 0 → (joinR l r).1 = [] := by
  unfold joinR
  split
  · intro h; exact absurd rfl h
  · intro _; rfl

theorem allL_zero (f k : Nat) (bs : List UInt8) : (allL f k bs).2.2 = 0 → (allL f k bs).2.1 = 0 := by
  cases f with
  | zero => intro _; rfl
  | succ f =>
    unfold allL
    split
    · intro _; rfl
    · split
      · exact joinR_zero _ _
      · intro h; contradiction
theorem allL_none (f k : Nat) (bs : List UInt8) : (allL f k bs).2.2 ≠ 0 → (allL f k bs).1 = [] := by
  cases f with
  | zero => intro _; rfl
  | succ f =>
    unfold allL
    split
    · intro _; rfl
    · split
      · exact joinR_none _ _
      · intro _; rfl

set_option maxHeartbeats 1000000 in
set_option maxRecDepth 100000 in
theorem all_any {w : World} {ao : Option Addr} {code : List UInt8} {d cap : Nat} (hB : RS w ao (bcs code) d) (hc : code.length ≤ cap) (hl : cap ≤ 9223372036854775807) (hs : code.length ≤ 100000) :
    Calls Tryz.prog 169 #[.slice ao code.length cap] w (AllPost w (allR code)) := by
  obtain ⟨x, hx⟩ : ∃ x, x = allR code := ⟨_, rfl⟩
  rw [← hx]
  have hr : Hid (x = joinR [] (allL code.length 0 (code.drop 0))) := by
    rw [hx, joinR_nil _ (allL_zero _ _ _) (allL_none _ _ _)]
    rfl
  clear hx
  have HD := hid (fun W (hW : Only [] w W) (k : Nat) => dec_any (hB.only0 hW) hc hl (k : Int))
  clear hB
  go_enter Tryz.func169, Tryz.ntmps169
  go_wp2
  go_loopw [5, 6] (fun v i wr => ∃ (k : Nat) (l : List In) (vo : Option Addr) (vc : Nat), k ≤ code.length ∧ l.length ≤ k ∧ i = .int .i64 (k : Int) ∧ v = .slice vo l.length vc ∧ Hid (x = joinR l (allL code.length k (code.drop k))) ∧ Hid (wr.ownsRow w.heap.size 250 4 (.slice vo l.length vc) l.length (qcs l)) ∧ Only [] w wr) (fun _ i _ => code.length - (intOf i).toNat)
  case atStart => exact ⟨0, [], none, 0, Nat.zero_le _, Nat.le_refl _, rfl, rfl, hr, hid (World.ownsRow_nil _ _ _ _), Only.refl _ _⟩
  case round =>
    obtain ⟨k, l, vo, vc, hk, hlk, rfl, rfl, hq, hown, hor⟩ := hrel
    clear hr
    by_cases hlt : k < code.length
    · have g2 : ((k : Int) < (code.length : Int)) := by omega
      replace HD := HD.out wr hor k
      have hd : decR code (k : Int) = decAt k (code.drop k) := by unfold decR; rw [if_neg (by omega), Int.toNat_natCast]
      have hne : code.drop k ≠ [] := by
        intro e
        have := congrArg List.length e
        simp at this
        omega
      rw [hd] at HD
      by_cases he : (decAt k (code.drop k)).2 = 0
      · obtain ⟨c, r, hb, hp, hle, hi⟩ := decAt_ok he
        have hst := allL_step hne (by simp) he (f := code.length)
        rw [hi] at hst
        rw [he, hi] at HD
        simp only [Int.toNat_natCast, List.drop_drop] at hst
        rw [List.length_drop] at hle
        have hz := sizeN_le c.toNat
        generalize beI (r.take (sizeN c.toNat - 1)) = nn at *
        generalize sizeN c.toNat = z at *
        generalize c.toNat = cc at *
        have hq' : Hid (x = joinR (l ++ [((k : Int), (cc : Int), (nn : Int), (z : Int))]) (allL code.length (k + z) (code.drop (k + z)))) := by
          rw [Hid, hq.out, hst, joinR_joinR]
        clear hq hst hd hne hi hb he
        simp only [inV] at HD
        replace HD := hid HD
        go_wp2_with (first | (go_at_call 191; refine HD.out.mono ?_; rintro e w1 ⟨rfl, ho1⟩; have I1 := hid (inAt_new w1 (k : Int) (cc : Int) (nn : Int) (z : Int) 250); replace hown := hid (rows_only hown.out ho1 (by simp))) | (at_builtin; refine wpList_append_any (ys := qcs [((k : Int), (cc : Int), (nn : Int), (z : Int))]) rfl (.tmp 23) (.tmp 25) elIn Tryz.underlying243 rfl rfl rfl (rows_only hown.out (((Only.refl [] w1).alloc (.cells #[.int .i64 (k : Int), .int .i64 (cc : Int), .int .i64 (nn : Int), .int .i64 (z : Int)] 250)).alloc (.cells #[.int .i64 (k : Int), .int .i64 (cc : Int), .int .i64 (nn : Int), .int .i64 (z : Int)] 250)) (by simp)) (rows_in _ _ _ _ _ (by simp)) rfl (qcs_one _) (by simp) (by omega) (by have := hor.size; have := ho1.size; simp; omega) ?_; rintro ao' cap' w2 hA; have hlt1 : ∀ a, vo = some a → w1.heap.size ≠ a.block := fun a ha => (by have := ((RS.of_owns hown.out).2.2.2.2 a ha).2.1; omega); obtain ⟨c0, c1, c2, c3⟩ := (I1.out.alloc _).only hA.only (block_not hlt1); simp only [Nat.zero_add] at c1 c2 c3))
        refine ⟨⟨k + z, l ++ [((k : Int), (cc : Int), (nn : Int), (z : Int))], ao', cap', by omega, by simp; omega, by go_num, by simp, hq', ?_, ?_⟩, by simp [intOf]; omega⟩
        · have := hA.own
          rw [← qcs_append] at this
          simpa [Hid] using this
        · exact hA.next (rows_only hown.out (((Only.refl [] w1).alloc _).alloc _) (by simp)) (((hor.next ho1 (by simp)).alloc _).alloc _)
      · have hst := allL_stop hne (by simp) he (f := code.length)
        rw [(decAt_err he).1] at HD
        have hxx : x = ([], (k : Int), (decAt k (code.drop k)).2) := by
          rw [hq.out, hst]
          unfold joinR
          rw [if_neg he]
        clear hq hst
        generalize (decAt k (code.drop k)).2 = er at *
        subst hxx
        have ge : (er == 0) = false := by simpa using he
        clear hd hne
        simp only [inV, in0] at HD
        replace HD := hid HD
        go_wp2_with (go_at_call 191; refine HD.out.mono ?_; rintro e w1 ⟨rfl, ho1⟩)
        go_ret3
        exact ⟨none, 0, rfl, World.ownsRow_nil _ _ _ _, (hor.next ho1 (by simp)).alloc _⟩
    · have g2 : ¬ ((k : Int) < (code.length : Int)) := by omega
      have hxx : x = (l, 0, 0) := by
        rw [hq.out, List.drop_eq_nil_of_le (by omega), allL_nil]
        simp [joinR]
      subst hxx
      clear HD hq
      go_wp2
      go_ret3
      exact ⟨vo, vc, rfl, hown.out, hor⟩

set_option maxHeartbeats 1000000 in
set_option maxRecDepth 100000 in
theorem rall_any {w : World} {ao : Option Addr} {code : List UInt8} {d cap : Nat} (hB : RS w ao (bcs code) d) (hc : code.length ≤ cap) (hl : cap ≤ 9223372036854775807) (hs : code.length ≤ 100000) :
    Calls Tryz.prog 217 #[.slice ao code.length cap] w (AllPost w (allR code)) := by
  obtain ⟨x, hx⟩ : ∃ x, x = allR code := ⟨_, rfl⟩
  rw [← hx]
  have hr : Hid (x = joinR [] (allL code.length 0 (code.drop 0))) := by
    rw [hx, joinR_nil _ (allL_zero _ _ _) (allL_none _ _ _)]
    rfl
  clear hx
  have HD := hid (fun W (hW : Only [] w W) (k : Nat) => rdec_any (hB.only0 hW) hc hl (k : Int))
  clear hB
  go_enter Tryz.func217, Tryz.ntmps217
  go_wp2
  go_loopw [5, 6] (fun v i wr => ∃ (k : Nat) (l : List In) (vo : Option Addr) (vc : Nat), k ≤ code.length ∧ l.length ≤ k ∧ i = .int .i64 (k : Int) ∧ v = .slice vo l.length vc ∧ Hid (x = joinR l (allL code.length k (code.drop k))) ∧ Hid (wr.ownsRow w.heap.size 250 4 (.slice vo l.length vc) l.length (qcs l)) ∧ Only [] w wr) (fun _ i _ => code.length - (intOf i).toNat)
  case atStart => exact ⟨0, [], none, 0, Nat.zero_le _, Nat.le_refl _, rfl, rfl, hr, hid (World.ownsRow_nil _ _ _ _), Only.refl _ _⟩
  case round =>
    obtain ⟨k, l, vo, vc, hk, hlk, rfl, rfl, hq, hown, hor⟩ := hrel
    clear hr
    by_cases hlt : k < code.length
    · have g2 : ((k : Int) < (code.length : Int)) := by omega
      replace HD := HD.out wr hor k
      have hd : decR code (k : Int) = decAt k (code.drop k) := by unfold decR; rw [if_neg (by omega), Int.toNat_natCast]
      have hne : code.drop k ≠ [] := by
        intro e
        have := congrArg List.length e
        simp at this
        omega
      rw [hd] at HD
      by_cases he : (decAt k (code.drop k)).2 = 0
      · obtain ⟨c, r, hb, hp, hle, hi⟩ := decAt_ok he
        have hst := allL_step hne (by simp) he (f := code.length)
        rw [hi] at hst
        rw [he, hi] at HD
        simp only [Int.toNat_natCast, List.drop_drop] at hst
        rw [List.length_drop] at hle
        have hz := sizeN_le c.toNat
        generalize beI (r.take (sizeN c.toNat - 1)) = nn at *
        generalize sizeN c.toNat = z at *
        generalize c.toNat = cc at *
        have hq' : Hid (x = joinR (l ++ [((k : Int), (cc : Int), (nn : Int), (z : Int))]) (allL code.length (k + z) (code.drop (k + z)))) := by
          rw [Hid, hq.out, hst, joinR_joinR]
        clear hq hst hd hne hi hb he
        simp only [inV] at HD
        replace HD := hid HD
        go_wp2_with (first | (go_at_call 226; refine HD.out.mono ?_; rintro e w1 ⟨rfl, ho1⟩; have I1 := hid (inAt_new w1 (k : Int) (cc : Int) (nn : Int) (z : Int) 250); replace hown := hid (rows_only hown.out ho1 (by simp))) | (at_builtin; refine wpList_append_any (ys := qcs [((k : Int), (cc : Int), (nn : Int), (z : Int))]) rfl (.tmp 23) (.tmp 25) elIn Tryz.underlying243 rfl rfl rfl (rows_only hown.out (((Only.refl [] w1).alloc (.cells #[.int .i64 (k : Int), .int .i64 (cc : Int), .int .i64 (nn : Int), .int .i64 (z : Int)] 250)).alloc (.cells #[.int .i64 (k : Int), .int .i64 (cc : Int), .int .i64 (nn : Int), .int .i64 (z : Int)] 250)) (by simp)) (rows_in _ _ _ _ _ (by simp)) rfl (qcs_one _) (by simp) (by omega) (by have := hor.size; have := ho1.size; simp; omega) ?_; rintro ao' cap' w2 hA; have hlt1 : ∀ a, vo = some a → w1.heap.size ≠ a.block := fun a ha => (by have := ((RS.of_owns hown.out).2.2.2.2 a ha).2.1; omega); obtain ⟨c0, c1, c2, c3⟩ := (I1.out.alloc _).only hA.only (block_not hlt1); simp only [Nat.zero_add] at c1 c2 c3))
        refine ⟨⟨k + z, l ++ [((k : Int), (cc : Int), (nn : Int), (z : Int))], ao', cap', by omega, by simp; omega, by go_num, by simp, hq', ?_, ?_⟩, by simp [intOf]; omega⟩
        · have := hA.own
          rw [← qcs_append] at this
          simpa [Hid] using this
        · exact hA.next (rows_only hown.out (((Only.refl [] w1).alloc _).alloc _) (by simp)) (((hor.next ho1 (by simp)).alloc _).alloc _)
      · have hst := allL_stop hne (by simp) he (f := code.length)
        rw [(decAt_err he).1] at HD
        have hxx : x = ([], (k : Int), (decAt k (code.drop k)).2) := by
          rw [hq.out, hst]
          unfold joinR
          rw [if_neg he]
        clear hq hst
        generalize (decAt k (code.drop k)).2 = er at *
        subst hxx
        have ge : (er == 0) = false := by simpa using he
        clear hd hne
        simp only [inV, in0] at HD
        replace HD := hid HD
        go_wp2_with (go_at_call 226; refine HD.out.mono ?_; rintro e w1 ⟨rfl, ho1⟩)
        go_ret3
        exact ⟨none, 0, rfl, World.ownsRow_nil _ _ _ _, (hor.next ho1 (by simp)).alloc _⟩
    · have g2 : ¬ ((k : Int) < (code.length : Int)) := by omega
      have hxx : x = (l, 0, 0) := by
        rw [hq.out, List.drop_eq_nil_of_le (by omega), allL_nil]
        simp [joinR]
      subst hxx
      clear HD hq
      go_wp2
      go_ret3
      exact ⟨vo, vc, rfl, hown.out, hor⟩

end Go.Proofs.YtildemmkhndhjaaGreatDoor
namespace Go.Proofs.YtildemmkhndhjaaGreatDoor
open Go.RowKit

/-- One round of reading. -/
theorem allL_cases {f k : Nat} {bs : List UInt8} (hf : bs.length ≤ f) :
    (bs = [] ∧ allL f k bs = ([], 0, 0)) ∨
    (∃ c r, bs = c :: r ∧ 0 < sizeN c.toNat ∧ sizeN c.toNat ≤ bs.length ∧ (decAt k bs).1 = ((k : Int), (c.toNat : Int), (beI (r.take (sizeN c.toNat - 1)) : Int), (sizeN c.toNat : Int)) ∧ (decAt k bs).2 = 0 ∧
      allL f k bs = joinR [((k : Int), (c.toNat : Int), (beI (r.take (sizeN c.toNat - 1)) : Int), (sizeN c.toNat : Int))] (allL f (k + sizeN c.toNat) (bs.drop (sizeN c.toNat)))) ∨
    (bs ≠ [] ∧ (decAt k bs).2 ≠ 0 ∧ allL f k bs = ([], (k : Int), (decAt k bs).2)) := by
  by_cases h0 : bs = []
  · exact .inl ⟨h0, by rw [h0, allL_nil]⟩
  right
  by_cases h1 : (decAt k bs).2 = 0
  · left
    obtain ⟨c, r, hb, hp, hl, he⟩ := decAt_ok h1
    have := allL_step h0 hf h1
    rw [he] at this
    simp only [Int.toNat_natCast] at this
    exact ⟨c, r, hb, hp, hl, he, h1, this⟩
  · exact .inr ⟨h0, h1, allL_stop h0 hf h1⟩

theorem joinR_err {l : List In} {r : List In × Int × Int} : (joinR l r).2.2 = r.2.2 := by
  unfold joinR
  split <;> simp_all

theorem joinR_ok {l : List In} {r : List In × Int × Int} (h : r.2.2 = 0) : joinR l r = (l ++ r.1, 0, 0) := by simp [joinR, h]
theorem joinR_no {l : List In} {r : List In × Int × Int} (h : r.2.2 ≠ 0) : joinR l r = ([], r.2.1, r.2.2) := by simp [joinR, h]

/-- Something that holds of each instruction. -/
theorem allL_each {P : In → Prop} (f : Nat) : ∀ (n k : Nat) (bs : List UInt8), bs.length ≤ n → bs.length ≤ f →
    (∀ (k' : Nat) (c : UInt8) (r : List UInt8), k ≤ k' → 0 < sizeN c.toNat → k' + sizeN c.toNat ≤ k + bs.length → P ((k' : Int), (c.toNat : Int), (beI (r.take (sizeN c.toNat - 1)) : Int), (sizeN c.toNat : Int))) → ∀ i ∈ (allL f k bs).1, P i := by
  intro n
  induction n with
  | zero =>
    intro k bs h1 h2 _ i hi
    have : bs = [] := List.eq_nil_of_length_eq_zero (by omega)
    rw [this, allL_nil] at hi
    simp at hi
  | succ n ih =>
    intro k bs h1 h2 hP i hi
    rcases allL_cases (k := k) h2 with ⟨_, e⟩ | ⟨c, r, hb, hp, hl, _, _, e⟩ | ⟨_, _, e⟩
    · rw [e] at hi; simp at hi
    · rw [e] at hi
      by_cases h0 : (allL f (k + sizeN c.toNat) (bs.drop (sizeN c.toNat))).2.2 = 0
      · rw [joinR_ok h0] at hi
        simp only [List.singleton_append, List.mem_cons] at hi
        rcases hi with rfl | hi
        · exact hP k c r (Nat.le_refl _) hp (by omega)
        · refine ih (k + sizeN c.toNat) (bs.drop (sizeN c.toNat)) (by simp; omega) (by simp; omega) ?_ i hi
          intro k' c' r' hk hp' hl'
          simp only [List.length_drop] at hl'
          exact hP k' c' r' (by omega) hp' (by omega)
      · rw [joinR_no h0] at hi; simp at hi
    · rw [e] at hi; simp at hi

theorem allL_len (f : Nat) : ∀ (n k : Nat) (bs : List UInt8), bs.length ≤ n → bs.length ≤ f → (allL f k bs).1.length ≤ bs.length := by
  intro n
  induction n with
  | zero =>
    intro k bs h1 h2
    have : bs = [] := List.eq_nil_of_length_eq_zero (by omega)
    rw [this, allL_nil]
    simp
  | succ n ih =>
    intro k bs h1 h2
    rcases allL_cases (k := k) h2 with ⟨_, e⟩ | ⟨c, r, hb, hp, hl, _, _, e⟩ | ⟨_, _, e⟩
    · rw [e]; simp
    · rw [e]
      by_cases h0 : (allL f (k + sizeN c.toNat) (bs.drop (sizeN c.toNat))).2.2 = 0
      · rw [joinR_ok h0]
        have := ih (k + sizeN c.toNat) (bs.drop (sizeN c.toNat)) (by simp; omega) (by simp; omega)
        simp only [List.length_drop] at this
        simp
        omega
      · rw [joinR_no h0]; simp
    · rw [e]; simp

theorem all_len (code : List UInt8) : (allR code).1.length ≤ code.length := allL_len _ _ _ _ (Nat.le_refl _) (Nat.le_refl _)

/-- What each instruction of some code is. -/
theorem all_each (code : List UInt8) : ∀ i ∈ (allR code).1, 0 ≤ i.1 ∧ i.1 + i.2.2.2 ≤ code.length ∧ 0 ≤ i.2.1 ∧ i.2.1 ≤ 45 ∧ i.2.2.2 = (sizeN i.2.1 : Int) ∧ 0 < i.2.2.2 ∧ 0 ≤ i.2.2.1 ∧ i.2.2.1 < ((256 ^ (sizeN i.2.1 - 1) : Nat) : Int) := by
  refine allL_each code.length code.length 0 code (Nat.le_refl _) (Nat.le_refl _) ?_
  intro k c r _ hp hl
  have hb := beI_lt (r.take (sizeN c.toNat - 1))
  have hr : 256 ^ (r.take (sizeN c.toNat - 1)).length ≤ 256 ^ (sizeN c.toNat - 1) := Nat.pow_le_pow_right (by decide) (by simp; omega)
  have hop : (c.toNat : Int) ≤ 45 := by
    unfold sizeN at hp
    split at hp
    · omega
    · omega
  refine ⟨by simp only; omega, by simp only; omega, by simp only; omega, hop, rfl, by simp only; omega, by simp only; omega, ?_⟩
  simp only
  omega

/-- Where a refused instruction lies. -/
theorem allL_place (f : Nat) : ∀ (n k : Nat) (bs : List UInt8), bs.length ≤ n → bs.length ≤ f → (allL f k bs).2.2 ≠ 0 → (allL f k bs).1 = [] ∧ (k : Int) ≤ (allL f k bs).2.1 ∧ (allL f k bs).2.1 < (k : Int) + bs.length ∧ ((allL f k bs).2.2 = 11 ∨ (allL f k bs).2.2 = 17) := by
  intro n
  induction n with
  | zero =>
    intro k bs h1 h2 h
    have : bs = [] := List.eq_nil_of_length_eq_zero (by omega)
    rw [this, allL_nil] at h
    exact absurd rfl h
  | succ n ih =>
    intro k bs h1 h2 h
    rcases allL_cases (k := k) h2 with ⟨_, e⟩ | ⟨c, r, hb, hp, hl, _, _, e⟩ | ⟨h0, hd, e⟩
    · rw [e] at h; exact absurd rfl h
    · rw [e, joinR_err] at h
      rw [e, joinR_no h]
      obtain ⟨_, q1, q2, q3⟩ := ih (k + sizeN c.toNat) (bs.drop (sizeN c.toNat)) (by simp; omega) (by simp; omega) h
      simp only [List.length_drop] at q2
      refine ⟨rfl, ?_, ?_, q3⟩
      · simp only
        omega
      · simp only
        omega
    · rw [e]
      have := List.length_pos_iff.2 h0
      exact ⟨rfl, Int.le_refl _, by simp only; omega, (decAt_err hd).2⟩

theorem all_place {code : List UInt8} (h : (allR code).2.2 ≠ 0) : (allR code).1 = [] ∧ 0 ≤ (allR code).2.1 ∧ (allR code).2.1 < code.length := by
  obtain ⟨q0, q1, q2, _⟩ := allL_place code.length code.length 0 code (Nat.le_refl _) (Nat.le_refl _) h
  exact ⟨q0, by simpa [allR] using q1, by simpa [allR] using q2⟩

/-- More bytes behind change nothing of an instruction that is whole. -/
theorem decAt_append {k : Nat} {a b : List UInt8} (h : (decAt k a).2 = 0) : decAt k (a ++ b) = decAt k a := by
  obtain ⟨c, r, rfl, hp, hl, _⟩ := decAt_ok h
  simp only [List.cons_append, decAt, List.length_append]
  simp only [List.length_cons] at hl
  rw [if_neg (by omega), if_neg (by omega), if_neg (by omega), if_neg (by omega), List.take_append_of_le_length (by omega)]

theorem decAt_append17 {k : Nat} {a b : List UInt8} (h : (decAt k a).2 = 17) : (decAt k (a ++ b)).2 = 17 := by
  cases a with
  | nil => simp [decAt] at h
  | cons c r =>
    simp only [List.cons_append, decAt] at h ⊢
    by_cases h1 : sizeN c.toNat = 0
    · simp [h1]
    · rw [if_neg h1] at h
      split at h <;> simp at h

/-- Two rows one behind the other. -/
theorem allL_append (f : Nat) : ∀ (n k : Nat) (a b : List UInt8), a.length ≤ n → (a ++ b).length ≤ f → (allL f k a).2.2 = 0 → allL f k (a ++ b) = joinR (allL f k a).1 (allL f (k + a.length) b) := by
  intro n
  induction n with
  | zero =>
    intro k a b h1 h2 h
    have : a = [] := List.eq_nil_of_length_eq_zero (by omega)
    subst this
    have hz := allL_nil f k
    rw [hz, List.nil_append]
    simp only [List.length_nil, Nat.add_zero]
    refine (joinR_nil _ ?_ ?_).symm
    · intro he
      rcases allL_cases (k := k) (f := f) (bs := b) (by simpa using h2) with ⟨_, e⟩ | ⟨c, r, hb, hp, hl, _, _, e⟩ | ⟨_, hd, e⟩
      · rw [e]
      · rw [e] at he ⊢
        rw [joinR_err] at he
        rw [joinR_ok he]
      · rw [e] at he
        exact absurd he hd
    · intro he
      exact (allL_place f b.length k b (Nat.le_refl _) (by simpa using h2) he).1
  | succ n ih =>
    intro k a b h1 h2 h
    rw [List.length_append] at h2
    rcases allL_cases (k := k) (f := f) (bs := a) (by omega) with ⟨h0, e⟩ | ⟨c, r, hb, hp, hl, hi, hd, e⟩ | ⟨_, hd, e⟩
    · subst h0
      exact ih k [] b (by simp) (by simpa using h2) h
    · have hd2 := decAt_append (b := b) hd
      have hne : a ++ b ≠ [] := by rw [hb]; simp
      have hst := allL_step hne (by rw [List.length_append]; omega) (f := f) (at_ := k) (by rw [hd2]; exact hd)
      rw [hd2, hi] at hst
      simp only [Int.toNat_natCast] at hst
      rw [List.drop_append_of_le_length hl] at hst
      rw [e, joinR_err] at h
      have := ih (k + sizeN c.toNat) (a.drop (sizeN c.toNat)) b (by simp; omega) (by simp; omega) h
      rw [this, joinR_joinR] at hst
      rw [hst, e, joinR_ok h]
      simp only [List.length_drop]
      rw [show k + sizeN c.toNat + (a.length - sizeN c.toNat) = k + a.length by omega]
    · rw [e] at h
      exact absurd h hd

theorem allL_append17 (f : Nat) : ∀ (n k : Nat) (a b : List UInt8), a.length ≤ n → (a ++ b).length ≤ f → (allL f k a).2.2 = 17 → allL f k (a ++ b) = allL f k a := by
  intro n
  induction n with
  | zero =>
    intro k a b h1 h2 h
    have : a = [] := List.eq_nil_of_length_eq_zero (by omega)
    subst this
    rw [allL_nil] at h
    simp at h
  | succ n ih =>
    intro k a b h1 h2 h
    rw [List.length_append] at h2
    rcases allL_cases (k := k) (f := f) (bs := a) (by omega) with ⟨h0, e⟩ | ⟨c, r, hb, hp, hl, hi, hd, e⟩ | ⟨h0, hd, e⟩
    · rw [e] at h
      simp at h
    · have hd2 := decAt_append (b := b) hd
      have hne : a ++ b ≠ [] := by rw [hb]; simp
      have hst := allL_step hne (by rw [List.length_append]; omega) (f := f) (at_ := k) (by rw [hd2]; exact hd)
      rw [hd2, hi] at hst
      simp only [Int.toNat_natCast] at hst
      rw [List.drop_append_of_le_length hl] at hst
      rw [e, joinR_err] at h
      have := ih (k + sizeN c.toNat) (a.drop (sizeN c.toNat)) b (by simp; omega) (by simp; omega) h
      rw [this] at hst
      rw [hst, e]
    · rw [e] at h ⊢
      simp only at h
      have h17 := decAt_append17 (b := b) h
      have hne : a ++ b ≠ [] := by
        intro q
        exact h0 (List.append_eq_nil_iff.1 q).1
      rw [allL_stop hne (by rw [List.length_append]; omega) (by rw [h17]; decide), h17, h]

/-- Instructions moved. -/
def shiftI (k : Nat) (i : In) : In := (i.1 + (k : Int), i.2.1, i.2.2.1, i.2.2.2)
def shiftR (k : Nat) (r : List In × Int × Int) : List In × Int × Int := (r.1.map (shiftI k), if r.2.2 = 0 then 0 else r.2.1 + (k : Int), r.2.2)

theorem decAt_shift (k j : Nat) (bs : List UInt8) : (decAt (j + k) bs).2 = (decAt j bs).2 ∧ ((decAt j bs).2 = 0 → (decAt (j + k) bs).1 = shiftI k (decAt j bs).1) := by
  cases bs with
  | nil => simp [decAt]
  | cons c r =>
    simp only [decAt]
    by_cases h1 : sizeN c.toNat = 0
    · simp [h1]
    · rw [if_neg h1, if_neg h1]
      by_cases h2 : r.length + 1 < sizeN c.toNat
      · simp [h2]
      · rw [if_neg h2, if_neg h2]
        exact ⟨rfl, fun _ => by simp [shiftI]⟩

theorem shiftR_join (k : Nat) (l : List In) (r : List In × Int × Int) : shiftR k (joinR l r) = joinR (l.map (shiftI k)) (shiftR k r) := by
  unfold joinR shiftR
  by_cases h : r.2.2 = 0
  · simp [h]
  · simp [h]

theorem allL_shift (f : Nat) : ∀ (n k j : Nat) (bs : List UInt8), bs.length ≤ n → bs.length ≤ f → allL f (j + k) bs = shiftR k (allL f j bs) := by
  intro n
  induction n with
  | zero =>
    intro k j bs h1 h2
    have : bs = [] := List.eq_nil_of_length_eq_zero (by omega)
    subst this
    rw [allL_nil, allL_nil]
    rfl
  | succ n ih =>
    intro k j bs h1 h2
    obtain ⟨s1, s2⟩ := decAt_shift k j bs
    rcases allL_cases (k := j) h2 with ⟨h0, e⟩ | ⟨c, r, hb, hp, hl, hi, hd, e⟩ | ⟨h0, hd, e⟩
    · subst h0
      rw [allL_nil, allL_nil]
      rfl
    · have hne : bs ≠ [] := by rw [hb]; simp
      have hst := allL_step hne h2 (at_ := j + k) (by rw [s1]; exact hd)
      rw [s2 hd, hi] at hst
      simp only [shiftI, Int.toNat_natCast] at hst
      have := ih k (j + sizeN c.toNat) (bs.drop (sizeN c.toNat)) (by simp; omega) (by simp; omega)
      rw [show j + k + sizeN c.toNat = j + sizeN c.toNat + k by omega, this] at hst
      rw [hst, e, shiftR_join]
      rfl
    · rw [e, allL_stop h0 h2 (by rw [s1]; exact hd), s1]
      unfold shiftR
      simp [hd]

end Go.Proofs.YtildemmkhndhjaaGreatDoor
namespace Go.Proofs.YtildemmkhndhjaaGreatDoor
open Go.RowKit

/-- Does an instruction begin there? -/
def begunI (l : List In) (k : Nat) : Bool := l.any fun i => decide (i.1 = (k : Int))
def wrongI (all : List In) (l : List En) (locals : Int) (i : In) : Int := if rowI i.2.1 = 2 then (if locals ≤ i.2.2.1 then 43 else 0) else if rowI i.2.1 = 4 then (if begunI all i.2.2.1.toNat = true then 0 else 18) else entryI l i
def checkL (all : List In) (l : List En) (locals : Int) : List In → Int × Int
  | [] => (0, 0)
  | i :: r => if wrongI all l locals i = 0 then checkL all l locals r else (i.1, wrongI all l locals i)
def checkI (code : List UInt8) (l : List En) (locals : Int) : Int × Int := if code = [] then (0, 46) else if 1024 < code.length then (0, 5) else if (allR code).2.2 = 0 then checkL (allR code).1 l locals (allR code).1 else ((allR code).2.1, (allR code).2.2)

theorem wrongB_eq {bl : List Bool} {all : List In} (h : ∀ k, bl.getD k false = begunI all k) (l : List En) (locals : Int) (i : In) : wrongB bl l locals i = wrongI all l locals i := by
  unfold wrongB wrongI
  rw [h]

theorem begun_snoc (l : List In) (i : In) (k : Nat) : begunI (l ++ [i]) k = (begunI l k || decide (i.1 = (k : Int))) := by simp [begunI]

theorem begun_set {bl : List Bool} {l : List In} {i : In} {p : Nat} (h : ∀ k, bl.getD k false = begunI l k) (hi : i.1 = (p : Int)) (hp : p < bl.length) : ∀ k, (bl.set p true).getD k false = begunI (l ++ [i]) k := by
  intro k
  rw [begun_snoc, ← h k, hi]
  by_cases hk : k = p
  · subst hk
    simp [List.getD, hp]
  · have : ¬ ((p : Int) = (k : Int)) := by omega
    simp [List.getD, Ne.symm hk, this]

theorem checkL_drop {all : List In} {l : List En} {locals : Int} {r : List In} {j : Nat} (h : j < r.length) : checkL all l locals (r.drop j) = if wrongI all l locals r[j] = 0 then checkL all l locals (r.drop (j + 1)) else (r[j].1, wrongI all l locals r[j]) := by
  rw [List.drop_eq_getElem_cons h, checkL]

theorem elBool : ElT 4 (.bool false) 1 1 := ⟨by kernel_rfl, rfl, by decide, by decide⟩

theorem lcs_replicate (n : Nat) : (madeCells (Value.bool false).cells (n * 1)).toList = lcs (List.replicate n false) := by
  have : (Value.bool false).cells = #[Value.bool false] := rfl
  rw [this, Nat.mul_one, toList_madeCells_one]
  simp [lcs]

theorem lcs_set (l : List Bool) (k : Nat) (b : Bool) : (lcs l).set k (.bool b) = lcs (l.set k b) := by
  simp [lcs, List.map_set]

/-- The bounds of a method in memory. -/
structure BdAt (w : World) (b : Nat) (x y z : Value) : Prop where
  c0 : w.cell? ⟨b, 0, none⟩ = some x
  c1 : w.cell? ⟨b, 1, none⟩ = some y
  c2 : w.cell? ⟨b, 2, none⟩ = some z

theorem bdAt_new (w : World) (x y z : Value) (t : TypeId) : BdAt (w.alloc (.cells #[x, y, z] t)) w.heap.size x y z :=
  ⟨by rw [cell_new]; rfl, by rw [cell_new]; rfl, by rw [cell_new]; rfl⟩

theorem BdAt.only {w w' : World} {S : List Nat} {b : Nat} {x y z : Value} (h : BdAt w b x y z) (ho : Only S w w') (hb : b ∉ S) : BdAt w' b x y z := by
  have hl : b < w.heap.size := World.block_lt_of_cell? w _ h.c0
  exact ⟨by rw [ho.cell hl hb]; exact h.c0, by rw [ho.cell hl hb]; exact h.c1, by rw [ho.cell hl hb]; exact h.c2⟩

theorem begun_nil (n : Nat) : ∀ k, (List.replicate n false).getD k false = begunI [] k := by
  intro k
  simp only [begunI, List.any_nil, List.getD, List.getElem?_replicate]
  split <;> rfl

set_option maxHeartbeats 2000000 in
set_option maxRecDepth 100000 in
theorem icheck_any {w : World} {ao eo : Option Addr} {code : List UInt8} {l : List En} {d de cap ecap : Nat} (hB : RS w ao (bcs code) d) (hc : code.length ≤ cap) (hcl : cap ≤ 9223372036854775807)
    (hE : ES w eo l de) (hl : l.length ≤ 9223372036854775807) (hA : ∀ e ∈ l, e.2.1.length ≤ 9223372036854775807) (locals : Int) :
    Calls Tryz.prog 125 #[.slice ao code.length cap, .slice eo l.length ecap, .int .i64 locals] w fun e w' => e = .returned (.tuple #[.int .i64 (checkI code l locals).1, .int .i64 (checkI code l locals).2]) ∧ Only [] w w' := by
  unfold checkI
  by_cases h0 : code = []
  · subst h0
    rw [if_pos rfl]
    clear hB hE
    go_enter Tryz.func125, Tryz.ntmps125
    go_wp2
    go_ret2
    exact ⟨rfl, Only.refl _ _⟩
  rw [if_neg h0]
  have hpos := List.length_pos_iff.2 h0
  have g0 : ¬ ((code.length : Int) = 0) := by omega
  have g0' : ((code.length : Int) == 0) = false := by simpa using g0
  clear h0
  by_cases h1 : 1024 < code.length
  · rw [if_pos h1]
    have g1 : (1024 < (code.length : Int)) := by omega
    clear hB hE
    go_enter Tryz.func125, Tryz.ntmps125
    go_wp2
    go_ret2
    exact ⟨rfl, Only.refl _ _⟩
  rw [if_neg h1]
  have g1 : ¬ (1024 < (code.length : Int)) := by omega
  have HA := hid (all_any hB hc hcl (by omega))
  have hev := all_each code
  have hln := all_len code
  generalize allR code = X at *
  obtain ⟨al, aa, ae⟩ := X
  simp only at hev hln ⊢
  clear hB
  by_cases hae : ae = 0
  · subst hae
    rw [if_pos rfl]
    have HW := hid (fun W (hW : Only [] w W) (go : Option Addr) (bl : List Bool) (dg gc : Nat) (hG : RS W go (lcs bl) dg) (hbl : bl.length ≤ 9223372036854775807) (i : In) (hn : 0 ≤ i.2.2.1) => wrong_in (cap := ecap) (gc := gc) (hE.only hW (by simp)) hl hA hG hbl locals i.1 i.2.1 i.2.2.1 i.2.2.2 hn)
    clear hE hA
    obtain ⟨i0, hi, hz0, hz1, hz2⟩ := elBool.parts
    obtain ⟨x, hx⟩ : ∃ x, x = checkL al l locals al := ⟨_, rfl⟩
    rw [← hx]
    have hr : Hid (x = checkL al l locals (al.drop 0)) := by rw [hx]; rfl
    clear hx
    replace hev := hid hev
    go_enter Tryz.func125, Tryz.ntmps125
    go_wp2_with (first | (go_at_call 169; refine HA.out.mono ?_; rintro e w1 ⟨ao1, cap1, rfl, hown1, ho1⟩) | (at_make; refine wpList_make_full _ rfl (.tmp 36) (.tmp 36) 246 rfl w1.heap.size 4 i0 (.bool false) 1 Tryz.underlying246 hi hz0 hz1 .i64 .i64 _ _ code.length rfl rfl rfl rfl (by rw [hz2]; omega) (by unfold maxLen; omega) (Nat.le_refl _) ?_; intro w2 hownG hgr) | fail)
    have hG0 := hownG
    rw [lcs_replicate] at hG0
    have s2 := hgr.size
    have hg2 : w1.heap.size < w2.heap.size := by
      have := hG0.lt w1.heap.size rfl
      omega
    have o2 := hid ((ho1.next (Only.of_grown hgr) (by simp)).alloc (.cells #[.slice eo l.length ecap, .int .i64 locals, .slice (some ⟨w1.heap.size, 0, none⟩) code.length code.length] 248))
    obtain ⟨d1, hR1⟩ : ∃ d, RS w1 ao1 (qcs al) d := ⟨_, (RS.of_owns hown1).1⟩
    have hd1 : al ≠ [] → d1 < w1.heap.size := fun h => hR1.lt (qcs_ne h)
    have R1 := hid (hR1.only0 ((Only.of_grown hgr).next ((Only.refl [] w2).alloc (.cells #[.slice eo l.length ecap, .int .i64 locals, .slice (some ⟨w1.heap.size, 0, none⟩) code.length code.length] 248)) (by simp)))
    have B1 := hid (bdAt_new w2 (.slice eo l.length ecap) (.int .i64 locals) (.slice (some ⟨w1.heap.size, 0, none⟩) code.length code.length) 248)
    have G1 := hid (hG0.alloc (.cells #[.slice eo l.length ecap, .int .i64 locals, .slice (some ⟨w1.heap.size, 0, none⟩) code.length code.length] 248))
    have hN0 := hid (begun_nil code.length)
    have hlt1 := ho1.size
    clear hownG hG0 hgr hown1 hR1 HA
    replace hd1 := hid hd1
    go_loopw [41] (fun i wr => ∃ (j : Nat) (bl : List Bool), j ≤ al.length ∧ i = .int .i64 (j : Int) ∧ Hid (bl.length = code.length) ∧ Hid (∀ k, bl.getD k false = begunI (al.take j) k) ∧ Hid (wr.ownsRow w1.heap.size 4 1 (.slice (some ⟨w1.heap.size, 0, none⟩) code.length code.length) code.length (lcs bl)) ∧ Hid (BdAt wr w2.heap.size (.slice eo l.length ecap) (.int .i64 locals) (.slice (some ⟨w1.heap.size, 0, none⟩) code.length code.length)) ∧ Hid (RS wr ao1 (qcs al) d1) ∧ Hid (Only [] w wr)) (fun i _ => al.length - (intOf i).toNat)
    case atStart => exact ⟨0, List.replicate code.length false, by omega, rfl, by simp [Hid], hN0, G1, B1, R1, o2⟩
    case round =>
      obtain ⟨j, bl, hj, rfl, hbl, hbg, hG, hBd, hR, hor⟩ := hrel
      clear G1 B1 R1 o2 hN0
      by_cases hlt : j < al.length
      · have g2 : ((j : Int) < (al.length : Int)) := by omega
        obtain ⟨off, rfl, y0, y1, y2, y3⟩ := hR.out.inAt hlt
        obtain ⟨v0, v1, _, _, _, v5, _, _⟩ := hev.out al[j] (List.getElem_mem hlt)
        have htk := List.take_succ_eq_append_getElem hlt
        have hd := hd1.out (fun e => by rw [e] at hlt; simp at hlt)
        clear hev HW hr
        generalize al[j] = i at *
        obtain ⟨p, o, n, s⟩ := i
        simp only at y0 y1 y2 y3 v0 v1 v5
        obtain ⟨p, rfl⟩ : ∃ q : Nat, p = (q : Int) := ⟨p.toNat, by omega⟩
        have hp : p < code.length := by omega
        have hgl : w1.heap.size < wr.heap.size := ((hG.out.lt w1.heap.size rfl)).2
        have z0 : wr.cell? ⟨w1.heap.size, p, none⟩ = some (.bool (bl[p]'(by rw [hbl.out]; exact hp))) := by
          rw [hG.out.cellAt p (by omega), lcs_get bl p (by rw [hbl.out]; exact hp)]
        have z0' := fun o => cell_alloc o z0
        have zf : ∀ o, (wr.alloc o).frozen? ⟨w1.heap.size, p, none⟩ = false := fun o => by rw [frozen_alloc o hgl]; exact hG.out.frozenAt p
        obtain ⟨b0, b1, b2⟩ := hBd.out
        have b2' := fun o => cell_alloc o b2
        have g3 : ((p : Int) < (code.length : Int)) := by omega
        have hbg' : Hid (∀ k, (bl.set p true).getD k false = begunI (al.take (j + 1)) k) := by
          rw [htk]
          exact begun_set hbg.out rfl (by rw [hbl.out]; exact hp)
        have G2 := hG.out.stored p (.bool true)
        rw [lcs_set] at G2
        have oo := hid (((Only.refl [w1.heap.size] wr).setCell (p := ⟨w1.heap.size, p, none⟩) (.inl (by simp)) (.bool true)).alloc (.cells #[.int .i64 (p : Int), .int .i64 o, .int .i64 n, .int .i64 s] 250))
        replace G2 := hid (G2.1.alloc (.cells #[.int .i64 (p : Int), .int .i64 o, .int .i64 n, .int .i64 s] 250))
        clear htk b0 b1 b2 z0 hd1
        go_wp2
        refine ⟨⟨j + 1, bl.set p true, by omega, by go_num, by simpa [Hid] using hbl.out, hbg', G2, hid (hBd.out.only oo.out (by simp; omega)), hid (hR.out.only oo.out (fun _ => by simp; omega)), hid ((hor.out.setCell (p := ⟨w1.heap.size, p, none⟩) (.inr hlt1) _).alloc _)⟩, by simp [intOf]; omega⟩
      · have g2 : ¬ ((j : Int) < (al.length : Int)) := by omega
        have hbg' : Hid (∀ k, bl.getD k false = begunI al k) := by
          have := hbg.out
          rw [List.take_of_length_le (by omega)] at this
          exact this
        have HW2 := hid (fun W (hW : Only [] w W) (hG : RS W (some ⟨w1.heap.size, 0, none⟩) (lcs bl) w1.heap.size) (i : In) (hn : 0 ≤ i.2.2.1) => HW.out W hW _ bl _ code.length hG (by rw [hbl.out]; omega) i hn)
        simp only [hbl.out, inV, wrongB_eq hbg'.out] at HW2
        clear hbg hbg' HW
        go_wp2
        go_loopw [53] (fun i wr => ∃ (j : Nat), j ≤ al.length ∧ i = .int .i64 (j : Int) ∧ Hid (x = checkL al l locals (al.drop j)) ∧ Hid (wr.ownsRow w1.heap.size 4 1 (.slice (some ⟨w1.heap.size, 0, none⟩) code.length code.length) code.length (lcs bl)) ∧ Hid (BdAt wr w2.heap.size (.slice eo l.length ecap) (.int .i64 locals) (.slice (some ⟨w1.heap.size, 0, none⟩) code.length code.length)) ∧ Hid (RS wr ao1 (qcs al) d1) ∧ Hid (Only [] w wr)) (fun i _ => al.length - (intOf i).toNat)
        case atStart => exact ⟨0, by omega, rfl, hr, hG, hBd, hR, hor⟩
        case round =>
          obtain ⟨j', hj', rfl, hq, hG', hBd', hR', hor'⟩ := hrel
          clear hr hG hBd hR hor
          by_cases hlt' : j' < al.length
          · have g4 : ((j' : Int) < (al.length : Int)) := by omega
            obtain ⟨off, rfl, y0, y1, y2, y3⟩ := hR'.out.inAt hlt'
            obtain ⟨_, _, _, _, _, _, v6, _⟩ := hev.out al[j'] (List.getElem_mem hlt')
            have hdr := checkL_drop (all := al) (l := l) (locals := locals) hlt'
            rw [← hq.out] at hdr
            clear hq hev hd1
            generalize al[j'] = i at *
            obtain ⟨p, o, n, s⟩ := i
            simp only at y0 y1 y2 y3 v6 hdr
            have oo := hid ((Only.refl [] wr).alloc (.cells #[.int .i64 p, .int .i64 o, .int .i64 n, .int .i64 s] 250))
            have I0 := hid (inAt_new wr p o n s 250)
            obtain ⟨b0, b1, b2⟩ := hBd'.out
            have b0' := fun o => cell_alloc o b0
            have b1' := fun o => cell_alloc o b1
            have b2' := fun o => cell_alloc o b2
            have HW3 := HW2.out _ (hor'.out.next oo.out (by simp)) (RS.of_owns (rows_only hG'.out oo.out (by simp))).1 (p, o, n, s) v6
            simp only at HW3
            generalize wrongI al l locals (p, o, n, s) = er at *
            replace HW3 := hid HW3
            by_cases he : er = 0
            · subst he
              rw [if_pos rfl] at hdr
              replace hdr := hid hdr
              go_wp2_with (go_at_call 170; refine HW3.out.mono ?_; rintro e w5 ⟨rfl, ho5⟩)
              exact ⟨⟨j' + 1, by omega, by go_num, hdr, hid (rows_only hG'.out (oo.out.next ho5 (by simp)) (by simp)), hid (hBd'.out.only (oo.out.next ho5 (by simp)) (by simp)), hid (hR'.out.only0 (oo.out.next ho5 (by simp))), hid (hor'.out.next (oo.out.next ho5 (by simp)) (by simp))⟩, by simp [intOf]; omega⟩
            · have ge : (er == 0) = false := by simpa using he
              rw [if_neg he] at hdr
              subst hdr
              go_wp2_with (go_at_call 170; refine HW3.out.mono ?_; rintro e w5 ⟨rfl, ho5⟩; obtain ⟨c0, c1, c2, c3⟩ := I0.out.only ho5 (by simp))
              go_ret2
              exact ⟨rfl, hor'.out.next (oo.out.next ho5 (by simp)) (by simp)⟩
          · have g4 : ¬ ((j' : Int) < (al.length : Int)) := by omega
            have hxx : x = (0, 0) := by rw [hq.out, List.drop_eq_nil_of_le (by omega)]; rfl
            subst hxx
            clear hq hev hd1 HW2
            go_wp2
            go_ret2
            exact ⟨rfl, hor'.out⟩
  · have ge : (ae == 0) = false := by simpa using hae
    rw [if_neg hae]
    clear hE hA hev
    go_enter Tryz.func125, Tryz.ntmps125
    go_wp2_with (go_at_call 169; refine HA.out.mono ?_; rintro e w1 ⟨ao1, cap1, rfl, hown1, ho1⟩; clear hown1)
    go_ret2
    exact ⟨rfl, ho1⟩

end Go.Proofs.YtildemmkhndhjaaGreatDoor
namespace Go.Proofs.YtildemmkhndhjaaGreatDoor
open Go.RowKit

/-- A builder in block b that holds these bytes. -/
abbrev Bu (B b : Nat) (l : List UInt8) (w : World) : Prop := Lib.IsBuilderF 270 5 B b (Lib.byteCells l) w
abbrev Bs (w w' : World) (b : Nat) : Prop := Lib.OthersKept 5 (some b) w w'

theorem no_escape (x : Value) (w : World) : (callFunc 222 #[x]).run Tryz.prog w = .ok (.value x) w := by
  rw [run_callFunc_extern Tryz.func222 (by kernel_rfl) (by kernel_rfl) (by kernel_rfl) (e := Extern.AbiNoEscape.same) (by kernel_rfl), Lib.run_noEscape]
  rfl

theorem sizeB : (Tryz.prog.info? 270).map (·.size) = some 2 := by kernel_rfl
theorem liesB : liesAt Tryz.prog Tryz.prog.depth 270 (2 / Tryz.prog.cellsOf 270) 0 270 1 = true := by kernel_rfl

set_option maxHeartbeats 400000 in
theorem check_fresh {w : World} {b : Nat} (c0 : w.cell? ⟨b, 0, none⟩ = some (.pointer none)) (hsh : w.shape? b = some (270, 2)) (f0 : w.frozen? ⟨b, 0, none⟩ = false) :
    Calls Tryz.prog 206 #[.pointer (some ⟨b, 0, none⟩)] w fun e w' => e = .returned (.tuple #[]) ∧ w' = w.setCell ⟨b, 0, none⟩ (.pointer (some ⟨b, 0, none⟩)) := by
  obtain ⟨j, hj, hjs⟩ := Option.map_eq_some_iff.1 sizeB
  have k1 := Lib.run_to_unsafe (src := 268) (dst := 128) w ⟨b, 0, none⟩ Tryz.underlying268 Tryz.underlying128 hj (by omega) hsh (Nat.zero_lt_succ 1)
  have k2 := Lib.run_from_unsafe (src := 128) (dst := 268) w ⟨b, 0, none⟩ Tryz.underlying128 Tryz.underlying268 hj hsh liesB
  have k3 := no_escape (.pointer (some ⟨b, 0, none⟩))
  have k4 := fun w => Lib.run_neq_ptr_same (P := Tryz.prog) w ⟨b, 0, none⟩ Tryz.underlying268 hj
  go_enter Tryz.func206, Tryz.ntmps206
  go_wp2
  go_end0
  exact ⟨rfl, rfl⟩

set_option maxHeartbeats 400000 in
theorem check_used {w : World} {b : Nat} (c0 : w.cell? ⟨b, 0, none⟩ = some (.pointer (some ⟨b, 0, none⟩))) :
    Calls Tryz.prog 206 #[.pointer (some ⟨b, 0, none⟩)] w fun e w' => e = .returned (.tuple #[]) ∧ w' = w := by
  obtain ⟨j, hj, hjs⟩ := Option.map_eq_some_iff.1 sizeB
  have k4 := fun w => Lib.run_neq_ptr_same (P := Tryz.prog) w ⟨b, 0, none⟩ Tryz.underlying268 hj
  go_enter Tryz.func206, Tryz.ntmps206
  go_wp2
  go_end0
  exact ⟨rfl, rfl⟩

/-- A builder that was used. -/
abbrev BuAt (B b : Nat) (l : List UInt8) (w : World) : Prop := Lib.BuilderAtF 270 5 B b (.pointer (some ⟨b, 0, none⟩)) (Lib.byteCells l) w

theorem check_any' {B b : Nat} {l : List UInt8} {w : World} (h : Bu B b l w) :
    Calls Tryz.prog 206 #[.pointer (some ⟨b, 0, none⟩)] w fun e w' => e = .returned (.tuple #[]) ∧ BuAt B b l w' ∧ Below B w w' ∧ Bs w w' b := by
  rcases h with h | h
  · refine (check_fresh h.cell0 h.shape h.frozen0).mono ?_
    rintro e w' ⟨rfl, rfl⟩
    exact ⟨rfl, h.used _, (Below.refl B w).setCell (p := ⟨b, 0, none⟩) h.1 _, (Lib.OthersKept.refl _ _ w).setCell ⟨b, 0, none⟩ rfl _⟩
  · refine (check_used h.cell0).mono ?_
    rintro e w' ⟨rfl, rfl⟩
    exact ⟨rfl, h, Below.refl B _, Lib.OthersKept.refl _ _ _⟩

theorem infoU : (Tryz.prog.info? 5).map (fun i => (i.zero, i.size, i.bytes)) = some (some (.int .u8 0), 1, 1) := by kernel_rfl

theorem cells_append (a b : List UInt8) : Lib.byteCells (a ++ b) = Lib.byteCells a ++ Lib.byteCells b := by simp [Lib.byteCells]
theorem cells_length (l : List UInt8) : (Lib.byteCells l).length = l.length := by simp [Lib.byteCells]
theorem cells_str (l : List UInt8) : Lib.strCells (str l) = Lib.byteCells l := by
  unfold Lib.strCells Lib.byteCells
  rw [str_data]

/-- What an append to a builder's bytes leaves. -/
theorem bu_put {B b : Nat} {l m : List UInt8} {v v' : Value} {w1 w2 : World} {row : Option Nat} (hB : B ≤ b) (hbk : w1.heap[b]? = some (.cells #[.pointer (some ⟨b, 0, none⟩), v] 270 (0, 0))) (hg : w1.grownBy w2 row) (hne : row ≠ some b)
    (hown : w2.ownsRowF B 5 1 v' (l.length + m.length) (Lib.byteCells l ++ Lib.byteCells m)) :
    w2.heap[b]? = some (.cells #[.pointer (some ⟨b, 0, none⟩), v] 270 (0, 0)) ∧ BuAt B b (l ++ m) (w2.setCell ⟨b, 1, none⟩ v') := by
  have hb2 : w2.heap[b]? = some (.cells #[.pointer (some ⟨b, 0, none⟩), v] 270 (0, 0)) := by
    rw [hg.block b (Array.getElem?_eq_some_iff.1 hbk).1 (fun e => hne e.symm)]
    exact hbk
  refine ⟨hb2, Lib.BuilderAtF.put hB hb2 ?_ (by decide)⟩
  rw [cells_append, List.length_append, cells_length, cells_length]
  exact hown

set_option maxHeartbeats 1000000 in
theorem write_any {B b : Nat} {l : List UInt8} {w : World} (h : Bu B b l w) (m : List UInt8) (hlen : l.length + m.length ≤ 140737488355328) (hBw : B ≤ w.heap.size) :
    Calls Tryz.prog 187 #[.pointer (some ⟨b, 0, none⟩), .string (str m)] w fun e w' => e = .returned (.tuple #[.int .i64 (m.length : Int), .nilIface]) ∧ BuAt B b (l ++ m) w' ∧ Below B w w' ∧ Bs w w' b := by
  obtain ⟨i0, hi, hz0, hz1, hz2⟩ := info_parts infoU
  have HC := hid (check_any' h)
  have hm := str_size m
  go_enter Tryz.func187, Tryz.ntmps187
  go_wp2_with fail
  refine HC.out.mono ?_
  rintro e w1 ⟨rfl, ⟨hB, v, hbk, hown, hne⟩, hb1, hk1⟩
  have c0 : w1.cell? ⟨b, 0, none⟩ = some (.pointer (some ⟨b, 0, none⟩)) := by rw [Lib.cell_of_heap hbk]; rfl
  have c1 : w1.cell? ⟨b, 1, none⟩ = some v := by rw [Lib.cell_of_heap hbk]; rfl
  rw [cells_length] at hown
  have hsz := hb1.size
  go_wp2_with (at_builtin; refine Lib.wpList_append_own_stringF _ rfl (.tmp 12) (.tmp 13) 38 9 rfl B 5 i0 Tryz.underlying38 Tryz.underlying9 hi hz0 hz1 hz2 v l.length (Lib.byteCells l) rfl hown (str m) rfl (by rw [hm]; unfold maxLen; omega) (by omega) (by omega) ?_)
  intro v' w2 hown' hgrow _
  rw [cells_str] at hown'
  obtain ⟨hb2, hat⟩ := bu_put hB hbk hgrow hne hown'
  have d0 : w2.cell? ⟨b, 0, none⟩ = some (.pointer (some ⟨b, 0, none⟩)) := by rw [Lib.cell_of_heap hb2]; rfl
  have d1 : w2.cell? ⟨b, 1, none⟩ = some v := by rw [Lib.cell_of_heap hb2]; rfl
  have f1 : w2.frozen? ⟨b, 1, none⟩ = false := Lib.frozen_of_heap hb2 1
  obtain ⟨ao, n', cap, rfl⟩ : ∃ ao n' cap, v' = .slice ao n' cap := by
    rcases hown'.2 with ⟨hv, _⟩ | ⟨g, cap, cur, fz, hv, _⟩
    · exact ⟨_, _, _, hv⟩
    · exact ⟨_, _, _, hv⟩
  go_wp2
  go_ret2
  refine ⟨rfl, hat, ?_, (hk1.grown hgrow (Lib.ownsRowF_kind hown)).setCell ⟨b, 1, none⟩ rfl _⟩
  exact (hb1.grown hgrow (by omega) (fun k hk => (hown.lt k hk).1)).setCell (p := ⟨b, 1, none⟩) hB _

set_option maxHeartbeats 1000000 in
theorem writeByte_any {B b : Nat} {l : List UInt8} {w : World} (h : Bu B b l w) (c : UInt8) (hlen : l.length + 1 ≤ 140737488355328) (hBw : B ≤ w.heap.size) :
    Calls Tryz.prog 189 #[.pointer (some ⟨b, 0, none⟩), .int .u8 (c.toNat : Int)] w fun e w' => e = .returned .nilIface ∧ BuAt B b (l ++ [c]) w' ∧ Below B w w' ∧ Bs w w' b := by
  obtain ⟨i0, hi, hz0, hz1, hz2⟩ := info_parts infoU
  have HC := hid (check_any' h)
  go_enter Tryz.func189, Tryz.ntmps189
  go_wp2_with fail
  refine HC.out.mono ?_
  rintro e w1 ⟨rfl, ⟨hB, v, hbk, hown, hne⟩, hb1, hk1⟩
  have c0 : w1.cell? ⟨b, 0, none⟩ = some (.pointer (some ⟨b, 0, none⟩)) := by rw [Lib.cell_of_heap hbk]; rfl
  have c1 : w1.cell? ⟨b, 1, none⟩ = some v := by rw [Lib.cell_of_heap hbk]; rfl
  rw [cells_length] at hown
  have hsz := hb1.size
  have hlt := (Array.getElem?_eq_some_iff.1 hbk).1
  go_wp2_with (at_builtin; refine wpList_append_ownF _ rfl (.tmp 11) (.tmp 13) 38 rfl B 5 i0 (.int .u8 0) 1 1 Tryz.underlying38 hi hz0 hz1 hz2 rfl (by decide) v l.length (Lib.byteCells l) rfl (hown.alloc _) ⟨w1.heap.size, 0, none⟩ 1 1 [.int .u8 (c.toNat : Int)] rfl rfl ?c1 ?c2 ?c3 ?c4 ?c5 ?_)
  case c1 =>
    intro j u hj
    match j, hj with
    | 0, hj =>
      simp at hj
      subst hj
      rw [Addr.add_lit, cell_new]
      rfl
  case c2 => intro u hu; simp at hu; subst hu; rfl
  case c3 => unfold maxLen; omega
  case c4 => omega
  case c5 => simp; omega
  intro v' w2 hown' hgrow _
  have hbk' : (w1.alloc (.cells #[.int .u8 (c.toNat : Int)] 5)).heap[b]? = some (.cells #[.pointer (some ⟨b, 0, none⟩), v] 270 (0, 0)) := (Lib.alloc_old w1 _ b hlt).trans hbk
  obtain ⟨hb2, hat⟩ := bu_put (m := [c]) hB hbk' hgrow hne hown'
  have d0 : w2.cell? ⟨b, 0, none⟩ = some (.pointer (some ⟨b, 0, none⟩)) := by rw [Lib.cell_of_heap hb2]; rfl
  have d1 : w2.cell? ⟨b, 1, none⟩ = some v := by rw [Lib.cell_of_heap hb2]; rfl
  have f1 : w2.frozen? ⟨b, 1, none⟩ = false := Lib.frozen_of_heap hb2 1
  obtain ⟨ao, n', cap, rfl⟩ : ∃ ao n' cap, v' = .slice ao n' cap := by
    rcases hown'.2 with ⟨hv, _⟩ | ⟨g, cap, cur, fz, hv, _⟩
    · exact ⟨_, _, _, hv⟩
    · exact ⟨_, _, _, hv⟩
  go_wp2
  go_ret
  refine ⟨rfl, hat, ?_, ((hk1.alloc _).grown hgrow (Lib.ownsRowF_kind (hown.alloc _))).setCell ⟨b, 1, none⟩ rfl _⟩
  exact ((hb1.alloc (by omega) _).grown hgrow (by simp; omega) (fun k hk => (hown.lt k hk).1)).setCell (p := ⟨b, 1, none⟩) hB _

end Go.Proofs.YtildemmkhndhjaaGreatDoor
namespace Go.Proofs
open Go.Shelf
def Tryz.lays169_ren : Go.Shelf.Ren := ⟨fun | 169 => 190 | n => n, fun | 70 => 268 | 9 => 9 | 0 => 0 | 72 => 270 | 37 => 38 | 127 => 294 | 3 => 3 | 5 => 5 | n => n, fun | n => n⟩
theorem Tryz.lays169 : Go.Proofs.Lays.n169 Tryz.prog Tryz.lays169_ren := {
  mixed := by kernel_rfl
  f169 := Tryz.func190.trans (congrArg some (by kernel_rfl))
  t0 := Tryz.underlying0
  a0 := Tryz.isAgg0
  z0 := Tryz.sizeOf0
  v0 := Tryz.zeroValue0
  t3 := Tryz.underlying3
  a3 := Tryz.isAgg3
  z3 := Tryz.sizeOf3
  v3 := Tryz.zeroValue3
  t9 := Tryz.underlying9
  a9 := Tryz.isAgg9
  z9 := Tryz.sizeOf9
  v9 := Tryz.zeroValue9
  t37 := Tryz.underlying38
  a37 := Tryz.isAgg38
  z37 := Tryz.sizeOf38
  v37 := Tryz.zeroValue38
  t70 := Tryz.underlying268
  a70 := Tryz.isAgg268
  z70 := Tryz.sizeOf268
  v70 := Tryz.zeroValue268
  t72 := Tryz.underlying270
  a72 := Tryz.isAgg270
  z72 := Tryz.sizeOf270
  v72 := Tryz.zeroValue270
  t127 := Tryz.underlying294
  a127 := Tryz.isAgg294
  z127 := Tryz.sizeOf294
  v127 := Tryz.zeroValue294 }
theorem Tryz.Builder_Extra_169 : Builder.Extra Tryz.prog Tryz.lays169_ren := {
  sizeBuilder := by kernel_rfl
  liesBuilder := by kernel_rfl
  t5 := Tryz.underlying5
  a5 := Tryz.isAgg5
  z5 := Tryz.sizeOf5
  v5 := Tryz.zeroValue5
  infoByte := by kernel_rfl
  cellsByte := by kernel_rfl
  sizeByte := by kernel_rfl
  neB5 := by decide }
open Go.RowKit in
theorem Tryz.Builder_String_any_k (B b : Nat) (l : List UInt8) (w : World) (h : Lib.IsBuilderF 270 5 B b (Lib.byteCells l) w) (hBw : B ≤ w.heap.size) :
    Calls Tryz.prog 190 #[.pointer (some ⟨b, 0, none⟩)] w fun e w' => e = .returned (.string ⟨l.toArray⟩) ∧ (Lib.IsBuilderF 270 5 B b (Lib.byteCells l) w' ∧ Below B w w' ∧ Lib.OthersKept 5 (some b) w w') := Any.Builder_String_any_k Tryz.lays169 Tryz.Builder_Extra_169 B b l w h hBw
def Tryz.lays171_ren : Go.Shelf.Ren := ⟨fun | 171 => 256 | 243 => 257 | 246 => 258 | 283 => 259 | 284 => 260 | 285 => 261 | 286 => 262 | 129 => 264 | 317 => 263 | 318 => 265 | 319 => 266 | 320 => 267 | 337 => 268 | 338 => 269 | n => n, fun | 3 => 3 | 9 => 9 | 2 => 2 | 4 => 4 | 171 => 338 | 0 => 0 | 53 => 212 | 37 => 38 | 5 => 5 | 173 => 341 | 212 => 344 | 51 => 310 | 20 => 20 | 213 => 345 | 46 => 255 | 232 => 348 | 233 => 349 | n => n, fun | 17 => 2 | 18 => 3 | 19 => 4 | n => n⟩
theorem Tryz.lays171 : Go.Proofs.Lays.n171 Tryz.prog Tryz.lays171_ren := {
  mixed := by kernel_rfl
  f129 := Tryz.func264.trans (congrArg some (by kernel_rfl))
  f171 := Tryz.func256.trans (congrArg some (by kernel_rfl))
  f243 := Tryz.func257.trans (congrArg some (by kernel_rfl))
  f246 := Tryz.func258.trans (congrArg some (by kernel_rfl))
  f283 := Tryz.func259.trans (congrArg some (by kernel_rfl))
  f284 := Tryz.func260.trans (congrArg some (by kernel_rfl))
  f285 := Tryz.func261.trans (congrArg some (by kernel_rfl))
  f286 := Tryz.func262.trans (congrArg some (by kernel_rfl))
  f317 := Tryz.func263.trans (congrArg some (by kernel_rfl))
  f318 := Tryz.func265.trans (congrArg some (by kernel_rfl))
  f319 := Tryz.func266.trans (congrArg some (by kernel_rfl))
  f320 := Tryz.func267.trans (congrArg some (by kernel_rfl))
  f337 := Tryz.func268.trans (congrArg some (by kernel_rfl))
  f338 := Tryz.func269.trans (congrArg some (by kernel_rfl))
  t0 := Tryz.underlying0
  a0 := Tryz.isAgg0
  z0 := Tryz.sizeOf0
  v0 := Tryz.zeroValue0
  t2 := Tryz.underlying2
  a2 := Tryz.isAgg2
  z2 := Tryz.sizeOf2
  v2 := Tryz.zeroValue2
  t3 := Tryz.underlying3
  a3 := Tryz.isAgg3
  z3 := Tryz.sizeOf3
  v3 := Tryz.zeroValue3
  t4 := Tryz.underlying4
  a4 := Tryz.isAgg4
  z4 := Tryz.sizeOf4
  v4 := Tryz.zeroValue4
  t5 := Tryz.underlying5
  a5 := Tryz.isAgg5
  z5 := Tryz.sizeOf5
  v5 := Tryz.zeroValue5
  t9 := Tryz.underlying9
  a9 := Tryz.isAgg9
  z9 := Tryz.sizeOf9
  v9 := Tryz.zeroValue9
  t20 := Tryz.underlying20
  a20 := Tryz.isAgg20
  z20 := Tryz.sizeOf20
  v20 := Tryz.zeroValue20
  t37 := Tryz.underlying38
  a37 := Tryz.isAgg38
  z37 := Tryz.sizeOf38
  v37 := Tryz.zeroValue38
  t46 := Tryz.underlying255
  a46 := Tryz.isAgg255
  z46 := Tryz.sizeOf255
  v46 := Tryz.zeroValue255
  t51 := Tryz.underlying310
  a51 := Tryz.isAgg310
  z51 := Tryz.sizeOf310
  v51 := Tryz.zeroValue310
  t53 := Tryz.underlying212
  a53 := Tryz.isAgg212
  z53 := Tryz.sizeOf212
  v53 := Tryz.zeroValue212
  t171 := Tryz.underlying338
  a171 := Tryz.isAgg338
  z171 := Tryz.sizeOf338
  v171 := Tryz.zeroValue338
  t173 := Tryz.underlying341
  a173 := Tryz.isAgg341
  z173 := Tryz.sizeOf341
  v173 := Tryz.zeroValue341
  t212 := Tryz.underlying344
  a212 := Tryz.isAgg344
  z212 := Tryz.sizeOf344
  v212 := Tryz.zeroValue344
  t213 := Tryz.underlying345
  a213 := Tryz.isAgg345
  z213 := Tryz.sizeOf345
  t232 := Tryz.underlying348
  a232 := Tryz.isAgg348
  z232 := Tryz.sizeOf348
  v232 := Tryz.zeroValue348
  t233 := Tryz.underlying349
  a233 := Tryz.isAgg349
  z233 := Tryz.sizeOf349
  v233 := Tryz.zeroValue349
  g17 := by kernel_rfl
  g18 := by kernel_rfl
  g19 := by kernel_rfl }
open Go.RowKit Go.Sort Go.Lib in
theorem Tryz.strconv_Itoa_small (i : Nat) (hi : i < 100) (w : World) :
    Calls Tryz.prog 256 #[.int .i64 i] w fun e w' => e = .returned (.string ⟨(Lib.decDigits i).toArray⟩) ∧ w' = w := Any.strconv_Itoa_small Tryz.lays171 i hi w
def Tryz.lays105_ren : Go.Shelf.Ren := ⟨fun | 105 => 188 | 212 => 207 | 99 => 186 | 165 => 208 | 166 => 187 | 170 => 209 | 169 => 190 | 263 => 223 | 264 => 224 | 206 => 205 | 240 => 206 | 241 => 225 | 276 => 222 | 277 => 234 | n => n, fun | 9 => 9 | 3 => 3 | 4 => 4 | 20 => 20 | 0 => 0 | 46 => 255 | 109 => 292 | 5 => 5 | 72 => 270 | 76 => 271 | 51 => 310 | 146 => 311 | 53 => 212 | 148 => 313 | 70 => 268 | 37 => 38 | 75 => 48 | 127 => 294 | 164 => 128 | 80 => 82 | n => n, fun | n => n⟩
theorem Tryz.lays105 : Go.Proofs.Lays.n105 Tryz.prog Tryz.lays105_ren := {
  mixed := by kernel_rfl
  f99 := Tryz.func186.trans (congrArg some (by kernel_rfl))
  f105 := Tryz.func188.trans (congrArg some (by kernel_rfl))
  f165 := Tryz.func208.trans (congrArg some (by kernel_rfl))
  f166 := Tryz.func187.trans (congrArg some (by kernel_rfl))
  f169 := Tryz.func190.trans (congrArg some (by kernel_rfl))
  f170 := Tryz.func209.trans (congrArg some (by kernel_rfl))
  f206 := Tryz.func205.trans (congrArg some (by kernel_rfl))
  f212 := Tryz.func207.trans (congrArg some (by kernel_rfl))
  f240 := Tryz.func206.trans (congrArg some (by kernel_rfl))
  f241 := Tryz.func225.trans (congrArg some (by kernel_rfl))
  f263 := Tryz.func223.trans (congrArg some (by kernel_rfl))
  f264 := Tryz.func224.trans (congrArg some (by kernel_rfl))
  f276 := Tryz.func222.trans (congrArg some (by kernel_rfl))
  f277 := Tryz.func234.trans (congrArg some (by kernel_rfl))
  t0 := Tryz.underlying0
  a0 := Tryz.isAgg0
  z0 := Tryz.sizeOf0
  v0 := Tryz.zeroValue0
  t3 := Tryz.underlying3
  a3 := Tryz.isAgg3
  z3 := Tryz.sizeOf3
  v3 := Tryz.zeroValue3
  t4 := Tryz.underlying4
  a4 := Tryz.isAgg4
  z4 := Tryz.sizeOf4
  v4 := Tryz.zeroValue4
  t5 := Tryz.underlying5
  a5 := Tryz.isAgg5
  z5 := Tryz.sizeOf5
  v5 := Tryz.zeroValue5
  t9 := Tryz.underlying9
  a9 := Tryz.isAgg9
  z9 := Tryz.sizeOf9
  v9 := Tryz.zeroValue9
  t20 := Tryz.underlying20
  a20 := Tryz.isAgg20
  z20 := Tryz.sizeOf20
  v20 := Tryz.zeroValue20
  t37 := Tryz.underlying38
  a37 := Tryz.isAgg38
  z37 := Tryz.sizeOf38
  v37 := Tryz.zeroValue38
  t46 := Tryz.underlying255
  a46 := Tryz.isAgg255
  z46 := Tryz.sizeOf255
  v46 := Tryz.zeroValue255
  t51 := Tryz.underlying310
  a51 := Tryz.isAgg310
  z51 := Tryz.sizeOf310
  v51 := Tryz.zeroValue310
  t53 := Tryz.underlying212
  a53 := Tryz.isAgg212
  z53 := Tryz.sizeOf212
  v53 := Tryz.zeroValue212
  t70 := Tryz.underlying268
  a70 := Tryz.isAgg268
  z70 := Tryz.sizeOf268
  v70 := Tryz.zeroValue268
  t72 := Tryz.underlying270
  a72 := Tryz.isAgg270
  z72 := Tryz.sizeOf270
  v72 := Tryz.zeroValue270
  t75 := Tryz.underlying48
  a75 := Tryz.isAgg48
  z75 := Tryz.sizeOf48
  v75 := Tryz.zeroValue48
  t76 := Tryz.underlying271
  a76 := Tryz.isAgg271
  z76 := Tryz.sizeOf271
  v76 := Tryz.zeroValue271
  t109 := Tryz.underlying292
  a109 := Tryz.isAgg292
  z109 := Tryz.sizeOf292
  v109 := Tryz.zeroValue292
  t127 := Tryz.underlying294
  a127 := Tryz.isAgg294
  z127 := Tryz.sizeOf294
  v127 := Tryz.zeroValue294
  t146 := Tryz.underlying311
  a146 := Tryz.isAgg311
  z146 := Tryz.sizeOf311
  v146 := Tryz.zeroValue311
  t148 := Tryz.underlying313
  a148 := Tryz.isAgg313
  z148 := Tryz.sizeOf313
  v148 := Tryz.zeroValue313
  t164 := Tryz.underlying128
  a164 := Tryz.isAgg128
  z164 := Tryz.sizeOf128
  v164 := Tryz.zeroValue128 }
theorem Tryz.Builder_Extra_105 : Builder.Extra Tryz.prog Tryz.lays105_ren := {
  sizeBuilder := by kernel_rfl
  liesBuilder := by kernel_rfl
  t5 := Tryz.underlying5
  a5 := Tryz.isAgg5
  z5 := Tryz.sizeOf5
  v5 := Tryz.zeroValue5
  infoByte := by kernel_rfl
  cellsByte := by kernel_rfl
  sizeByte := by kernel_rfl
  neB5 := by decide }
open Go.RowKit Go.Lib in
theorem Tryz.strings_Repeat (s : ByteArray) (c : Nat) (w : World) (hc : c ≤ 9223372036854775807) (hlen : s.size * c ≤ 140737488355328) :
    Calls Tryz.prog 188 #[.string s, .int .i64 c] w fun e w' => e = .returned (.string ⟨(Lib.repeatL s.data.toList c).toArray⟩) ∧ Below w.heap.size w w' := Any.strings_Repeat Tryz.lays105 Tryz.Builder_Extra_105 s c w hc hlen
end Go.Proofs
