/-
  The contract of says, the walk of PoolSays: it answers true of whatever entries and number, and writes nothing that was there. Texts have at most 1048576 bytes.
-/
import Derived.Test.YtcdjddakdlflmaaPKnown
import Derived.Test.YtcdjddakdlflmaaYField
namespace Go.Proofs.Ytcdjddakdlflmaa
open Go.RowKit

theorem neq_type2 (t : Ty) (w : World) : (binOp .neq 41 (tyV t) (tyV t)).run Try.prog w = .ok (.bool false) w := by
  rw [neq_type]
  simp

set_option maxHeartbeats 1000000 in
set_option maxRecDepth 100000 in
theorem says_any {w : World} {ao : Option Addr} {l : List En} {d cap : Nat} (hE : ES w ao l d) (hl : l.length ≤ 9223372036854775807) (hA : ∀ e ∈ l, e.2.1.length ≤ 1048576) (i : Int) :
    Calls Try.prog 13 #[.slice ao l.length cap, .int .i64 i] w fun e w' => e = .returned (.bool true) ∧ Only [] w w' := by
  have hA' : ∀ e ∈ l, e.2.1.length ≤ 9223372036854775807 := fun e he => by have := hA e he; omega
  have H1 := fun W (hW : Only [] w W) => ptext_any (cap := cap) (hE.only hW (by simp)) hl hA' i
  have H2 := fun W (hW : Only [] w W) => pnumber_any (cap := cap) (hE.only hW (by simp)) hl hA' i
  have H3 := fun W (hW : Only [] w W) => pclass_any (cap := cap) (hE.only hW (by simp)) hl hA' i
  have H4 := fun W (hW : Only [] w W) => ptype_any (cap := cap) (hE.only hW (by simp)) hl hA' i
  have H5 := fun W (hW : Only [] w W) => pfield_any (cap := cap) (hE.only hW (by simp)) hl hA' i
  have H6 := fun W (hW : Only [] w W) => pmethod_any (cap := cap) (hE.only hW (by simp)) hl hA' i
  have K1 := fun W (hW : Only [] w W) => rptext_any (cap := cap) (hE.only hW (by simp)) hl hA i
  have K2 := fun W (hW : Only [] w W) => rpnumber_any (cap := cap) (hE.only hW (by simp)) hl hA i
  have K3 := fun W (hW : Only [] w W) => rpclass_any (cap := cap) (hE.only hW (by simp)) hl hA i
  have K4 := fun W (hW : Only [] w W) => rptype_any (cap := cap) (hE.only hW (by simp)) hl hA i
  have K5 := fun W (hW : Only [] w W) => rpfield_any (cap := cap) (hE.only hW (by simp)) hl hA i
  have K6 := fun W (hW : Only [] w W) => rpmethod_any (cap := cap) (hE.only hW (by simp)) hl hA i
  generalize textR l i = X1 at *
  generalize numberR l i = X2 at *
  generalize classR l i = X3 at *
  generalize typeAtR l i = X4 at *
  generalize fieldR l i = X5 at *
  generalize methodR l i = X6 at *
  obtain ⟨a1, x1⟩ := X1
  obtain ⟨a2, x2⟩ := X2
  obtain ⟨a3, x3⟩ := X3
  obtain ⟨⟨a4, b4⟩, x4⟩ := X4
  obtain ⟨⟨a5, b5, c5, d5⟩, x5⟩ := X5
  obtain ⟨⟨a6, b6, c6, d6, e6, f6⟩, x6⟩ := X6
  have hq4 := neq_type2 (a4, b4)
  have hq5 := neq_type2 (c5, d5)
  have s1 := str_toList a1
  have s3 := str_toList a3
  have s5 := str_toList a5
  have s5' := str_toList b5
  have s6 := str_toList a6
  have s6' := str_toList b6
  simp only [tyV, sigV] at *
  replace H1 := hid H1
  replace H2 := hid H2
  replace H3 := hid H3
  replace H4 := hid H4
  replace H5 := hid H5
  replace H6 := hid H6
  replace K1 := hid K1
  replace K2 := hid K2
  replace K3 := hid K3
  replace K4 := hid K4
  replace K5 := hid K5
  replace K6 := hid K6
  clear hE hA hA'
  go_enter Try.func13, Try.ntmps13
  go_wp2_with fail
  refine (H1.out _ (Only.refl _ _)).mono ?_
  rintro e w1 ⟨rfl, o1⟩
  clear H1
  go_wp2_with fail
  refine (K1.out _ o1).mono ?_
  rintro e w2 ⟨rfl, ho2⟩
  have o2 := o1.next ho2 (by simp)
  clear K1 o1 ho2
  go_wp2_with fail
  refine (H2.out _ o2).mono ?_
  rintro e w3 ⟨rfl, ho3⟩
  have o3 := o2.next ho3 (by simp)
  clear H2 o2 ho3
  go_wp2_with fail
  refine (K2.out _ o3).mono ?_
  rintro e w4 ⟨rfl, ho4⟩
  have o4 := o3.next ho4 (by simp)
  clear K2 o3 ho4
  go_wp2_with fail
  refine (H3.out _ o4).mono ?_
  rintro e w5 ⟨rfl, ho5⟩
  have o5 := o4.next ho5 (by simp)
  clear H3 o4 ho5
  go_wp2_with fail
  refine (K3.out _ o5).mono ?_
  rintro e w6 ⟨rfl, ho6⟩
  have o6 := o5.next ho6 (by simp)
  clear K3 o5 ho6
  go_wp2_with fail
  refine (H4.out _ o6).mono ?_
  rintro e w7 ⟨rfl, ho7⟩
  have z7 := (o6.next ho7 (by simp)).size
  have o7 := (o6.next ho7 (by simp)).alloc (.cells #[.int .i64 a4, .string (str b4)] 41)
  have P7 := hid (tyAt_new' w7 a4 b4)
  clear H4 o6 ho7
  go_wp2_with fail
  refine (K4.out _ o7).mono ?_
  rintro e w8 ⟨rfl, ho8⟩
  have z8 := ho8.size
  simp only [World.size_alloc] at z8
  have q8 := ho8.alloc (.cells #[.int .i64 a4, .string (str b4)] 41)
  have o8 := o7.next q8 (by simp)
  have P8 := hid (P7.out.only q8 (by simp))
  have Q8 := hid (tyAt_new' w8 a4 b4)
  obtain ⟨p0, p1, _, _⟩ := P8.out
  obtain ⟨r0, r1, _, _⟩ := Q8.out
  clear K4 o7 ho8 q8 P7
  go_wp2_with fail
  refine (H5.out _ o8).mono ?_
  rintro e w9 ⟨rfl, ho9⟩
  have z9 := ho9.size
  simp only [World.size_alloc] at z9
  have o9 := o8.next ho9 (by simp)
  have P9 := hid (P8.out.only ho9 (by simp))
  have Q9 := hid (Q8.out.only ho9 (by simp))
  obtain ⟨p0, p1, pf0, pf1⟩ := P9.out
  have P9' := hid (P9.out.put c5 d5)
  have o9' := (o9.setCell (p := ⟨w7.heap.size, 0, none⟩) (.inr z7) (.int .i64 c5)).setCell (p := ⟨w7.heap.size, 1, none⟩) (.inr z7) (.string (str d5))
  have Q9' := hid (Q9.out.only (S := [w7.heap.size]) (((Only.refl [w7.heap.size] w9).setCell (p := ⟨w7.heap.size, 0, none⟩) (.inl (by simp)) (.int .i64 c5)).setCell (p := ⟨w7.heap.size, 1, none⟩) (.inl (by simp)) (.string (str d5))) (by simp; omega))
  clear H5 o8 ho9 P8 Q8
  go_wp2_with fail
  refine (K5.out _ o9').mono ?_
  rintro e w10 ⟨rfl, ho10⟩
  have P10 := hid (P9'.out.only ho10 (by simp))
  have Q10 := hid (Q9'.out.only ho10 (by simp))
  have o10 := o9'.next ho10 (by simp)
  obtain ⟨r0, r1, rf0, rf1⟩ := Q10.out
  have Q10' := hid (Q10.out.put c5 d5)
  have hz8 : w.heap.size ≤ w8.heap.size := by omega
  have o10' := (o10.setCell (p := ⟨w8.heap.size, 0, none⟩) (.inr hz8) (.int .i64 c5)).setCell (p := ⟨w8.heap.size, 1, none⟩) (.inr hz8) (.string (str d5))
  have P10' := hid (P10.out.only (S := [w8.heap.size]) (((Only.refl [w8.heap.size] w10).setCell (p := ⟨w8.heap.size, 0, none⟩) (.inl (by simp)) (.int .i64 c5)).setCell (p := ⟨w8.heap.size, 1, none⟩) (.inl (by simp)) (.string (str d5))) (by simp; omega))
  obtain ⟨p0', p1', _, _⟩ := P10'.out
  obtain ⟨r0', r1', _, _⟩ := Q10'.out
  clear K5 o9 ho10 P9 Q9 P9' Q9' o9' p0 p1 pf0 pf1
  go_wp2_with fail
  refine (H6.out _ o10').mono ?_
  rintro e w11 ⟨vo, vc, rfl, hown11, ho11⟩
  have o11 := (o10'.next ho11 (by simp)).alloc (.cells #[.slice vo c6.length vc, .bool d6, .int .i64 e6, .string (str f6)] 43)
  have S11 := hid (sig_new w11 (.slice vo c6.length vc) d6 e6 f6)
  have how11 := hid hown11
  clear H6 ho11 hown11 P10 Q10 P10' Q10' p0' p1' r0' r1' r0 r1 rf0 rf1 o10 o10'
  go_wp2_with fail
  refine (K6.out _ o11).mono ?_
  rintro e w12 ⟨vo', vc', rfl, hown12, ho12⟩
  have q12 := ho12.alloc (.cells #[.slice vo' c6.length vc', .bool d6, .int .i64 e6, .string (str f6)] 43)
  have o12 := o11.next q12 (by simp)
  have S12 := hid (sig_new w12 (.slice vo' c6.length vc') d6 e6 f6)
  obtain ⟨g0, g1, g2, g3, _, _, _, _⟩ := S11.out.only q12 (by simp)
  obtain ⟨h0, h1, h2, h3, _, _, _, _⟩ := S12.out
  have HS := rsame_any (cap := vc) (bap := vc') ((TS.of_owns how11.out).1.only (((Only.refl [] w11).alloc (.cells #[.slice vo c6.length vc, .bool d6, .int .i64 e6, .string (str f6)] 43)).next q12 (by simp)) (by simp)) ((TS.of_owns hown12).1.only ((Only.refl [] w12).alloc (.cells #[.slice vo' c6.length vc', .bool d6, .int .i64 e6, .string (str f6)] 43)) (by simp)) (by have := (TS.of_owns hown12).2.1; have := (TS.of_owns hown12).2.2.1; simp only [maxLen] at this; omega) d6 d6 (e6, f6) (e6, f6)
  rw [same_self] at HS
  simp only [sigV] at HS
  replace HS := hid HS
  clear K6 hown12 ho12 S11 S12 how11 q12
  go_wp2_with (go_at_call 22; with_reducible refine HS.out.mono ?_; rintro e w13 ⟨rfl, ho13⟩)
  go_ret
  exact ⟨by simp, o12.next ho13 (by simp)⟩

set_option maxHeartbeats 400000 in
set_option maxRecDepth 100000 in
theorem psays_any {w : World} {ao : Option Addr} {l : List En} {d cap : Nat} (hE : ES w ao l d) (hl : l.length ≤ 9223372036854775807) (hA : ∀ e ∈ l, e.2.1.length ≤ 1048576) (i : Int) :
    Calls Try.prog 4 #[.slice ao l.length cap, .int .i64 i] w fun e w' => e = .returned (.bool true) ∧ Only [] w w' := by
  have HK := hid (known_any w)
  have HS := fun W (hW : Only [] w W) (j : Int) => says_any (cap := cap) (hE.only hW (by simp)) hl hA j
  replace HS := hid HS
  clear hE hA
  by_cases h4 : 400 < l.length
  · have g1 : (400 < (l.length : Int)) := by omega
    go_enter Try.func4, Try.ntmps4
    go_wp2_with (go_at_call 9; refine HK.out.mono ?_; rintro e w1 ⟨rfl, ho1⟩)
    go_ret
    exact ⟨rfl, ho1⟩
  have g1 : ¬ (400 < (l.length : Int)) := by omega
  go_enter Try.func4, Try.ntmps4
  go_wp2_with (go_at_call 9; refine HK.out.mono ?_; rintro e w1 ⟨rfl, ho1⟩)
  go_loopw [5] (fun v wr => ∃ k : Int, -1 ≤ k ∧ k ≤ l.length + 1 ∧ v = .int .i64 k ∧ Only [] w wr) (fun v _ => (l.length + 1 - intOf v).toNat)
  case atStart => exact ⟨-1, by omega, by omega, rfl, ho1⟩
  case round =>
    obtain ⟨k, hk0, hk, rfl, hor⟩ := hrel
    by_cases hlt : k ≤ (l.length : Int)
    · replace HS := hid (HS.out _ hor k)
      go_wp2_with (go_at_call 13; refine HS.out.mono ?_; rintro e w2 ⟨rfl, ho2⟩)
      exact ⟨⟨k + 1, by omega, by omega, by go_num, hor.next ho2 (by simp)⟩, by simp [intOf]; omega⟩
    · replace HS := hid (HS.out _ hor i)
      go_wp2_with (go_at_call 13; refine HS.out.mono ?_; rintro e w2 ⟨rfl, ho2⟩)
      go_ret
      exact ⟨rfl, hor.next ho2 (by simp)⟩

theorem says_walk {w : World} {ao : Option Addr} {l : List En} {d cap : Nat} (hE : ES w ao l d) (_ : ao = none → cap = 0) (hl : l.length ≤ 9223372036854775807) (hA : ∀ e ∈ l, e.2.1.length ≤ 1048576) (i : Int) (_ : (Lit.int .i64 i).wf = true) :
    Calls Try.prog 4 #[.slice ao l.length cap, .int .i64 i] w fun e w' => e = .returned (.bool true) ∧ Below w.heap.size w w' :=
  (psays_any hE hl hA i).mono fun _ _ h => ⟨h.1, h.2.below (Nat.le_refl _) (by simp)⟩

end Go.Proofs.Ytcdjddakdlflmaa
