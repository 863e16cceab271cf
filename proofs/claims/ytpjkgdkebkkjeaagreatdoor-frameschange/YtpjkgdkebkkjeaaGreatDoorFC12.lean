/-
  The contracts of slices.EqualFunc at what is known, of frames' beside and Same. No conditions.
-/
import Derived.Test.YtpjkgdkebkkjeaaGreatDoorFC11
namespace Go.Proofs.YtpjkgdkebkkjeaaGreatDoor
open Go.RowKit

set_option maxHeartbeats 4000000 in
set_option maxRecDepth 100000 in
theorem fequal_any {w : World} {l m : List Vt} {v u : Value} (hl : Rd w v l) (hm : Rd w u m) (hb : l.length ≤ 9223372036854775807) :
    Calls Tryz.prog 37 #[v, u, .func (.func 21) #[] #[]] w fun e w' => e = .returned (.bool (decide (l = m))) ∧ Only [] w w' := by
  obtain ⟨ao, ac, d, rfl, rl, el⟩ := hl
  obtain ⟨so, sc, d2, rfl, rm, em⟩ := hm
  by_cases hn : l.length = m.length
  case neg =>
    have hd : decide (l = m) = false := by simp; rintro rfl; exact hn rfl
    rw [hd]
    have h1 : ¬ ((l.length : Int) = (m.length : Int)) := by omega
    have h2 : ((l.length : Int) != (m.length : Int)) = true := by simpa using h1
    clear rl rm el em
    go_enter Tryz.func37, Tryz.ntmps37
    go_wp2
    go_ret
    exact ⟨rfl, Only.refl _ _⟩
  case pos =>
    have rl' := hid rl
    have rm' := hid rm
    clear rl rm el em
    obtain ⟨R, hR⟩ : ∃ R, R = decide (l = m) := ⟨_, rfl⟩
    rw [← hR]
    replace hR := hid hR
    have hn' := hid hn
    rw [← hn]
    clear hn
    go_enter Tryz.func37, Tryz.ntmps37
    go_wp2_with fail
    go_loopw [17] (fun v5 wr => ∃ (i : Nat), i ≤ l.length ∧ v5 = .int .i64 (i : Int) ∧ Hid (l.take i = m.take i) ∧ Hid (Only [] w wr)) (fun v5 _ => l.length - (intOf v5).toNat)
    case atStart => exact ⟨0, Nat.zero_le _, rfl, hid (by simp), hid (Only.refl _ _)⟩
    case round =>
      obtain ⟨i, hi, rfl, hT, hO⟩ := hrel
      by_cases hlt : i < l.length
      · have g1' : ((i : Int) < (l.length : Int)) := by omega
        have hlt2 : i < m.length := by have := hn'.out; omega
        obtain ⟨off, rfl, hV⟩ := (rl'.out.only0 hO.out).vtAt hlt
        obtain ⟨off2, rfl, hU⟩ := (rm'.out.only0 hO.out).vtAt hlt2
        obtain ⟨t, ht⟩ : ∃ t, t = l[i] := ⟨_, rfl⟩
        obtain ⟨z, hz⟩ : ∃ z, z = m[i] := ⟨_, rfl⟩
        rw [← ht] at hV
        rw [← hz] at hU
        replace ht := hid ht
        replace hz := hid hz
        obtain ⟨e0, e1, e2, e3⟩ := hV
        obtain ⟨h0, h1, h2, h3⟩ := hU
        have H0 := fun o => cell_alloc o h0
        have H1 := fun o => cell_alloc o h1
        have H2 := fun o => cell_alloc o h2
        have H3 := fun o => cell_alloc o h3
        have HS := hid (same1_any t z)
        unfold vtV at HS
        have o2 := hid ((hO.out.alloc (.cells #[.int .i64 t.1, .int .i64 t.2.1, .string (str t.2.2.1), .int .i64 t.2.2.2] 25)).alloc (.cells #[.int .i64 z.1, .int .i64 z.2.1, .string (str z.2.2.1), .int .i64 z.2.2.2] 25))
        go_wp2_with fail
        refine (HS.out _).mono ?_
        rintro e w3 ⟨rfl, q3⟩
        have o3 := hid (o2.out.trans q3 (by simp))
        clear HS o2 q3 H0 H1 H2 H3 e0 e1 e2 e3 h0 h1 h2 h3
        by_cases ea : t = z
        · have hd : decide (t = z) = true := by simp [ea]
          have hnx : Hid (l.take (i + 1) = m.take (i + 1)) := hid (by rw [List.take_add_one, List.take_add_one, List.getElem?_eq_getElem hlt, List.getElem?_eq_getElem hlt2, hT.out, ← ht.out, ← hz.out, ea])
          rw [hd]
          clear ea hd
          go_wp2
          exact ⟨⟨i + 1, by omega, by go_num, hnx, o3⟩, by simp [intOf]; omega⟩
        · have hd : decide (t = z) = false := by simp [ea]
          have hF : R = false := by
            rw [hR.out]
            simp only [decide_eq_false_iff_not]
            intro e
            apply ea
            rw [ht.out, hz.out]
            simp only [e]
          subst hF
          rw [hd]
          clear ea hd hR
          go_wp2
          go_ret
          exact ⟨rfl, o3.out⟩
      · have g1' : ¬ ((i : Int) < (l.length : Int)) := by omega
        obtain rfl : i = l.length := by omega
        have hF : R = true := by
          rw [hR.out]
          simp only [decide_eq_true_eq]
          have h1 := hT.out
          rw [List.take_length, hn'.out, List.take_length] at h1
          exact h1
        subst hF
        clear hR
        go_wp2
        go_ret
        exact ⟨rfl, hO.out⟩

set_option maxHeartbeats 4000000 in
set_option maxRecDepth 100000 in
theorem beside_any {w : World} (s t : Vt) {ll ls ml ms : List Vt} {vl vs ul us : Value} (hl : Rd w vl ll) (hs : Rd w vs ls) (hm : Rd w ul ml) (hu : Rd w us ms) (b1 : ll.length ≤ 9223372036854775807) (b2 : ls.length ≤ 9223372036854775807) :
    Calls Tryz.prog 20 #[frV s vl vs, frV t ul us, .func (.func 21) #[] #[]] w fun e w' => e = .returned (.bool (sameF s t ll ml ls ms)) ∧ Only [] w w' := by
  obtain ⟨ao, ac, rfl⟩ := hl.shape
  obtain ⟨so, sc, rfl⟩ := hs.shape
  obtain ⟨mo, mc, rfl⟩ := hm.shape
  obtain ⟨uo, uc, rfl⟩ := hu.shape
  have H1 := hid (fun W (hW : Only [] w W) => fequal_any (hl.only0 hW) (hm.only0 hW) b1)
  have H2 := hid (fun W (hW : Only [] w W) => fequal_any (hs.only0 hW) (hu.only0 hW) b2)
  clear hl hs hm hu
  have o1 := hid (((Only.refl [] w).alloc (.cells #[.int .i64 s.1, .int .i64 s.2.1, .string (str s.2.2.1), .int .i64 s.2.2.2, .slice ao ll.length ac, .slice so ls.length sc] 45)).alloc (.cells #[.int .i64 t.1, .int .i64 t.2.1, .string (str t.2.2.1), .int .i64 t.2.2.2, .slice mo ml.length mc, .slice uo ms.length uc] 45))
  have SA := (frB_new w s (.slice ao ll.length ac) (.slice so ls.length sc) 45).only ((Only.refl [] _).alloc (.cells #[.int .i64 t.1, .int .i64 t.2.1, .string (str t.2.2.1), .int .i64 t.2.2.2, .slice mo ml.length mc, .slice uo ms.length uc] 45)) (by simp)
  have SB := frB_new (w.alloc (.cells #[.int .i64 s.1, .int .i64 s.2.1, .string (str s.2.2.1), .int .i64 s.2.2.2, .slice ao ll.length ac, .slice so ls.length sc] 45)) t (.slice mo ml.length mc) (.slice uo ms.length uc) 45
  rw [World.size_alloc] at SB
  have hSA := hid SA
  have hSB := hid SB
  obtain ⟨c0, c1, c2, c3, c4, c5, _⟩ := SA
  obtain ⟨d0, d1, d2, d3, d4, d5, _⟩ := SB
  have HS := hid (same1_any s t)
  unfold vtV at HS
  simp only [frV]
  obtain ⟨R, hR⟩ : ∃ R, R = sameF s t ll ml ls ms := ⟨_, rfl⟩
  rw [← hR]
  replace hR := hid hR
  by_cases e1 : s = t
  case neg =>
    have hd : decide (s = t) = false := by simp [e1]
    rw [hd] at HS
    have hF : R = false := by rw [hR.out]; simp [sameF, e1]
    subst hF
    clear e1 hd hR
    go_enter Tryz.func20, Tryz.ntmps20
    go_wp2_with (go_at_call 21; refine (HS.out _).mono ?_; rintro e w1 ⟨rfl, q1⟩)
    go_ret
    exact ⟨rfl, o1.out.trans q1 (by simp)⟩
  case pos =>
    have hd : decide (s = t) = true := by simp [e1]
    rw [hd] at HS
    replace e1 := hid e1
    clear hd
    by_cases e2 : ll = ml
    case neg =>
      have hF : R = false := by rw [hR.out]; simp [sameF, e2]
      subst hF
      have h1 : decide (ll = ml) = false := by simp [e2]
      rw [h1] at H1
      clear hR e2 h1
      go_enter Tryz.func20, Tryz.ntmps20
      go_wp2_with (first
        | (go_at_call 21; refine (HS.out _).mono ?_; rintro e w1 ⟨rfl, q1⟩; have e4 := (hSA.out.only q1 (by simp)).c4; have f4 := (hSB.out.only q1 (by simp)).c4; have o2 := hid (o1.out.trans q1 (by simp)))
        | (go_at_call 37; (with_reducible refine (H1.out _ o2.out).mono ?_); rintro e w2 ⟨rfl, q2⟩))
      go_ret
      exact ⟨rfl, o2.out.trans q2 (by simp)⟩
    case pos =>
      have h1 : decide (ll = ml) = true := by simp [e2]
      rw [h1] at H1
      have hF : R = decide (ls = ms) := by rw [hR.out]; simp [sameF, e1.out, e2]
      subst hF
      clear hR h1
      replace e2 := hid e2
      obtain ⟨Q, hQ⟩ : ∃ Q, Q = decide (ls = ms) := ⟨_, rfl⟩
      rw [← hQ] at H2 ⊢
      clear hQ
      go_enter Tryz.func20, Tryz.ntmps20
      go_wp2_with (first
        | (go_at_call 21; refine (HS.out _).mono ?_; rintro e w1 ⟨rfl, q1⟩; have e4 := (hSA.out.only q1 (by simp)).c4; have f4 := (hSB.out.only q1 (by simp)).c4; have o2 := hid (o1.out.trans q1 (by simp)); have A1 := hid (hSA.out.only q1 (by simp)); have B1 := hid (hSB.out.only q1 (by simp)))
        | (go_at_call 37; (with_reducible refine (H1.out _ o2.out).mono ?_); rintro e w2 ⟨rfl, q2⟩; have e5 := (A1.out.only q2 (by simp)).c5; have f5 := (B1.out.only q2 (by simp)).c5; have o3 := hid (o2.out.trans q2 (by simp)))
        | (go_at_call 37; (with_reducible refine (H2.out _ o3.out).mono ?_); rintro e w3 ⟨rfl, q3⟩))
      go_ret
      cases Q <;> exact ⟨rfl, o3.out.trans q3 (by simp)⟩

set_option maxHeartbeats 4000000 in
set_option maxRecDepth 100000 in
theorem fSame_any {w : World} (s t : Vt) {ll ls ml ms : List Vt} {vl vs ul us : Value} (hl : Rd w vl ll) (hs : Rd w vs ls) (hm : Rd w ul ml) (hu : Rd w us ms) (b1 : ll.length ≤ 9223372036854775807) (b2 : ls.length ≤ 9223372036854775807) :
    Calls Tryz.prog 8 #[frV s vl vs, frV t ul us] w fun e w' => e = .returned (.bool (sameF s t ll ml ls ms)) ∧ Only [] w w' := by
  obtain ⟨ao, ac, rfl⟩ := hl.shape
  obtain ⟨so, sc, rfl⟩ := hs.shape
  obtain ⟨mo, mc, rfl⟩ := hm.shape
  obtain ⟨uo, uc, rfl⟩ := hu.shape
  have o1 := ((Only.refl [] w).alloc (.cells #[.int .i64 s.1, .int .i64 s.2.1, .string (str s.2.2.1), .int .i64 s.2.2.2, .slice ao ll.length ac, .slice so ls.length sc] 28)).alloc (.cells #[.int .i64 t.1, .int .i64 t.2.1, .string (str t.2.2.1), .int .i64 t.2.2.2, .slice mo ml.length mc, .slice uo ms.length uc] 28)
  have SA := (frB_new w s (.slice ao ll.length ac) (.slice so ls.length sc) 28).only ((Only.refl [] _).alloc (.cells #[.int .i64 t.1, .int .i64 t.2.1, .string (str t.2.2.1), .int .i64 t.2.2.2, .slice mo ml.length mc, .slice uo ms.length uc] 28)) (by simp)
  have SB := frB_new (w.alloc (.cells #[.int .i64 s.1, .int .i64 s.2.1, .string (str s.2.2.1), .int .i64 s.2.2.2, .slice ao ll.length ac, .slice so ls.length sc] 28)) t (.slice mo ml.length mc) (.slice uo ms.length uc) 28
  rw [World.size_alloc] at SB
  have HB := hid (beside_any s t (hl.only0 o1) (hs.only0 o1) (hm.only0 o1) (hu.only0 o1) b1 b2)
  replace o1 := hid o1
  clear hl hs hm hu
  obtain ⟨c0, c1, c2, c3, c4, c5, _⟩ := SA
  obtain ⟨d0, d1, d2, d3, d4, d5, _⟩ := SB
  simp only [frV] at HB ⊢
  go_enter Tryz.func8, Tryz.ntmps8
  go_wp2_with (go_at_call 20; refine HB.out.mono ?_; rintro e w1 ⟨rfl, q1⟩)
  go_ret
  exact ⟨rfl, o1.out.trans q1 (by simp)⟩

end Go.Proofs.YtpjkgdkebkkjeaaGreatDoor
