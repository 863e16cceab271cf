/-
  What the proof leans on, part 6 of 28. The conditions stand in each theorem.
-/
import Derived.Test.YtildemmkhndhjaaGreatDoorB05
import Derived.Deep.RegionHeld3
namespace Go.Proofs.YtildemmkhndhjaaGreatDoor
open Go.RowKit

theorem byte_text {l : List En} {s : List UInt8} (hA : ∀ e ∈ l, e.2.1.length ≤ 9223372036854775807) (h : ∃ e ∈ l, e.2.1 = s) : s.length ≤ 9223372036854775807 := by
 obtain ⟨e, he, rfl⟩ := h
 exact hA e he

set_option maxHeartbeats 400000 in
set_option maxRecDepth 100000 in
theorem wrongName_any {w : World} {ao : Option Addr} {l : List En} {d cap : Nat} (hE : ES w ao l d) (hl : l.length ≤ 9223372036854775807) (hA : ∀ e ∈ l, e.2.1.length ≤ 9223372036854775807) (i : Int) :
  Calls Tryz.prog 108 #[.slice ao l.length cap, .int .i64 i, .func (.func 109) #[] #[]] w fun e w' => e = .returned (.int .i64 (wText l i fName)) ∧ w' = w := by
 have HH := has_any' (cap := cap) hE hl i 1
 rw [hasE_text] at HH
 cases h : textAt l i with
 | none =>
  have e1 : wText l i fName = 16 := by simp [wText, h]
  rw [e1]
  rw [h] at HH
  simp only [Option.isSome_none] at HH
  clear h e1 hE
  replace HH := hid HH
  go_enter Tryz.func108, Tryz.ntmps108
  go_wp2_with (go_at_call 158; refine HH.out.mono ?_; rintro e w' ⟨rfl, rfl⟩)
  go_ret
  exact ⟨rfl, rfl⟩
 | some s =>
  have e1 : wText l i fName = fName s := by simp [wText, h]
  rw [e1]
  rw [h] at HH
  simp only [Option.isSome_some] at HH
  obtain ⟨j, off, rfl, hj, rfl, hc, hm⟩ := text_cell hE h
  have HN := name_any s (byte_text hA hm) w
  clear h e1 hE hm
  have g2 : ((j : Int) < (l.length : Int)) := by omega
  replace HH := hid HH
  cases hn : nameOK s with
  | true =>
   have e2 : fName s = 0 := by simp [fName, hn]
   rw [e2]
   rw [hn] at HN
   clear hn e2
   replace HN := hid HN
   go_enter Tryz.func108, Tryz.ntmps108
   go_wp2_with (first | (go_at_call 158; refine HH.out.mono ?_; rintro e w' ⟨rfl, rfl⟩) | (go_at_call 109; refine HN.out.mono ?_; rintro e w' ⟨rfl, rfl⟩))
   go_ret
   exact ⟨rfl, rfl⟩
  | false =>
   have e2 : fName s = 14 := by simp [fName, hn]
   rw [e2]
   rw [hn] at HN
   clear hn e2
   replace HN := hid HN
   go_enter Tryz.func108, Tryz.ntmps108
   go_wp2_with (first | (go_at_call 158; refine HH.out.mono ?_; rintro e w' ⟨rfl, rfl⟩) | (go_at_call 109; refine HN.out.mono ?_; rintro e w' ⟨rfl, rfl⟩))
   go_ret
   exact ⟨rfl, rfl⟩

set_option maxHeartbeats 400000 in
set_option maxRecDepth 100000 in
theorem wrongMeth_any {w : World} {ao : Option Addr} {l : List En} {d cap : Nat} (hE : ES w ao l d) (hl : l.length ≤ 9223372036854775807) (hA : ∀ e ∈ l, e.2.1.length ≤ 9223372036854775807) (i : Int) :
  Calls Tryz.prog 108 #[.slice ao l.length cap, .int .i64 i, .func (.func 113) #[] #[]] w fun e w' => e = .returned (.int .i64 (wText l i fMethod)) ∧ w' = w := by
 have HH := has_any' (cap := cap) hE hl i 1
 rw [hasE_text] at HH
 cases h : textAt l i with
 | none =>
  have e1 : wText l i fMethod = 16 := by simp [wText, h]
  rw [e1]
  rw [h] at HH
  simp only [Option.isSome_none] at HH
  clear h e1 hE
  replace HH := hid HH
  go_enter Tryz.func108, Tryz.ntmps108
  go_wp2_with (go_at_call 158; refine HH.out.mono ?_; rintro e w' ⟨rfl, rfl⟩)
  go_ret
  exact ⟨rfl, rfl⟩
 | some s =>
  have e1 : wText l i fMethod = fMethod s := by simp [wText, h]
  rw [e1]
  rw [h] at HH
  simp only [Option.isSome_some] at HH
  obtain ⟨j, off, rfl, hj, rfl, hc, hm⟩ := text_cell hE h
  have HN := method_any s (byte_text hA hm) w
  clear h e1 hE hm
  have g2 : ((j : Int) < (l.length : Int)) := by omega
  replace HH := hid HH
  cases hn : methodOK s with
  | true =>
   have e2 : fMethod s = 0 := by simp [fMethod, hn]
   rw [e2]
   rw [hn] at HN
   clear hn e2
   replace HN := hid HN
   go_enter Tryz.func108, Tryz.ntmps108
   go_wp2_with (first | (go_at_call 158; refine HH.out.mono ?_; rintro e w' ⟨rfl, rfl⟩) | (go_at_call 113; refine HN.out.mono ?_; rintro e w' ⟨rfl, rfl⟩))
   go_ret
   exact ⟨rfl, rfl⟩
  | false =>
   have e2 : fMethod s = 14 := by simp [fMethod, hn]
   rw [e2]
   rw [hn] at HN
   clear hn e2
   replace HN := hid HN
   go_enter Tryz.func108, Tryz.ntmps108
   go_wp2_with (first | (go_at_call 158; refine HH.out.mono ?_; rintro e w' ⟨rfl, rfl⟩) | (go_at_call 113; refine HN.out.mono ?_; rintro e w' ⟨rfl, rfl⟩))
   go_ret
   exact ⟨rfl, rfl⟩

set_option maxHeartbeats 400000 in
set_option maxRecDepth 100000 in
theorem wrongType_any {w : World} {ao : Option Addr} {l : List En} {d cap : Nat} (hE : ES w ao l d) (hl : l.length ≤ 9223372036854775807) (hA : ∀ e ∈ l, e.2.1.length ≤ 9223372036854775807) (i : Int) :
  Calls Tryz.prog 110 #[.slice ao l.length cap, .int .i64 i] w fun e w' => e = .returned (.int .i64 (wText l i fType)) ∧ Only [] w w' := by
 have HH := has_any' (cap := cap) hE hl i 1
 rw [hasE_text] at HH
 cases h : textAt l i with
 | none =>
  have e1 : wText l i fType = 16 := by simp [wText, h]
  rw [e1]
  rw [h] at HH
  simp only [Option.isSome_none] at HH
  clear h e1 hE
  replace HH := hid HH
  go_enter Tryz.func110, Tryz.ntmps110
  go_wp2_with (go_at_call 158; refine HH.out.mono ?_; rintro e w' ⟨rfl, rfl⟩)
  go_ret
  exact ⟨rfl, Only.refl _ _⟩
 | some s =>
  have e1 : wText l i fType = fType s := by simp [wText, h]
  rw [e1]
  rw [h] at HH
  simp only [Option.isSome_some] at HH
  obtain ⟨j, off, rfl, hj, rfl, hc, hm⟩ := text_cell hE h
  have HN := type_any s (byte_text hA hm) w
  unfold fType
  clear h e1 hE hm
  have g2 : ((j : Int) < (l.length : Int)) := by omega
  replace HH := hid HH
  generalize typeR s = X at *
  obtain ⟨⟨xd, xn⟩, xe⟩ := X
  simp only [tyV] at HN ⊢
  replace HN := hid HN
  go_enter Tryz.func110, Tryz.ntmps110
  go_wp2_with (first | (go_at_call 158; refine HH.out.mono ?_; rintro e w' ⟨rfl, rfl⟩) | (go_at_call 161; refine HN.out.mono ?_; rintro e w1 ⟨rfl, ho1⟩))
  go_ret
  exact ⟨rfl, ho1.alloc _⟩

set_option maxHeartbeats 400000 in
set_option maxRecDepth 100000 in
theorem wrongSig_any {w : World} {ao : Option Addr} {l : List En} {d cap : Nat} (hE : ES w ao l d) (hl : l.length ≤ 9223372036854775807) (hA : ∀ e ∈ l, e.2.1.length ≤ 9223372036854775807) (i : Int) :
  Calls Tryz.prog 114 #[.slice ao l.length cap, .int .i64 i] w fun e w' => e = .returned (.int .i64 (wText l i fSig)) ∧ Only [] w w' := by
 have HH := has_any' (cap := cap) hE hl i 1
 rw [hasE_text] at HH
 cases h : textAt l i with
 | none =>
  have e1 : wText l i fSig = 16 := by simp [wText, h]
  rw [e1]
  rw [h] at HH
  simp only [Option.isSome_none] at HH
  clear h e1 hE
  replace HH := hid HH
  go_enter Tryz.func114, Tryz.ntmps114
  go_wp2_with (go_at_call 158; refine HH.out.mono ?_; rintro e w' ⟨rfl, rfl⟩)
  go_ret
  exact ⟨rfl, Only.refl _ _⟩
 | some s =>
  have e1 : wText l i fSig = fSig s := by simp [wText, h]
  rw [e1]
  rw [h] at HH
  simp only [Option.isSome_some] at HH
  obtain ⟨j, off, rfl, hj, rfl, hc, hm⟩ := text_cell hE h
  have HN := sig_any s (byte_text hA hm) w
  unfold fSig
  clear h e1 hE hm
  have g2 : ((j : Int) < (l.length : Int)) := by omega
  replace HH := hid HH
  generalize sigR s = X at *
  obtain ⟨⟨xl, xv, xd, xn⟩, xe⟩ := X
  simp only [sigV] at HN ⊢
  replace HN := hid HN
  go_enter Tryz.func114, Tryz.ntmps114
  go_wp2_with (first | (go_at_call 158; refine HH.out.mono ?_; rintro e w' ⟨rfl, rfl⟩) | (go_at_call 162; refine HN.out.mono ?_; rintro e w1 ⟨v, rfl, hw, ho1⟩; obtain ⟨vo, vc, rfl⟩ := own_slice hw))
  go_ret
  exact ⟨rfl, ho1.alloc _⟩

set_option maxHeartbeats 400000 in
set_option maxRecDepth 100000 in
/-- What cmp.Or answers of three. -/
theorem or_any (x y z : Int) (w : World) : Calls Tryz.prog 111 #[.slice (some ⟨w.heap.size, 0, none⟩) 3 3] (w.alloc (.cells #[.int .i64 x, .int .i64 y, .int .i64 z] 63)) fun e w' => e = .returned (.int .i64 (or3 x y z)) ∧ w' = w.alloc (.cells #[.int .i64 x, .int .i64 y, .int .i64 z] 63) := by
 go_enter Tryz.func111, Tryz.ntmps111
 go_wp2
 go_loopw [8] (fun i wr => ∃ k : Int, 0 ≤ k ∧ k ≤ 3 ∧ i = .int .i64 k ∧ (0 < k → x = 0) ∧ (1 < k → y = 0) ∧ (2 < k → z = 0) ∧ wr = w.alloc (.cells #[.int .i64 x, .int .i64 y, .int .i64 z] 63)) (fun i _ => (3 - intOf i).toNat)
 case atStart => exact ⟨0, by omega, by omega, rfl, by omega, by omega, by omega, rfl⟩
 case round =>
  obtain ⟨k, hk0, hk, rfl, h0, h1, h2, rfl⟩ := hrel
  rcases (by omega : k = 0 ∨ k = 1 ∨ k = 2 ∨ k = 3) with rfl | rfl | rfl | rfl
  ·by_cases hx : x = 0
   ·subst hx
    go_wp2
    exact ⟨⟨1, by omega, by omega, by go_num, by first | trivial | omega, by first | trivial | omega, by first | trivial | omega, by first | trivial | rfl⟩, by simp [intOf]⟩
   ·have g : (x == 0) = false := by simpa using hx
    have e1 : Hid (or3 x y z = x) := by simp [Hid, or3, hx]
    clear hx
    go_wp2
    go_ret
    exact ⟨by rw [e1.out]; rfl, rfl⟩
  ·obtain rfl := h0 (by omega)
   by_cases hx : y = 0
   ·subst hx
    go_wp2
    exact ⟨⟨2, by omega, by omega, by go_num, by first | trivial | omega, by first | trivial | omega, by first | trivial | omega, by first | trivial | rfl⟩, by simp [intOf]⟩
   ·have g : (y == 0) = false := by simpa using hx
    have e1 : Hid (or3 0 y z = y) := by simp [Hid, or3, hx]
    clear hx
    go_wp2
    go_ret
    exact ⟨by rw [e1.out]; rfl, rfl⟩
  ·obtain rfl := h0 (by omega)
   obtain rfl := h1 (by omega)
   by_cases hx : z = 0
   ·subst hx
    go_wp2
    exact ⟨⟨3, by omega, by omega, by go_num, by first | trivial | omega, by first | trivial | omega, by first | trivial | omega, by first | trivial | rfl⟩, by simp [intOf]⟩
   ·have g : (z == 0) = false := by simpa using hx
    have e1 : Hid (or3 0 0 z = z) := by simp [Hid, or3]
    clear hx
    go_wp2
    go_ret
    exact ⟨by rw [e1.out]; rfl, rfl⟩
  ·obtain rfl := h0 (by omega)
   obtain rfl := h1 (by omega)
   obtain rfl := h2 (by omega)
   go_wp2
   go_ret
   exact ⟨by simp [or3], rfl⟩

theorem keep_en {a b z : World} {p : Nat} {x0 x1 x2 x3 x4 x5 : Value} (ho : Only [] a b)
  (h : a.cell? ⟨p, 0, none⟩ = some x0 ∧ a.cell? ⟨p, 1, none⟩ = some x1 ∧ a.cell? ⟨p, 2, none⟩ = some x2 ∧ a.cell? ⟨p, 3, none⟩ = some x3 ∧ a.cell? ⟨p, 4, none⟩ = some x4 ∧ a.cell? ⟨p, 5, none⟩ = some x5 ∧ Only [] z a) :
  b.cell? ⟨p, 0, none⟩ = some x0 ∧ b.cell? ⟨p, 1, none⟩ = some x1 ∧ b.cell? ⟨p, 2, none⟩ = some x2 ∧ b.cell? ⟨p, 3, none⟩ = some x3 ∧ b.cell? ⟨p, 4, none⟩ = some x4 ∧ b.cell? ⟨p, 5, none⟩ = some x5 ∧ Only [] z b := by
 obtain ⟨h0, h1, h2, h3, h4, h5, hz⟩ := h
 have hl := World.block_lt_of_cell? _ _ h0
 exact ⟨(ho.cell (p := ⟨p, 0, none⟩) hl (by simp)).trans h0, (ho.cell (p := ⟨p, 1, none⟩) hl (by simp)).trans h1, (ho.cell (p := ⟨p, 2, none⟩) hl (by simp)).trans h2, (ho.cell (p := ⟨p, 3, none⟩) hl (by simp)).trans h3, (ho.cell (p := ⟨p, 4, none⟩) hl (by simp)).trans h4, (ho.cell (p := ⟨p, 5, none⟩) hl (by simp)).trans h5, hz.next ho (by simp)⟩

set_option maxHeartbeats 400000 in
set_option maxRecDepth 100000 in
theorem wrong_any {w : World} {ao : Option Addr} {l : List En} {d cap : Nat} (hE : ES w ao l d) (hl : l.length ≤ 9223372036854775807) (hA : ∀ e ∈ l, e.2.1.length ≤ 9223372036854775807) (j : Nat) (hj : j < l.length) :
  Calls Tryz.prog 45 #[.slice ao l.length cap, .int .i64 (j : Int)] w fun r w' => r = .returned (.int .i64 (wrongE l l[j])) ∧ Only [] w w' := by
 have g2 : ((j : Int) < (l.length : Int)) := by omega
 have ht := hA l[j] (List.getElem_mem hj)
 obtain ⟨off, hao, hc⟩ := hE.at hj
 have HU := fun W => used_any l[j] W
 have hq := neq_entry l[j] (usedE l[j])
 have o0 := (Only.refl [] w).alloc (.cells #[.int .i64 l[j].1, .string (str l[j].2.1), .int .i64 l[j].2.2.1, .int .i64 l[j].2.2.2.1, .int .i64 l[j].2.2.2.2.1, .int .i64 l[j].2.2.2.2.2] 90)
 have E0 := enAt_new w l[j] 90
 have hw : ∃ r, r = wrongE l l[j] := ⟨_, rfl⟩
 obtain ⟨r, hr⟩ := hw
 rw [← hr]
 have HWC := fun W (hW : Only [] w W) (i : Int) => wrongClass_any (cap := cap) (hE.only hW (by simp)) hl i
 have HWN := fun W (hW : Only [] w W) (i : Int) => wrongName_any (cap := cap) (hE.only hW (by simp)) hl hA i
 have HWM := fun W (hW : Only [] w W) (i : Int) => wrongMeth_any (cap := cap) (hE.only hW (by simp)) hl hA i
 have HWT := fun W (hW : Only [] w W) (i : Int) => wrongType_any (cap := cap) (hE.only hW (by simp)) hl hA i
 have HWS := fun W (hW : Only [] w W) (i : Int) => wrongSig_any (cap := cap) (hE.only hW (by simp)) hl hA i
 generalize l[j] = e at *
 generalize hug : usedE e = u at *
 obtain ⟨k, t, n, a, b, c⟩ := e
 obtain ⟨uk, ut, un, ua, ub, uc⟩ := u
 obtain ⟨y0, y1, y2, y3, y4, y5⟩ := hc
 obtain ⟨e0, e1, e2, e3, e4, e5⟩ := E0
 simp only [Nat.zero_add] at e0 e1 e2 e3 e4 e5
 simp only [enV] at *
 replace HU := hid HU
 replace HWC := hid HWC
 replace HWN := hid HWN
 replace HWM := hid HWM
 replace HWT := hid HWT
 replace HWS := hid HWS
 replace hug := hid hug
 replace hE := hid hE
 clear hA
 replace hr := hid hr
 have hb : k < 1 ∨ 6 < k ∨ (1 ≤ k ∧ k ≤ 6) := by omega
 rcases hb with hk | hk | ⟨hk1, hk2⟩
 ·have er : r = 3 := by rw [hr.out]; simp [wrongE, hk]
  subst er
  subst hao
  go_enter Tryz.func45, Tryz.ntmps45
  go_wp2
  go_ret
  exact ⟨rfl, o0⟩
 ·have er : r = 3 := by rw [hr.out]; simp [wrongE, hk]
  subst er
  subst hao
  have hk' : ¬ (k < 1) := by omega
  go_enter Tryz.func45, Tryz.ntmps45
  go_wp2
  go_ret
  exact ⟨rfl, o0⟩
 have hk' : ¬ (k < 1) := by omega
 have hk6 : ¬ (6 < k) := by omega
 by_cases hne : ((k, t, n, a, b, c) : En) = (uk, ut, un, ua, ub, uc)
 ·have hw : r = if k = 1 then longE t else if k = 2 then 0 else if k = 3 then wText l a fName else if k = 4 then wText l a fType else if k = 5 then or3 (wClass l a) (wText l b fName) (wText l c fType) else or3 (wClass l a) (wText l b fMethod) (wText l c fSig) := by
   rw [hr.out]
   unfold wrongE
   rw [hug.out, if_neg (by simp; omega), if_neg (fun h => h hne)]
  rw [decide_eq_true hne] at hq
  simp only [Bool.not_true] at hq
  clear hne hug hr hk' hk6
  subst hao
  replace o0 := hid o0
  replace hw := hid hw
  rcases (by omega : k = 1 ∨ k = 2 ∨ k = 3 ∨ k = 4 ∨ k = 5 ∨ k = 6) with rfl | rfl | rfl | rfl | rfl | rfl
  ·go_enter Tryz.func45, Tryz.ntmps45
   go_wp2_with fail
   go_region_held3 (fun w' => w'.cell? ⟨w.heap.size, 0, none⟩ = some (.int .i64 1) ∧ w'.cell? ⟨w.heap.size, 1, none⟩ = some (.string (str t)) ∧ w'.cell? ⟨w.heap.size, 2, none⟩ = some (.int .i64 n) ∧ w'.cell? ⟨w.heap.size, 3, none⟩ = some (.int .i64 a) ∧ w'.cell? ⟨w.heap.size, 4, none⟩ = some (.int .i64 b) ∧ w'.cell? ⟨w.heap.size, 5, none⟩ = some (.int .i64 c) ∧ Only [] w w') (first | exact keep_en (by assumption) (by assumption) | exact keep_en ((Only.refl [] _).alloc _) (by assumption) | exact ⟨e0, e1, e2, e3, e4, e5, o0.out.drew⟩ | exact ⟨e0, e1, e2, e3, e4, e5, o0.out⟩ | assumption) (first | (go_at_call 106; with_reducible refine (HU.out _).mono ?_; rintro e w6 ⟨rfl, ho6⟩))
   rename_i hS
   clear e0 e1 e2 e3 e4 e5
   obtain ⟨e0, e1, e2, e3, e4, e5, o1⟩ := hS
   replace o1 := hid o1
   go_wp2_with (go_at_call 107; refine (tooLong_any t ht _).mono ?_; rintro e w7 ⟨rfl, rfl⟩)
   go_ret
   exact ⟨by rw [hw.out]; rfl, o1.out⟩
  ·go_enter Tryz.func45, Tryz.ntmps45
   go_wp2_with fail
   go_region_held3 (fun w' => w'.cell? ⟨w.heap.size, 0, none⟩ = some (.int .i64 2) ∧ w'.cell? ⟨w.heap.size, 1, none⟩ = some (.string (str t)) ∧ w'.cell? ⟨w.heap.size, 2, none⟩ = some (.int .i64 n) ∧ w'.cell? ⟨w.heap.size, 3, none⟩ = some (.int .i64 a) ∧ w'.cell? ⟨w.heap.size, 4, none⟩ = some (.int .i64 b) ∧ w'.cell? ⟨w.heap.size, 5, none⟩ = some (.int .i64 c) ∧ Only [] w w') (first | exact keep_en (by assumption) (by assumption) | exact keep_en ((Only.refl [] _).alloc _) (by assumption) | exact ⟨e0, e1, e2, e3, e4, e5, o0.out.drew⟩ | exact ⟨e0, e1, e2, e3, e4, e5, o0.out⟩ | assumption) (first | (go_at_call 106; with_reducible refine (HU.out _).mono ?_; rintro e w6 ⟨rfl, ho6⟩))
   rename_i hS
   clear e0 e1 e2 e3 e4 e5
   obtain ⟨e0, e1, e2, e3, e4, e5, o1⟩ := hS
   replace o1 := hid o1
   go_wp2
   go_ret
   exact ⟨by rw [hw.out]; rfl, o1.out⟩
  ·go_enter Tryz.func45, Tryz.ntmps45
   go_wp2_with fail
   go_region_held3 (fun w' => w'.cell? ⟨w.heap.size, 0, none⟩ = some (.int .i64 3) ∧ w'.cell? ⟨w.heap.size, 1, none⟩ = some (.string (str t)) ∧ w'.cell? ⟨w.heap.size, 2, none⟩ = some (.int .i64 n) ∧ w'.cell? ⟨w.heap.size, 3, none⟩ = some (.int .i64 a) ∧ w'.cell? ⟨w.heap.size, 4, none⟩ = some (.int .i64 b) ∧ w'.cell? ⟨w.heap.size, 5, none⟩ = some (.int .i64 c) ∧ Only [] w w') (first | exact keep_en (by assumption) (by assumption) | exact keep_en ((Only.refl [] _).alloc _) (by assumption) | exact ⟨e0, e1, e2, e3, e4, e5, o0.out.drew⟩ | exact ⟨e0, e1, e2, e3, e4, e5, o0.out⟩ | assumption) (first | (go_at_call 106; with_reducible refine (HU.out _).mono ?_; rintro e w6 ⟨rfl, ho6⟩))
   rename_i hS
   clear e0 e1 e2 e3 e4 e5
   obtain ⟨e0, e1, e2, e3, e4, e5, o1⟩ := hS
   replace o1 := hid o1
   go_wp2_with (go_at_call 108; refine (HWN.out _ o1.out a).mono ?_; rintro e w7 ⟨rfl, rfl⟩)
   go_ret
   exact ⟨by rw [hw.out]; rfl, o1.out⟩
  ·go_enter Tryz.func45, Tryz.ntmps45
   go_wp2_with fail
   go_region_held3 (fun w' => w'.cell? ⟨w.heap.size, 0, none⟩ = some (.int .i64 4) ∧ w'.cell? ⟨w.heap.size, 1, none⟩ = some (.string (str t)) ∧ w'.cell? ⟨w.heap.size, 2, none⟩ = some (.int .i64 n) ∧ w'.cell? ⟨w.heap.size, 3, none⟩ = some (.int .i64 a) ∧ w'.cell? ⟨w.heap.size, 4, none⟩ = some (.int .i64 b) ∧ w'.cell? ⟨w.heap.size, 5, none⟩ = some (.int .i64 c) ∧ Only [] w w') (first | exact keep_en (by assumption) (by assumption) | exact keep_en ((Only.refl [] _).alloc _) (by assumption) | exact ⟨e0, e1, e2, e3, e4, e5, o0.out.drew⟩ | exact ⟨e0, e1, e2, e3, e4, e5, o0.out⟩ | assumption) (first | (go_at_call 106; with_reducible refine (HU.out _).mono ?_; rintro e w6 ⟨rfl, ho6⟩))
   rename_i hS
   clear e0 e1 e2 e3 e4 e5
   obtain ⟨e0, e1, e2, e3, e4, e5, o1⟩ := hS
   replace o1 := hid o1
   go_wp2_with (go_at_call 110; refine (HWT.out _ o1.out a).mono ?_; rintro e w7 ⟨rfl, ho7⟩)
   go_ret
   exact ⟨by rw [hw.out]; rfl, o1.out.next ho7 (by simp)⟩
  ·go_enter Tryz.func45, Tryz.ntmps45
   go_wp2_with fail
   go_region_held3 (fun w' => w'.cell? ⟨w.heap.size, 0, none⟩ = some (.int .i64 5) ∧ w'.cell? ⟨w.heap.size, 1, none⟩ = some (.string (str t)) ∧ w'.cell? ⟨w.heap.size, 2, none⟩ = some (.int .i64 n) ∧ w'.cell? ⟨w.heap.size, 3, none⟩ = some (.int .i64 a) ∧ w'.cell? ⟨w.heap.size, 4, none⟩ = some (.int .i64 b) ∧ w'.cell? ⟨w.heap.size, 5, none⟩ = some (.int .i64 c) ∧ Only [] w w') (first | exact keep_en (by assumption) (by assumption) | exact keep_en ((Only.refl [] _).alloc _) (by assumption) | exact ⟨e0, e1, e2, e3, e4, e5, o0.out.drew⟩ | exact ⟨e0, e1, e2, e3, e4, e5, o0.out⟩ | assumption) (first | (go_at_call 106; with_reducible refine (HU.out _).mono ?_; rintro e w6 ⟨rfl, ho6⟩))
   rename_i hS
   clear e0 e1 e2 e3 e4 e5
   obtain ⟨e0, e1, e2, e3, e4, e5, o1⟩ := hS
   replace o1 := hid o1
   replace o1 := o1.out
   go_wp2_with fail
   go_region_held3 (fun w' => w'.cell? ⟨w.heap.size, 0, none⟩ = some (.int .i64 5) ∧ w'.cell? ⟨w.heap.size, 1, none⟩ = some (.string (str t)) ∧ w'.cell? ⟨w.heap.size, 2, none⟩ = some (.int .i64 n) ∧ w'.cell? ⟨w.heap.size, 3, none⟩ = some (.int .i64 a) ∧ w'.cell? ⟨w.heap.size, 4, none⟩ = some (.int .i64 b) ∧ w'.cell? ⟨w.heap.size, 5, none⟩ = some (.int .i64 c) ∧ Only [] w w') (first | exact keep_en (by assumption) (by assumption) | exact keep_en ((Only.refl [] _).alloc _) (by assumption) | exact ⟨e0, e1, e2, e3, e4, e5, o1.drew⟩ | exact ⟨e0, e1, e2, e3, e4, e5, o1⟩ | assumption) (first | (go_at_call 112; with_reducible refine (HWC.out _ ?_ a).mono ?_; (simp [*]); rintro e w7 ⟨rfl, rfl⟩) | (go_at_call 108; with_reducible refine (HWN.out _ ?_ b).mono ?_; (simp [*]); rintro e w8 ⟨rfl, rfl⟩) | (go_at_call 110; with_reducible refine (HWT.out _ ?_ c).mono ?_; (simp [*]); rintro e w9 ⟨rfl, ho9⟩) | (go_at_call 111; with_reducible refine (or_any _ _ _ _).mono ?_; rintro e w10 ⟨rfl, rfl⟩))
   rename_i hS
   go_wp2
   go_ret
   exact ⟨by rw [hw.out]; rfl, hS.2.2.2.2.2.2⟩
  ·go_enter Tryz.func45, Tryz.ntmps45
   go_wp2_with fail
   go_region_held3 (fun w' => w'.cell? ⟨w.heap.size, 0, none⟩ = some (.int .i64 6) ∧ w'.cell? ⟨w.heap.size, 1, none⟩ = some (.string (str t)) ∧ w'.cell? ⟨w.heap.size, 2, none⟩ = some (.int .i64 n) ∧ w'.cell? ⟨w.heap.size, 3, none⟩ = some (.int .i64 a) ∧ w'.cell? ⟨w.heap.size, 4, none⟩ = some (.int .i64 b) ∧ w'.cell? ⟨w.heap.size, 5, none⟩ = some (.int .i64 c) ∧ Only [] w w') (first | exact keep_en (by assumption) (by assumption) | exact keep_en ((Only.refl [] _).alloc _) (by assumption) | exact ⟨e0, e1, e2, e3, e4, e5, o0.out.drew⟩ | exact ⟨e0, e1, e2, e3, e4, e5, o0.out⟩ | assumption) (first | (go_at_call 106; with_reducible refine (HU.out _).mono ?_; rintro e w6 ⟨rfl, ho6⟩))
   rename_i hS
   clear e0 e1 e2 e3 e4 e5
   obtain ⟨e0, e1, e2, e3, e4, e5, o1⟩ := hS
   replace o1 := hid o1
   replace o1 := o1.out
   go_wp2_with fail
   go_region_held3 (fun w' => w'.cell? ⟨w.heap.size, 0, none⟩ = some (.int .i64 6) ∧ w'.cell? ⟨w.heap.size, 1, none⟩ = some (.string (str t)) ∧ w'.cell? ⟨w.heap.size, 2, none⟩ = some (.int .i64 n) ∧ w'.cell? ⟨w.heap.size, 3, none⟩ = some (.int .i64 a) ∧ w'.cell? ⟨w.heap.size, 4, none⟩ = some (.int .i64 b) ∧ w'.cell? ⟨w.heap.size, 5, none⟩ = some (.int .i64 c) ∧ Only [] w w') (first | exact keep_en (by assumption) (by assumption) | exact keep_en ((Only.refl [] _).alloc _) (by assumption) | exact ⟨e0, e1, e2, e3, e4, e5, o1.drew⟩ | exact ⟨e0, e1, e2, e3, e4, e5, o1⟩ | assumption) (first | (go_at_call 112; with_reducible refine (HWC.out _ ?_ a).mono ?_; (simp [*]); rintro e w7 ⟨rfl, rfl⟩) | (go_at_call 108; with_reducible refine (HWM.out _ ?_ b).mono ?_; (simp [*]); rintro e w8 ⟨rfl, rfl⟩) | (go_at_call 114; with_reducible refine (HWS.out _ ?_ c).mono ?_; (simp [*]); rintro e w9 ⟨rfl, ho9⟩) | (go_at_call 111; with_reducible refine (or_any _ _ _ _).mono ?_; rintro e w10 ⟨rfl, rfl⟩))
   rename_i hS
   go_wp2
   go_ret
   exact ⟨by rw [hw.out]; rfl, hS.2.2.2.2.2.2⟩
 ·have er : r = 1 := by
   rw [hr.out]
   unfold wrongE
   rw [hug.out, if_neg (by simp; omega), if_pos hne]
  subst er
  subst hao
  simp only [hne, decide_false, Bool.not_false] at hq
  clear hne hk1 hk2
  replace o0 := hid o0
  go_enter Tryz.func45, Tryz.ntmps45
  go_wp2_with fail
  go_region_held3 (fun w' => w'.cell? ⟨w.heap.size, 0, none⟩ = some (.int .i64 k) ∧ w'.cell? ⟨w.heap.size, 1, none⟩ = some (.string (str t)) ∧ w'.cell? ⟨w.heap.size, 2, none⟩ = some (.int .i64 n) ∧ w'.cell? ⟨w.heap.size, 3, none⟩ = some (.int .i64 a) ∧ w'.cell? ⟨w.heap.size, 4, none⟩ = some (.int .i64 b) ∧ w'.cell? ⟨w.heap.size, 5, none⟩ = some (.int .i64 c) ∧ Only [] w w') (first | exact keep_en (by assumption) (by assumption) | exact ⟨e0, e1, e2, e3, e4, e5, o0.out.drew⟩ | exact ⟨e0, e1, e2, e3, e4, e5, o0.out⟩ | assumption) (first | (go_at_call 106; with_reducible refine (HU.out _).mono ?_; rintro e w6 ⟨rfl, ho6⟩))
  go_wp2
  go_ret
  rename_i hS
  exact ⟨rfl, hS.2.2.2.2.2.2⟩

end Go.Proofs.YtildemmkhndhjaaGreatDoor
namespace Go.Proofs.YtildemmkhndhjaaGreatDoor

theorem right_ok {l : List En} {i kind : Int} (h : (rightE l i kind).2 = 0) : ∃ e, enAt l i = some e ∧ e.1 = kind ∧ wrongE l e = 0 ∧ rightE l i kind = (e, 0) := by
 unfold rightE at h ⊢
 cases he : enAt l i with
 | none =>
  rw [he] at h
  simp at h
 | some e =>
  rw [he] at h
  simp only at h ⊢
  by_cases hk : e.1 = kind
  ·by_cases hw : wrongE l e = 0
   ·exact ⟨e, rfl, hk, hw, by simp [hk, hw]⟩
   ·simp [hk, hw] at h
  ·simp [hk] at h

theorem textAt_textOf {l : List En} {i : Int} {s : List UInt8} (h : textAt l i = some s) : textOf l i = s := by
 unfold textAt at h
 unfold textOf
 split at h
 ·split at h
  ·simpa using h
  ·cases h
 ·cases h

theorem textAt_some {l : List En} {i : Int} {s : List UInt8} (h : textAt l i = some s) : ∃ e, enAt l i = some e ∧ e.1 = 1 ∧ e.2.1 = s := by
 unfold textAt at h
 split at h
 ·rename_i e he
  split at h
  ·rename_i h1
   exact ⟨e, he, h1, by simpa using h⟩
  ·cases h
 ·cases h

theorem wText_ok {l : List En} {i : Int} {f : List UInt8 → Int} (h : wText l i f = 0) : ∃ s, textAt l i = some s ∧ f s = 0 := by
 unfold wText at h
 split at h
 ·rename_i s hs
  exact ⟨s, hs, h⟩
 ·cases h

theorem or3_ok {x y z : Int} (h : or3 x y z = 0) : x = 0 ∧ y = 0 ∧ z = 0 := by
 unfold or3 at h
 split at h
 ·split at h
  ·exact ⟨by assumption, by assumption, h⟩
  ·contradiction
 ·contradiction

theorem fName_ok {s : List UInt8} (h : fName s = 0) : nameOK s = true := by
 unfold fName at h
 split at h
 ·assumption
 ·cases h

theorem fMethod_ok {s : List UInt8} (h : fMethod s = 0) : methodOK s = true := by
 unfold fMethod at h
 split at h
 ·assumption
 ·cases h

theorem wClass_ok {l : List En} {i : Int} (h : wClass l i = 0) : hasE l i 3 = true := by
 unfold wClass at h
 split at h
 ·assumption
 ·cases h

theorem wrong_used {l : List En} {e : En} (h : wrongE l e = 0) : 1 ≤ e.1 ∧ e.1 ≤ 6 ∧ e = usedE e := by
 unfold wrongE at h
 split at h
 ·cases h
 ·split at h
  ·cases h
  ·rename_i h1 h2
   refine ⟨by omega, by omega, ?_⟩
   by_cases hq : e = usedE e
   ·exact hq
   ·exact absurd hq h2

theorem wrong_of {l : List En} {e : En} (h1 : 1 ≤ e.1) (h6 : e.1 ≤ 6) (hu : e = usedE e) : wrongE l e =
  if e.1 = 1 then longE e.2.1 else if e.1 = 2 then 0 else
  if e.1 = 3 then wText l e.2.2.2.1 fName else
  if e.1 = 4 then wText l e.2.2.2.1 fType else
  if e.1 = 5 then or3 (wClass l e.2.2.2.1) (wText l e.2.2.2.2.1 fName) (wText l e.2.2.2.2.2 fType) else
  or3 (wClass l e.2.2.2.1) (wText l e.2.2.2.2.1 fMethod) (wText l e.2.2.2.2.2 fSig) := by
 unfold wrongE
 rw [if_neg (by omega), if_neg (fun h => h hu)]

theorem wrong_class {l : List En} {e : En} (h : wrongE l e = 0) (hk : e.1 = 3) : ∃ s, textAt l e.2.2.2.1 = some s ∧ nameOK s = true := by
 obtain ⟨h1, h6, hu⟩ := wrong_used h
 rw [wrong_of h1 h6 hu] at h
 simp [hk] at h
 obtain ⟨s, hs, hf⟩ := wText_ok h
 exact ⟨s, hs, fName_ok hf⟩

theorem wrong_type {l : List En} {e : En} (h : wrongE l e = 0) (hk : e.1 = 4) : ∃ s, textAt l e.2.2.2.1 = some s ∧ (typeR s).2 = 0 := by
 obtain ⟨h1, h6, hu⟩ := wrong_used h
 rw [wrong_of h1 h6 hu] at h
 simp [hk] at h
 exact wText_ok h

theorem wrong_field {l : List En} {e : En} (h : wrongE l e = 0) (hk : e.1 = 5) : hasE l e.2.2.2.1 3 = true ∧ (∃ s, textAt l e.2.2.2.2.1 = some s ∧ nameOK s = true) ∧ ∃ s, textAt l e.2.2.2.2.2 = some s ∧ (typeR s).2 = 0 := by
 obtain ⟨h1, h6, hu⟩ := wrong_used h
 rw [wrong_of h1 h6 hu] at h
 simp [hk] at h
 obtain ⟨ha, hb, hc⟩ := or3_ok h
 obtain ⟨s, hs, hf⟩ := wText_ok hb
 exact ⟨wClass_ok ha, ⟨s, hs, fName_ok hf⟩, wText_ok hc⟩

theorem wrong_method {l : List En} {e : En} (h : wrongE l e = 0) (hk : e.1 = 6) : hasE l e.2.2.2.1 3 = true ∧ (∃ s, textAt l e.2.2.2.2.1 = some s ∧ methodOK s = true) ∧ ∃ s, textAt l e.2.2.2.2.2 = some s ∧ (sigR s).2 = 0 := by
 obtain ⟨h1, h6, hu⟩ := wrong_used h
 rw [wrong_of h1 h6 hu] at h
 simp [hk] at h
 obtain ⟨ha, hb, hc⟩ := or3_ok h
 obtain ⟨s, hs, hf⟩ := wText_ok hb
 exact ⟨wClass_ok ha, ⟨s, hs, fMethod_ok hf⟩, wText_ok hc⟩

end Go.Proofs.YtildemmkhndhjaaGreatDoor
namespace Go.Proofs.YtildemmkhndhjaaGreatDoor
open Go.RowKit

set_option maxHeartbeats 400000 in
set_option maxRecDepth 100000 in
theorem pcheck_any {w : World} {ao : Option Addr} {l : List En} {d cap : Nat} (hE : ES w ao l d) (hl : l.length ≤ 9223372036854775807) (hA : ∀ e ∈ l, e.2.1.length ≤ 9223372036854775807) :
  Calls Tryz.prog 19 #[.slice ao l.length cap] w fun r w' => r = .returned (.tuple #[.int .i64 (checkE l).1, .int .i64 (checkE l).2]) ∧ Only [] w w' := by
 have hx : ∃ x, x = checkE l := ⟨_, rfl⟩
 obtain ⟨x, hx⟩ := hx
 rw [← hx]
 by_cases h : 4096 < l.length
 ·have g1 : (4096 < (l.length : Int)) := by omega
  have e1 : x = (4096, 4) := by rw [hx]; simp [checkE, h]
  subst e1
  clear hx h
  go_enter Tryz.func19, Tryz.ntmps19
  go_wp2
  go_ret2
  exact ⟨rfl, Only.refl _ _⟩
 ·have g1 : ¬ (4096 < (l.length : Int)) := by omega
  have e1 : x = firstWrong l l 0 := by rw [hx]; simp [checkE, h]
  clear hx
  replace e1 := hid e1
  go_enter Tryz.func19, Tryz.ntmps19
  go_wp2
  go_loopw [11] (fun i wr => ∃ k : Nat, k ≤ l.length ∧ i = .int .i64 (k : Int) ∧ (∀ j (hj : j < l.length), j < k → wrongE l l[j] = 0) ∧ Only [] w wr) (fun i _ => l.length - (intOf i).toNat)
  case atStart => exact ⟨0, by omega, rfl, fun j _ h => by omega, Only.refl _ _⟩
  case round =>
   obtain ⟨k, hk, rfl, hok, hor⟩ := hrel
   by_cases hlt : k < l.length
   ·have g2 : ((k : Int) < (l.length : Int)) := by omega
    have HW := wrong_any (cap := cap) (hE.only hor (by simp)) hl hA k hlt
    by_cases hz : wrongE l l[k] = 0
    ·rw [hz] at HW
     have hnx : ∀ j (hj : j < l.length), j < k + 1 → wrongE l l[j] = 0 := by
      intro j hj hjk
      by_cases e : j = k
      ·subst e
       exact hz
      ·exact hok j hj (by omega)
     clear hok hz
     replace hnx := hid hnx
     replace HW := hid HW
     go_wp2_with (go_at_call 45; refine HW.out.mono ?_; rintro e w2 ⟨rfl, ho2⟩)
     exact ⟨⟨k + 1, by omega, by go_num, hnx.out, hor.next ho2 (by simp)⟩, by simp [intOf]; omega⟩
    ·have hat := firstWrong_at (l := l) (r := l) (i := 0) hlt (fun j hj => hok j (by omega) hj) hz
     rw [← e1.out] at hat
     generalize wrongE l l[k] = c at *
     have g3 : (c == 0) = false := by simpa using hz
     replace hat := hid hat
     clear hok hz
     replace HW := hid HW
     go_wp2_with (go_at_call 45; refine HW.out.mono ?_; rintro e w2 ⟨rfl, ho2⟩)
     go_ret2
     exact ⟨by rw [hat.out]; simp, hor.next ho2 (by simp)⟩
   ·have g2 : ¬ ((k : Int) < (l.length : Int)) := by omega
    obtain rfl : k = l.length := by omega
    have hall := firstWrong_ok (l := l) (r := l) (i := 0) fun e he => by
     obtain ⟨j, hj, rfl⟩ := List.getElem_of_mem he
     exact hok j hj hj
    rw [← e1.out] at hall
    clear hok
    replace hall := hid hall
    go_wp2
    go_ret2
    exact ⟨by rw [hall.out]; rfl, hor⟩

/-- An entry of one's own in a block. -/
structure EnW (w : World) (b : Nat) (e : En) : Prop where
 c : EnAt w b 0 e
 f : ∀ i, i < 6 → w.frozen? ⟨b, i, none⟩ = false

theorem enW_new (w : World) (e : En) (t : TypeId) : EnW (w.alloc (.cells #[.int .i64 e.1, .string (str e.2.1), .int .i64 e.2.2.1, .int .i64 e.2.2.2.1, .int .i64 e.2.2.2.2.1, .int .i64 e.2.2.2.2.2] t)) w.heap.size e :=
 ⟨enAt_new w e t, fun _ _ => frozen_new _ _ _ _⟩

theorem EnW.only {w w' : World} {S : List Nat} {b : Nat} {e : En} (h : EnW w b e) (ho : Only S w w') (hb : b ∉ S) : EnW w' b e :=
 ⟨h.c.only ho hb, fun i hi => by rw [ho.frozen h.c.lt hb]; exact h.f i hi⟩

theorem right_result {w : World} {b : Nat} {e : En} {x : Value} (h : EnAt w b 0 e) (tmps : Array Value) (h2 : tmps.getD 6 undef = .pointer (some ⟨b, 0, none⟩)) (h3 : tmps.getD 7 undef = x) :
  (results Tryz.f211 tmps).run Tryz.prog w = .ok (.tuple #[enV e, x]) w := by
 obtain ⟨c0, c1, c2, c3, c4, c5⟩ := h
 simp only [Nat.zero_add] at c0 c1 c2 c3 c4 c5
 rw [results_cell_tmp (p := 6) (u := 7) (ty := 90) Tryz.results211, h2, h3]
 simp [go_sem, c0, c1, c2, c3, c4, c5, enV]

set_option maxHeartbeats 400000 in
set_option maxRecDepth 100000 in
theorem right_any {w : World} {ao : Option Addr} {l : List En} {d cap : Nat} (hE : ES w ao l d) (hl : l.length ≤ 9223372036854775807) (hA : ∀ e ∈ l, e.2.1.length ≤ 9223372036854775807) (i kind : Int) :
  Calls Tryz.prog 211 #[.slice ao l.length cap, .int .i64 i, .int .i64 kind] w fun r w' => r = .returned (.tuple #[enV (rightE l i kind).1, .int .i64 (rightE l i kind).2]) ∧ Only [] w w' := by
 have o0 := (Only.refl [] w).alloc (.cells #[.int .i64 0, .string ⟨#[]⟩, .int .i64 0, .int .i64 0, .int .i64 0, .int .i64 0] 90)
 have HH := has_any' (cap := cap) (hE.only o0 (by simp)) hl i kind
 have E0 := enW_new w en0 90
 simp only [en0] at E0
 cases h : hasE l i kind with
 | false =>
  have e1 : rightE l i kind = (en0, 16) := by
   unfold rightE
   unfold hasE at h
   cases he : enAt l i with
   | none => rfl
   | some e =>
    rw [he] at h
    simp at h
    simp [h]
  rw [e1]
  rw [h] at HH
  simp only [enV, en0]
  clear h e1 hE
  replace HH := hid HH
  replace E0 := hid E0
  go_enter Tryz.func211, Tryz.ntmps211
  go_wp2_with (go_at_call 158; refine HH.out.mono ?_; rintro e w' ⟨rfl, rfl⟩)
  exact bodyPost_ret (right_result E0.out.c _ rfl rfl) rfl ⟨rfl, o0⟩
 | true =>
  obtain ⟨e, he, hk⟩ := hasE_kind h
  obtain ⟨j, hj, rfl, rfl⟩ := enAt_some he
  have e1 : rightE l (j : Int) kind = if wrongE l l[j] = 0 then (l[j], 0) else (en0, wrongE l l[j]) := by
   unfold rightE
   rw [he]
   simp only [hk, if_true]
  rw [e1]
  rw [h] at HH
  clear e1 h hk he
  have HW := wrong_any (cap := cap) (hE.only o0 (by simp)) hl hA j hj
  have hJ := fun W (hW : Only [] w W) => (hE.only hW (by simp)).at hj
  have g2 : ((j : Int) < (l.length : Int)) := by omega
  generalize wrongE l l[j] = c at *
  generalize l[j] = e at *
  clear hE
  obtain ⟨k, t, n, a, b, z⟩ := e
  replace HH := hid HH
  replace E0 := hid E0
  replace HW := hid HW
  replace hJ := hid hJ
  by_cases hc : c = 0
  ·subst hc
   simp only [if_true, enV]
   go_enter Tryz.func211, Tryz.ntmps211
   go_wp2_with (first | (go_at_call 158; refine HH.out.mono ?_; rintro e w' ⟨rfl, rfl⟩) | fail)
   refine HW.out.mono ?_
   rintro e w1 ⟨rfl, ho1⟩
   have o1 := o0.next ho1 (by simp)
   obtain ⟨off, rfl, y0, y1, y2, y3, y4, y5⟩ := hJ.out w1 o1
   have E1 := E0.out.only ho1 (by simp)
   have f0 := E1.f 0 (by omega)
   have f1 := E1.f 1 (by omega)
   have f2 := E1.f 2 (by omega)
   have f3 := E1.f 3 (by omega)
   have f4 := E1.f 4 (by omega)
   have f5 := E1.f 5 (by omega)
   obtain ⟨⟨e0, e1, e2, e3, e4, e5⟩, _⟩ := E1
   simp only [Nat.zero_add] at e0 e1 e2 e3 e4 e5
   have K1 := hid (E0.out.only ho1 (by simp))
   go_wp2
   exact bodyPost_ret (right_result (K1.out.c.put (k, t, n, a, b, z)) _ rfl rfl) rfl ⟨rfl, put6_only o1 (.inr (by simp)) _ _ _ _ _ _⟩
  ·have g3 : (c == 0) = false := by simpa using hc
   simp only [hc, if_false, enV, en0]
   clear hc
   go_enter Tryz.func211, Tryz.ntmps211
   go_wp2_with (first | (go_at_call 158; refine HH.out.mono ?_; rintro e w' ⟨rfl, rfl⟩) | fail)
   refine HW.out.mono ?_
   rintro e w1 ⟨rfl, ho1⟩
   have o1 := o0.next ho1 (by simp)
   have E1 := E0.out.only ho1 (by simp)
   have f0 := E1.f 0 (by omega)
   have f1 := E1.f 1 (by omega)
   have f2 := E1.f 2 (by omega)
   have f3 := E1.f 3 (by omega)
   have f4 := E1.f 4 (by omega)
   have f5 := E1.f 5 (by omega)
   obtain ⟨⟨e0, e1, e2, e3, e4, e5⟩, _⟩ := E1
   simp only [Nat.zero_add] at e0 e1 e2 e3 e4 e5
   have K1 := hid (E0.out.only ho1 (by simp))
   go_wp2
   exact bodyPost_ret (right_result (K1.out.c.put (0, [], 0, 0, 0, 0)) _ rfl rfl) rfl ⟨rfl, put6_only o1 (.inr (by simp)) _ _ _ _ _ _⟩

theorem text_mem {l : List En} {i : Int} {s : List UInt8} (h : textAt l i = some s) : ∃ e ∈ l, e.2.1 = s := by
 obtain ⟨e, he, _, rfl⟩ := textAt_some h
 obtain ⟨j, hj, _, rfl⟩ := enAt_some he
 exact ⟨_, List.getElem_mem hj, rfl⟩

set_option maxHeartbeats 400000 in
set_option maxRecDepth 100000 in
theorem pnumber_any {w : World} {ao : Option Addr} {l : List En} {d cap : Nat} (hE : ES w ao l d) (hl : l.length ≤ 9223372036854775807) (hA : ∀ e ∈ l, e.2.1.length ≤ 9223372036854775807) (i : Int) :
  Calls Tryz.prog 193 #[.slice ao l.length cap, .int .i64 i] w fun r w' => r = .returned (.tuple #[.int .i64 (numberR l i).1, .int .i64 (numberR l i).2]) ∧ Only [] w w' := by
 have HR := right_any (cap := cap) hE hl hA i 2
 unfold numberR
 generalize rightE l i 2 = X at *
 obtain ⟨⟨k, t, n, a, b, c⟩, er⟩ := X
 simp only [enV] at HR ⊢
 clear hE hA
 replace HR := hid HR
 go_enter Tryz.func193, Tryz.ntmps193
 go_wp2_with (go_at_call 211; refine HR.out.mono ?_; rintro e w1 ⟨rfl, ho1⟩)
 go_ret2
 exact ⟨rfl, ho1.alloc _⟩

set_option maxHeartbeats 400000 in
set_option maxRecDepth 100000 in
theorem pclass_any {w : World} {ao : Option Addr} {l : List En} {d cap : Nat} (hE : ES w ao l d) (hl : l.length ≤ 9223372036854775807) (hA : ∀ e ∈ l, e.2.1.length ≤ 9223372036854775807) (i : Int) :
  Calls Tryz.prog 194 #[.slice ao l.length cap, .int .i64 i] w fun r w' => r = .returned (.tuple #[.string (str (classR l i).1), .int .i64 (classR l i).2]) ∧ Only [] w w' := by
 have HR := right_any (cap := cap) hE hl hA i 3
 by_cases h0 : (rightE l i 3).2 = 0
 ·obtain ⟨e, he, hk, hw, hR⟩ := right_ok h0
  obtain ⟨s, hs, _⟩ := wrong_class hw hk
  have e1 : classR l i = (s, 0) := by
   unfold classR
   rw [hR]
   simp [textAt_textOf hs]
  rw [e1]
  rw [hR] at HR
  have hJ := fun W (hW : Only [] w W) => text_cell (hE.only hW (by simp)) hs
  obtain ⟨k, t, n, a, b, c⟩ := e
  simp only [enV] at HR hJ ⊢
  clear hE hA h0 he hk hw hR hs e1
  replace HR := hid HR
  replace hJ := hid hJ
  go_enter Tryz.func194, Tryz.ntmps194
  go_wp2_with fail
  refine HR.out.mono ?_
  rintro e w1 ⟨rfl, ho1⟩
  obtain ⟨j, off, rfl, hj, rfl, hc, _⟩ := hJ.out w1 ho1
  have hc' : ∀ o, (w1.alloc o).cell? ⟨d, off + j * 6 + 1, none⟩ = some (.string (str s)) := fun o => cell_alloc o hc
  have g2 : ((j : Int) < (l.length : Int)) := by omega
  go_wp2
  go_ret2
  exact ⟨rfl, ho1.alloc _⟩
 ·have e1 : classR l i = ([], (rightE l i 3).2) := by simp [classR, h0]
  rw [e1]
  generalize rightE l i 3 = X at *
  obtain ⟨⟨k, t, n, a, b, c⟩, er⟩ := X
  simp only [enV] at HR h0 ⊢
  have g3 : (er == 0) = false := by simpa using h0
  clear hE hA h0 e1
  replace HR := hid HR
  go_enter Tryz.func194, Tryz.ntmps194
  go_wp2_with fail
  refine HR.out.mono ?_
  rintro e w1 ⟨rfl, ho1⟩
  go_wp2
  go_ret2
  exact ⟨rfl, ho1.alloc _⟩

theorem ptype_result {w : World} {b : Nat} {t : Ty} {x : Value} (h : TyAt w b t) (tmps : Array Value) (h2 : tmps.getD 4 undef = .pointer (some ⟨b, 0, none⟩)) (h3 : tmps.getD 5 undef = x) :
  (results Tryz.f213 tmps).run Tryz.prog w = .ok (.tuple #[tyV t, x]) w := by
 obtain ⟨c0, c1, _, _⟩ := h
 rw [results_cell_tmp (p := 4) (u := 5) (ty := 35) Tryz.results213, h2, h3]
 simp [go_sem, c0, c1, tyV]

theorem tyAt_new' (w : World) (d : Int) (n : List UInt8) : TyAt (w.alloc (.cells #[.int .i64 d, .string (str n)] 35)) w.heap.size (d, n) :=
 ⟨by rw [cell_new]; rfl, by rw [cell_new]; rfl, frozen_new _ _ _ _, frozen_new _ _ _ _⟩

set_option maxHeartbeats 400000 in
set_option maxRecDepth 100000 in
theorem ptype_any {w : World} {ao : Option Addr} {l : List En} {d cap : Nat} (hE : ES w ao l d) (hl : l.length ≤ 9223372036854775807) (hA : ∀ e ∈ l, e.2.1.length ≤ 9223372036854775807) (i : Int) :
  Calls Tryz.prog 213 #[.slice ao l.length cap, .int .i64 i] w fun r w' => r = .returned (.tuple #[tyV (typeAtR l i).1, .int .i64 (typeAtR l i).2]) ∧ Only [] w w' := by
 have o0 := (Only.refl [] w).alloc (.cells #[.int .i64 0, .string ⟨#[]⟩] 35)
 have T0 := tyAt_new' w 0 []
 have HR := right_any (cap := cap) (hE.only o0 (by simp)) hl hA i 4
 by_cases h0 : (rightE l i 4).2 = 0
 ·obtain ⟨e, he, hk, hw, hR⟩ := right_ok h0
  obtain ⟨s, hs, hz⟩ := wrong_type hw hk
  have e1 : typeAtR l i = typeR s := by
   unfold typeAtR
   rw [hR]
   simp [textAt_textOf hs]
  rw [e1]
  rw [hR] at HR
  have hJ := fun W (hW : Only [] w W) => text_cell (hE.only hW (by simp)) hs
  have hm := text_mem hs
  have HT := fun W => type_any s (byte_text hA hm) W
  obtain ⟨k, t, n, a, b, c⟩ := e
  generalize typeR s = X at *
  obtain ⟨⟨xd, xn⟩, xe⟩ := X
  simp only at hz
  subst hz
  simp only [enV, tyV] at HR hJ HT ⊢
  clear hE hA h0 he hk hw hR hs e1 hm
  replace HR := hid HR
  replace hJ := hid hJ
  replace HT := hid HT
  replace T0 := hid T0
  go_enter Tryz.func213, Tryz.ntmps213
  go_wp2_with fail
  refine HR.out.mono ?_
  rintro e w1 ⟨rfl, ho1⟩
  have o1 := o0.next ho1 (by simp)
  obtain ⟨j, off, rfl, hj, rfl, hc, _⟩ := hJ.out w1 o1
  have hc' : ∀ o, (w1.alloc o).cell? ⟨d, off + j * 6 + 1, none⟩ = some (.string (str s)) := fun o => cell_alloc o hc
  have g2 : ((j : Int) < (l.length : Int)) := by omega
  go_wp2_with fail
  refine (HT.out _).mono ?_
  rintro e w2 ⟨rfl, ho2⟩
  have hB : w.heap.size < w1.heap.size := by have := ho1.size; simp at this; omega
  have T1 := hid (((T0.out.only ho1 (by simp)).only ((Only.refl [] w1).alloc (.cells #[.int .i64 k, .string (str t), .int .i64 n, .int .i64 (j : Int), .int .i64 b, .int .i64 c] 90)) (by simp)).only ho2 (by simp))
  obtain ⟨t0, t1, f0, f1⟩ := T1.out
  go_wp2
  exact bodyPost_ret (ptype_result (T1.out.put xd xn) _ rfl rfl) rfl ⟨rfl, (((o1.alloc _).next ho2 (by simp)).setCell (.inr (by simp)) _).setCell (.inr (by simp)) _⟩
 ·have e1 : typeAtR l i = ((0, []), (rightE l i 4).2) := by simp [typeAtR, h0]
  rw [e1]
  generalize rightE l i 4 = X at *
  obtain ⟨⟨k, t, n, a, b, c⟩, er⟩ := X
  simp only [enV, tyV] at HR h0 ⊢
  have g3 : (er == 0) = false := by simpa using h0
  clear hE hA h0 e1
  replace HR := hid HR
  replace T0 := hid T0
  go_enter Tryz.func213, Tryz.ntmps213
  go_wp2_with fail
  refine HR.out.mono ?_
  rintro e w1 ⟨rfl, ho1⟩
  have o1 := o0.next ho1 (by simp)
  have hB : w.heap.size < w1.heap.size := by have := ho1.size; simp at this; omega
  have T1 := hid (T0.out.only ho1 (by simp))
  obtain ⟨s0, s1, r0, r1⟩ := T0.out.only ho1 (by simp)
  have t0 := fun o => cell_alloc o (T0.out.only ho1 (by simp)).c0
  have t1 := fun o => cell_alloc o (T0.out.only ho1 (by simp)).c1
  have f0 : ∀ o, (w1.alloc o).frozen? ⟨w.heap.size, 0, none⟩ = false := fun o => by rw [frozen_alloc o hB]; exact (T0.out.only ho1 (by simp)).f0
  have f1 : ∀ o, (w1.alloc o).frozen? ⟨w.heap.size, 1, none⟩ = false := fun o => by rw [frozen_alloc o hB]; exact (T0.out.only ho1 (by simp)).f1
  go_wp2
  exact bodyPost_ret (ptype_result ((T1.out.put 0 []).only ((Only.refl [] _).alloc _) (by simp)) _ rfl rfl) rfl ⟨rfl, ((o1.setCell (.inr (by simp)) _).setCell (.inr (by simp)) _).alloc _⟩

theorem results_tmp4 {fn : Func} {t u v x : Tmp} (h : fn.results = #[.tmp t, .tmp u, .tmp v, .tmp x]) (tmps : Array Value) (P : Program) (w : World) :
  (results fn tmps).run P w = .ok (.tuple #[tmps.getD t undef, tmps.getD u undef, tmps.getD v undef, tmps.getD x undef]) w := by
 simp only [results, h]
 simp

theorem results_ttct {fn : Func} {p q r u : Tmp} {ty : TypeId} (h : fn.results = #[.tmp p, .tmp q, .cell r ty, .tmp u]) (tmps : Array Value) (P : Program) (w : World) :
  (results fn tmps).run P w =
   ((asAddr (tmps.getD r undef)).run P w).andThen fun a w₁ => ((loadVar ty a).run P w₁).andThen fun v w₂ => .ok (.tuple #[tmps.getD p undef, tmps.getD q undef, v, tmps.getD u undef]) w₂ := by
 simp only [results, h]
 simp [Sem.run_bind, Result.andThen]

theorem wrong_member {l : List En} {e : En} {kind : Int} (hkd : kind = 5 ∨ kind = 6) (h : wrongE l e = 0) (hk : e.1 = kind) : hasE l e.2.2.2.1 3 = true ∧ (∃ s, textAt l e.2.2.2.2.1 = some s) ∧ ∃ s, textAt l e.2.2.2.2.2 = some s := by
 rcases hkd with rfl | rfl
 ·obtain ⟨h1, ⟨s, hs, _⟩, t, ht, _⟩ := wrong_field h hk
  exact ⟨h1, ⟨s, hs⟩, t, ht⟩
 ·obtain ⟨h1, ⟨s, hs, _⟩, t, ht, _⟩ := wrong_method h hk
  exact ⟨h1, ⟨s, hs⟩, t, ht⟩

set_option maxHeartbeats 400000 in
set_option maxRecDepth 100000 in
theorem member_any {w : World} {ao : Option Addr} {l : List En} {d cap : Nat} (hE : ES w ao l d) (hl : l.length ≤ 9223372036854775807) (hA : ∀ e ∈ l, e.2.1.length ≤ 9223372036854775807) (i kind : Int) (hkd : kind = 5 ∨ kind = 6) :
  Calls Tryz.prog 212 #[.slice ao l.length cap, .int .i64 i, .int .i64 kind] w fun r w' => r = .returned (.tuple #[.string (str (memberR l i kind).1.1), .string (str (memberR l i kind).1.2.1), .string (str (memberR l i kind).1.2.2), .int .i64 (memberR l i kind).2]) ∧ Only [] w w' := by
 have HR := right_any (cap := cap) hE hl hA i kind
 by_cases h0 : (rightE l i kind).2 = 0
 ·obtain ⟨e, he, hk, hw, hR⟩ := right_ok h0
  obtain ⟨_, ⟨sb, hsb⟩, sc, hsc⟩ := wrong_member hkd hw hk
  have hm : memberR l i kind = if (classR l e.2.2.2.1).2 = 0 then (((classR l e.2.2.2.1).1, sb, sc), 0) else (([], [], []), (classR l e.2.2.2.1).2) := by
   unfold memberR
   rw [hR]
   simp only [if_true, textAt_textOf hsb, textAt_textOf hsc]
  rw [hm]
  rw [hR] at HR
  have hJb := fun W (hW : Only [] w W) => text_cell (hE.only hW (by simp)) hsb
  have hJc := fun W (hW : Only [] w W) => text_cell (hE.only hW (by simp)) hsc
  have HC := fun W (hW : Only [] w W) => pclass_any (cap := cap) (hE.only hW (by simp)) hl hA e.2.2.2.1
  obtain ⟨k, t, n, a, b, c⟩ := e
  simp only [enV] at HR hJb hJc HC ⊢
  clear hE hA h0 he hk hw hR hsb hsc hm hkd
  generalize classR l a = X at *
  obtain ⟨xs, xe⟩ := X
  simp only at HC ⊢
  replace HR := hid HR
  replace hJb := hid hJb
  replace hJc := hid hJc
  replace HC := hid HC
  by_cases hx : xe = 0
  ·subst hx
   simp only [if_true]
   go_enter Tryz.func212, Tryz.ntmps212
   go_wp2_with fail
   refine HR.out.mono ?_
   rintro e w1 ⟨rfl, ho1⟩
   have EN := enAt_new w1 (k, t, n, a, b, c) 90
   have o1 := ho1.alloc (.cells #[.int .i64 k, .string (str t), .int .i64 n, .int .i64 a, .int .i64 b, .int .i64 c] 90)
   replace EN := hid EN
   replace HC := hid (HC.out _ o1)
   go_wp2_with fail
   refine HC.out.mono ?_
   rintro e w2 ⟨rfl, ho2⟩
   have o2 := o1.next ho2 (by simp)
   obtain ⟨e0, e1, e2, e3, e4, e5⟩ := EN.out.only ho2 (by simp)
   simp only [Nat.zero_add] at e0 e1 e2 e3 e4 e5
   obtain ⟨jb, off, rfl, hjb, rfl, hcb, _⟩ := hJb.out w2 o2
   obtain ⟨jc, off', rfl, hjc, ho', hcc, _⟩ := hJc.out w2 o2
   simp at ho'
   subst ho'
   have gb : ((jb : Int) < (l.length : Int)) := by omega
   have gc : ((jc : Int) < (l.length : Int)) := by omega
   go_wp2_with fail
   go_region
   go_wp2
   refine bodyPost_ret (results_tmp4 rfl _ _ _) rfl ⟨rfl, o2.drew⟩
  ·have g3 : (xe == 0) = false := by simpa using hx
   simp only [hx, if_false]
   clear hx
   go_enter Tryz.func212, Tryz.ntmps212
   go_wp2_with fail
   refine HR.out.mono ?_
   rintro e w1 ⟨rfl, ho1⟩
   have o1 := ho1.alloc (.cells #[.int .i64 k, .string (str t), .int .i64 n, .int .i64 a, .int .i64 b, .int .i64 c] 90)
   replace HC := hid (HC.out _ o1)
   go_wp2_with fail
   refine HC.out.mono ?_
   rintro e w2 ⟨rfl, ho2⟩
   have o2 := o1.next ho2 (by simp)
   go_wp2
   refine bodyPost_ret (results_tmp4 rfl _ _ _) rfl ⟨rfl, o2⟩
 ·have hm : memberR l i kind = (([], [], []), (rightE l i kind).2) := by simp [memberR, h0]
  rw [hm]
  generalize rightE l i kind = X at *
  obtain ⟨⟨k, t, n, a, b, c⟩, er⟩ := X
  simp only [enV] at HR h0 ⊢
  have g3 : (er == 0) = false := by simpa using h0
  clear hE hA h0 hm hkd
  replace HR := hid HR
  go_enter Tryz.func212, Tryz.ntmps212
  go_wp2_with fail
  refine HR.out.mono ?_
  rintro e w1 ⟨rfl, ho1⟩
  go_wp2
  refine bodyPost_ret (results_tmp4 rfl _ _ _) rfl ⟨rfl, ho1.alloc _⟩

theorem member_text {l : List En} {i kind : Int} (hkd : kind = 5 ∨ kind = 6) (h : (memberR l i kind).2 = 0) : ∃ j, textAt l j = some (memberR l i kind).1.2.2 := by
 by_cases h0 : (rightE l i kind).2 = 0
 ·obtain ⟨e, he, hk, hw, hR⟩ := right_ok h0
  obtain ⟨_, ⟨sb, hsb⟩, sc, hsc⟩ := wrong_member hkd hw hk
  have hm : memberR l i kind = if (classR l e.2.2.2.1).2 = 0 then (((classR l e.2.2.2.1).1, sb, sc), 0) else (([], [], []), (classR l e.2.2.2.1).2) := by
   unfold memberR
   rw [hR]
   simp only [if_true, textAt_textOf hsb, textAt_textOf hsc]
  rw [hm] at h ⊢
  by_cases hc : (classR l e.2.2.2.1).2 = 0
  ·simp only [hc, if_true]
   exact ⟨_, hsc⟩
  ·simp [hc] at h
 ·have hm : memberR l i kind = (([], [], []), (rightE l i kind).2) := by simp [memberR, h0]
  rw [hm] at h
  exact absurd h h0

theorem pfield_result {w : World} {b : Nat} {t : Ty} {x y z : Value} (h : TyAt w b t) (tmps : Array Value) (h1 : tmps.getD 4 undef = x) (h2 : tmps.getD 5 undef = y) (h3 : tmps.getD 6 undef = .pointer (some ⟨b, 0, none⟩)) (h4 : tmps.getD 7 undef = z) :
  (results Tryz.f195 tmps).run Tryz.prog w = .ok (.tuple #[x, y, tyV t, z]) w := by
 obtain ⟨c0, c1, _, _⟩ := h
 rw [results_ttct (p := 4) (q := 5) (r := 6) (u := 7) (ty := 35) Tryz.results195, h1, h2, h3, h4]
 simp [go_sem, c0, c1, tyV]

theorem pmethod_result {w : World} {b : Nat} {v : Value} {void : Bool} {t : Ty} {x y z : Value} (h : SigAt w b v void t) (tmps : Array Value) (h1 : tmps.getD 4 undef = x) (h2 : tmps.getD 5 undef = y) (h3 : tmps.getD 6 undef = .pointer (some ⟨b, 0, none⟩)) (h4 : tmps.getD 7 undef = z) :
  (results Tryz.f215 tmps).run Tryz.prog w = .ok (.tuple #[x, y, sigV v void t, z]) w := by
 obtain ⟨c0, c1, c2, c3, _, _, _, _⟩ := h
 rw [results_ttct (p := 4) (q := 5) (r := 6) (u := 7) (ty := 37) Tryz.results215, h1, h2, h3, h4]
 simp [go_sem, c0, c1, c2, c3, sigV]

theorem sig_new' (w : World) (v : Value) (void : Bool) (d : Int) (n : List UInt8) : SigAt (w.alloc (.cells #[v, .bool void, .int .i64 d, .string (str n)] 37)) w.heap.size v void (d, n) :=
 ⟨by rw [cell_new]; rfl, by rw [cell_new]; rfl, by rw [cell_new]; rfl, by rw [cell_new]; rfl, frozen_new _ _ _ _, frozen_new _ _ _ _, frozen_new _ _ _ _, frozen_new _ _ _ _⟩

set_option maxHeartbeats 400000 in
set_option maxRecDepth 100000 in
theorem pfield_any {w : World} {ao : Option Addr} {l : List En} {d cap : Nat} (hE : ES w ao l d) (hl : l.length ≤ 9223372036854775807) (hA : ∀ e ∈ l, e.2.1.length ≤ 9223372036854775807) (i : Int) :
  Calls Tryz.prog 195 #[.slice ao l.length cap, .int .i64 i] w fun r w' => r = .returned (.tuple #[.string (str (fieldR l i).1.1), .string (str (fieldR l i).1.2.1), tyV (fieldR l i).1.2.2, .int .i64 (fieldR l i).2]) ∧ Only [] w w' := by
 have o0 := (Only.refl [] w).alloc (.cells #[.int .i64 0, .string ⟨#[]⟩] 35)
 have T0 := tyAt_new' w 0 []
 have HM := member_any (cap := cap) (hE.only o0 (by simp)) hl hA i 5 (.inl rfl)
 have hmt := member_text (l := l) (i := i) (kind := 5) (.inl rfl)
 unfold fieldR
 generalize memberR l i 5 = X at *
 obtain ⟨⟨xc, xn, xt⟩, xe⟩ := X
 simp only at HM hmt ⊢
 clear hE
 by_cases hx : xe = 0
 ·subst hx
  obtain ⟨jt, hjt⟩ := hmt rfl
  have HT := fun W => type_any xt (byte_text hA (text_mem hjt)) W
  simp only [if_true]
  clear hmt hjt hA
  generalize typeR xt = Y at *
  obtain ⟨⟨yd, yn⟩, ye⟩ := Y
  simp only [tyV] at HT ⊢
  replace HT := hid HT
  replace HM := hid HM
  replace T0 := hid T0
  go_enter Tryz.func195, Tryz.ntmps195
  go_wp2_with fail
  refine HM.out.mono ?_
  rintro e w1 ⟨rfl, ho1⟩
  have o1 := o0.next ho1 (by simp)
  go_wp2_with fail
  refine (HT.out _).mono ?_
  rintro e w2 ⟨rfl, ho2⟩
  have o2 := o1.next ho2 (by simp)
  have hB : w.heap.size < w2.heap.size := by have := ho1.size; have := ho2.size; simp at *; omega
  have T2 := hid ((T0.out.only ho1 (by simp)).only ho2 (by simp))
  obtain ⟨t0, t1, f0, f1⟩ := T2.out
  have t0' : ∀ o, (w2.alloc o).cell? ⟨w.heap.size, 0, none⟩ = some (.int .i64 0) := fun o => cell_alloc o t0
  have t1' : ∀ o, (w2.alloc o).cell? ⟨w.heap.size, 1, none⟩ = some (.string (str [])) := fun o => cell_alloc o t1
  have f0' : ∀ o, (w2.alloc o).frozen? ⟨w.heap.size, 0, none⟩ = false := fun o => by rw [frozen_alloc o hB]; exact f0
  have f1' : ∀ o, (w2.alloc o).frozen? ⟨w.heap.size, 1, none⟩ = false := fun o => by rw [frozen_alloc o hB]; exact f1
  go_wp2_with fail
  go_region
  go_wp2
  exact bodyPost_ret (pfield_result ((T2.out.put yd yn).only (((Only.refl [] _).alloc _).drew) (by simp)) _ rfl rfl rfl rfl) rfl ⟨rfl, (((o2.setCell (.inr (by simp)) _).setCell (.inr (by simp)) _).alloc _).drew⟩
 ·have g3 : (xe == 0) = false := by simpa using hx
  simp only [hx, if_false, tyV]
  clear hx hmt hA
  replace HM := hid HM
  replace T0 := hid T0
  go_enter Tryz.func195, Tryz.ntmps195
  go_wp2_with fail
  refine HM.out.mono ?_
  rintro e w1 ⟨rfl, ho1⟩
  have o1 := o0.next ho1 (by simp)
  have T1 := hid (T0.out.only ho1 (by simp))
  obtain ⟨t0, t1, f0, f1⟩ := T1.out
  go_wp2
  exact bodyPost_ret (pfield_result (T1.out.put 0 []) _ rfl rfl rfl rfl) rfl ⟨rfl, (o1.setCell (.inr (by simp)) _).setCell (.inr (by simp)) _⟩

set_option maxHeartbeats 400000 in
set_option maxRecDepth 100000 in
theorem pmethod_any {w : World} {ao : Option Addr} {l : List En} {d cap : Nat} (hE : ES w ao l d) (hl : l.length ≤ 9223372036854775807) (hA : ∀ e ∈ l, e.2.1.length ≤ 9223372036854775807) (i : Int) :
  Calls Tryz.prog 215 #[.slice ao l.length cap, .int .i64 i] w fun r w' => ∃ vo vc, r = .returned (.tuple #[.string (str (methodR l i).1.1), .string (str (methodR l i).1.2.1), sigV (.slice vo (methodR l i).1.2.2.1.length vc) (methodR l i).1.2.2.2.1 (methodR l i).1.2.2.2.2, .int .i64 (methodR l i).2]) ∧ Own w' w.heap.size (.slice vo (methodR l i).1.2.2.1.length vc) (methodR l i).1.2.2.1 ∧ Only [] w w' := by
 have o0 := (Only.refl [] w).alloc (.cells #[.slice none 0 0, .bool false, .int .i64 0, .string ⟨#[]⟩] 37)
 have T0 := sig_new' w (.slice none 0 0) false 0 []
 have HM := member_any (cap := cap) (hE.only o0 (by simp)) hl hA i 6 (.inr rfl)
 have hmt := member_text (l := l) (i := i) (kind := 6) (.inr rfl)
 unfold methodR
 generalize memberR l i 6 = X at *
 obtain ⟨⟨xc, xn, xt⟩, xe⟩ := X
 simp only at HM hmt ⊢
 clear hE
 by_cases hx : xe = 0
 ·subst hx
  obtain ⟨jt, hjt⟩ := hmt rfl
  have HT := fun W => sig_any xt (byte_text hA (text_mem hjt)) W
  simp only [if_true]
  clear hmt hjt hA
  generalize sigR xt = Y at *
  obtain ⟨⟨yl, yv, yd, yn⟩, ye⟩ := Y
  simp only [sigV] at HT ⊢
  replace HT := hid HT
  replace HM := hid HM
  replace T0 := hid T0
  go_enter Tryz.func215, Tryz.ntmps215
  go_wp2_with fail
  refine HM.out.mono ?_
  rintro e w1 ⟨rfl, ho1⟩
  have o1 := o0.next ho1 (by simp)
  go_wp2_with fail
  refine (HT.out _).mono ?_
  rintro e w2 ⟨v, rfl, hown, ho2⟩
  obtain ⟨vo, vc, rfl⟩ := own_slice hown
  have o2 := o1.next ho2 (by simp)
  have hs1 : w.heap.size < w1.heap.size := by have := ho1.size; simp at *; omega
  have hB : w.heap.size < w2.heap.size := by have := ho1.size; have := ho2.size; simp at *; omega
  have T2 := hid ((T0.out.only ho1 (by simp)).only ho2 (by simp))
  obtain ⟨t0, t1, t2, t3, f0, f1, f2, f3⟩ := T2.out
  have t0' : ∀ o, (w2.alloc o).cell? ⟨w.heap.size, 0, none⟩ = some (.slice none 0 0) := fun o => cell_alloc o t0
  have t1' : ∀ o, (w2.alloc o).cell? ⟨w.heap.size, 1, none⟩ = some (.bool false) := fun o => cell_alloc o t1
  have t2' : ∀ o, (w2.alloc o).cell? ⟨w.heap.size, 2, none⟩ = some (.int .i64 0) := fun o => cell_alloc o t2
  have t3' : ∀ o, (w2.alloc o).cell? ⟨w.heap.size, 3, none⟩ = some (.string (str [])) := fun o => cell_alloc o t3
  have f0' : ∀ o, (w2.alloc o).frozen? ⟨w.heap.size, 0, none⟩ = false := fun o => by rw [frozen_alloc o hB]; exact f0
  have f1' : ∀ o, (w2.alloc o).frozen? ⟨w.heap.size, 1, none⟩ = false := fun o => by rw [frozen_alloc o hB]; exact f1
  have f2' : ∀ o, (w2.alloc o).frozen? ⟨w.heap.size, 2, none⟩ = false := fun o => by rw [frozen_alloc o hB]; exact f2
  have f3' : ∀ o, (w2.alloc o).frozen? ⟨w.heap.size, 3, none⟩ = false := fun o => by rw [frozen_alloc o hB]; exact f3
  replace hown := hid hown
  go_wp2_with fail
  go_region
  go_wp2
  have hown2 := own_mono (C := w.heap.size) (own_only (own_set (own_set (own_set (own_set hown.out ⟨w.heap.size, 0, none⟩ hs1 (.slice vo yl.length vc)) ⟨w.heap.size, 1, none⟩ hs1 (.bool yv)) ⟨w.heap.size, 2, none⟩ hs1 (.int .i64 yd)) ⟨w.heap.size, 3, none⟩ hs1 (.string (str yn))) (((Only.refl [] _).alloc (.cells #[.slice vo yl.length vc, .bool yv, .int .i64 yd, .string (str yn)] 37)).drew) (by simp)) (by omega)
  exact bodyPost_ret (pmethod_result (((((T2.out.put0 (.slice vo yl.length vc)).put1 yv).put2 yd).put3 yn).only (((Only.refl [] _).alloc _).drew) (by simp)) _ rfl rfl rfl rfl) rfl ⟨vo, vc, rfl, hown2, (((((o2.setCell (.inr (by simp)) _).setCell (.inr (by simp)) _).setCell (.inr (by simp)) _).setCell (.inr (by simp)) _).alloc _).drew⟩
 ·have g3 : (xe == 0) = false := by simpa using hx
  simp only [hx, if_false, sigV]
  clear hx hmt hA
  replace HM := hid HM
  replace T0 := hid T0
  go_enter Tryz.func215, Tryz.ntmps215
  go_wp2_with fail
  refine HM.out.mono ?_
  rintro e w1 ⟨rfl, ho1⟩
  have o1 := o0.next ho1 (by simp)
  have T1 := hid (T0.out.only ho1 (by simp))
  obtain ⟨t0, t1, t2, t3, f0, f1, f2, f3⟩ := T1.out
  go_wp2
  exact bodyPost_ret (pmethod_result ((((T1.out.put0 (.slice none 0 0)).put1 false).put2 0).put3 []) _ rfl rfl rfl rfl) rfl ⟨none, 0, rfl, own_nil _ _, (((o1.setCell (.inr (by simp)) _).setCell (.inr (by simp)) _).setCell (.inr (by simp)) _).setCell (.inr (by simp)) _⟩

end Go.Proofs.YtildemmkhndhjaaGreatDoor
