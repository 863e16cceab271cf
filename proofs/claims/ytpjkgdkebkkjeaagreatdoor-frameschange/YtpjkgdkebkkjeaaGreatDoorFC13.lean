/-
  FramesChange's walk, from the contract of the second program's Swap. No conditions.
-/
import Derived.Test.YtpjkgdkebkkjeaaGreatDoorFC12
import Derived.Test.YtpjkgdkebkkjeaaGreatDoorXN
import Derived.Test.YtpjkgdkebkkjeaaGreatDoorRNH8
import Derived.Deep.RegionHeld3
namespace Go.Proofs.YtpjkgdkebkkjeaaGreatDoor
open Go.RowKit

/-- What is asked of the second program's Swap. -/
def RSw : Prop := ∀ {w : World} (s a b : Vt) {ll ls : List Vt} {vl vs : Value}, Rd w vl ll → Rd w vs ls → ll.length ≤ 1000000 → ls.length ≤ 1000000 →
    Calls Tryz.prog 12 #[frV s vl vs, vtV a, vtV b] w (NewF w (swV a b s) (ll.map (swV a b)) (ls.map (swV a b)))

/-- The boxes of the arguments. -/
structure LwB (w W : World) (s t a b : Vt) (vl vs ul us : Value) : Prop where
  f : FrB W w.heap.size s vl vs
  g : FrB W (w.heap.size + 1) t ul us
  fa : VtAt W (w.heap.size + 2) 0 a
  fb : VtAt W (w.heap.size + 3) 0 b
  only : Only [] w W
theorem LwB.zero {w W W' : World} {s t a b : Vt} {vl vs ul us : Value} (h : LwB w W s t a b vl vs ul us) (ho : Only [] W W') : LwB w W' s t a b vl vs ul us :=
  ⟨h.f.only ho (by simp), h.g.only ho (by simp), h.fa.only ho (by simp), h.fb.only ho (by simp), h.only.trans ho (by simp)⟩
theorem lwB_new (w : World) (s t a b : Vt) (vl vs ul us : Value) : LwB w ((((w.alloc (.cells #[.int .i64 s.1, .int .i64 s.2.1, .string (str s.2.2.1), .int .i64 s.2.2.2, vl, vs] 28)).alloc (.cells #[.int .i64 t.1, .int .i64 t.2.1, .string (str t.2.2.1), .int .i64 t.2.2.2, ul, us] 28)).alloc (.cells #[.int .i64 a.1, .int .i64 a.2.1, .string (str a.2.2.1), .int .i64 a.2.2.2] 25)).alloc (.cells #[.int .i64 b.1, .int .i64 b.2.1, .string (str b.2.2.1), .int .i64 b.2.2.2] 25)) s t a b vl vs ul us := by
  refine ⟨(frB_new w s _ _ _).only ((((Only.refl [] _).alloc _).alloc _).alloc _) (by simp), ?_, ?_, ?_, ((((Only.refl [] w).alloc _).alloc _).alloc _).alloc _⟩
  · refine FrB.only (w := (w.alloc (.cells #[.int .i64 s.1, .int .i64 s.2.1, .string (str s.2.2.1), .int .i64 s.2.2.2, vl, vs] 28)).alloc (.cells #[.int .i64 t.1, .int .i64 t.2.1, .string (str t.2.2.1), .int .i64 t.2.2.2, ul, us] 28)) ?_ (((Only.refl [] _).alloc _).alloc _) (by simp)
    rw [show w.heap.size + 1 = (w.alloc (.cells #[.int .i64 s.1, .int .i64 s.2.1, .string (str s.2.2.1), .int .i64 s.2.2.2, vl, vs] 28)).heap.size by simp]
    exact frB_new _ _ _ _ _
  · refine VtAt.only (w := ((w.alloc (.cells #[.int .i64 s.1, .int .i64 s.2.1, .string (str s.2.2.1), .int .i64 s.2.2.2, vl, vs] 28)).alloc (.cells #[.int .i64 t.1, .int .i64 t.2.1, .string (str t.2.2.1), .int .i64 t.2.2.2, ul, us] 28)).alloc (.cells #[.int .i64 a.1, .int .i64 a.2.1, .string (str a.2.2.1), .int .i64 a.2.2.2] 25)) ?_ ((Only.refl [] _).alloc _) (by simp)
    rw [show w.heap.size + 2 = ((w.alloc (.cells #[.int .i64 s.1, .int .i64 s.2.1, .string (str s.2.2.1), .int .i64 s.2.2.2, vl, vs] 28)).alloc (.cells #[.int .i64 t.1, .int .i64 t.2.1, .string (str t.2.2.1), .int .i64 t.2.2.2, ul, us] 28)).heap.size by simp]
    exact ⟨by rw [cell_new]; rfl, by rw [cell_new]; rfl, by rw [cell_new]; rfl, by rw [cell_new]; rfl⟩
  · rw [show w.heap.size + 3 = (((w.alloc (.cells #[.int .i64 s.1, .int .i64 s.2.1, .string (str s.2.2.1), .int .i64 s.2.2.2, vl, vs] 28)).alloc (.cells #[.int .i64 t.1, .int .i64 t.2.1, .string (str t.2.2.1), .int .i64 t.2.2.2, ul, us] 28)).alloc (.cells #[.int .i64 a.1, .int .i64 a.2.1, .string (str a.2.2.1), .int .i64 a.2.2.2] 25)).heap.size by simp]
    exact ⟨by rw [cell_new]; rfl, by rw [cell_new]; rfl, by rw [cell_new]; rfl, by rw [cell_new]; rfl⟩
theorem only_below {w w' : World} (h : Below w.heap.size w w') : Only [] w w' := ⟨h.os, h.tape, h.output, h.size, fun k hk _ => h.block k hk⟩

theorem sameF_self (s : Vt) (l m : List Vt) : sameF s s l l m m = true := by simp [sameF]
theorem keep1 {w w' : World} {a : Addr} {v : Value} (h : w.cell? a = some v) (ho : Only [] w w') : w'.cell? a = some v := by
  rw [ho.cell (World.block_lt_of_cell? _ _ h) (by simp)]
  exact h
theorem keepL {w0 w w' : World} {a0 a1 a2 a3 a4 a5 a6 a7 a8 a9 a10 a11 a12 a13 a14 a15 a16 a17 a18 a19 a20 a21 a22 a23 a24 a25 a26 a27 a28 a29 a30 a31 a32 a33 a34 a35 a36 a37 : Addr} {v0 v1 v2 v3 v4 v5 v6 v7 v8 v9 v10 v11 v12 v13 v14 v15 v16 v17 v18 v19 v20 v21 v22 v23 v24 v25 v26 v27 v28 v29 v30 v31 v32 v33 v34 v35 v36 v37 : Value} (h : w.cell? a0 = some v0 ∧ w.cell? a1 = some v1 ∧ w.cell? a2 = some v2 ∧ w.cell? a3 = some v3 ∧ w.cell? a4 = some v4 ∧ w.cell? a5 = some v5 ∧ w.cell? a6 = some v6 ∧ w.cell? a7 = some v7 ∧ w.cell? a8 = some v8 ∧ w.cell? a9 = some v9 ∧ w.cell? a10 = some v10 ∧ w.cell? a11 = some v11 ∧ w.cell? a12 = some v12 ∧ w.cell? a13 = some v13 ∧ w.cell? a14 = some v14 ∧ w.cell? a15 = some v15 ∧ w.cell? a16 = some v16 ∧ w.cell? a17 = some v17 ∧ w.cell? a18 = some v18 ∧ w.cell? a19 = some v19 ∧ w.cell? a20 = some v20 ∧ w.cell? a21 = some v21 ∧ w.cell? a22 = some v22 ∧ w.cell? a23 = some v23 ∧ w.cell? a24 = some v24 ∧ w.cell? a25 = some v25 ∧ w.cell? a26 = some v26 ∧ w.cell? a27 = some v27 ∧ w.cell? a28 = some v28 ∧ w.cell? a29 = some v29 ∧ w.cell? a30 = some v30 ∧ w.cell? a31 = some v31 ∧ w.cell? a32 = some v32 ∧ w.cell? a33 = some v33 ∧ w.cell? a34 = some v34 ∧ w.cell? a35 = some v35 ∧ w.cell? a36 = some v36 ∧ w.cell? a37 = some v37 ∧ Only [] w0 w) (ho : Only [] w w') : w'.cell? a0 = some v0 ∧ w'.cell? a1 = some v1 ∧ w'.cell? a2 = some v2 ∧ w'.cell? a3 = some v3 ∧ w'.cell? a4 = some v4 ∧ w'.cell? a5 = some v5 ∧ w'.cell? a6 = some v6 ∧ w'.cell? a7 = some v7 ∧ w'.cell? a8 = some v8 ∧ w'.cell? a9 = some v9 ∧ w'.cell? a10 = some v10 ∧ w'.cell? a11 = some v11 ∧ w'.cell? a12 = some v12 ∧ w'.cell? a13 = some v13 ∧ w'.cell? a14 = some v14 ∧ w'.cell? a15 = some v15 ∧ w'.cell? a16 = some v16 ∧ w'.cell? a17 = some v17 ∧ w'.cell? a18 = some v18 ∧ w'.cell? a19 = some v19 ∧ w'.cell? a20 = some v20 ∧ w'.cell? a21 = some v21 ∧ w'.cell? a22 = some v22 ∧ w'.cell? a23 = some v23 ∧ w'.cell? a24 = some v24 ∧ w'.cell? a25 = some v25 ∧ w'.cell? a26 = some v26 ∧ w'.cell? a27 = some v27 ∧ w'.cell? a28 = some v28 ∧ w'.cell? a29 = some v29 ∧ w'.cell? a30 = some v30 ∧ w'.cell? a31 = some v31 ∧ w'.cell? a32 = some v32 ∧ w'.cell? a33 = some v33 ∧ w'.cell? a34 = some v34 ∧ w'.cell? a35 = some v35 ∧ w'.cell? a36 = some v36 ∧ w'.cell? a37 = some v37 ∧ Only [] w0 w' :=
  ⟨keep1 h.1 ho, keep1 h.2.1 ho, keep1 h.2.2.1 ho, keep1 h.2.2.2.1 ho, keep1 h.2.2.2.2.1 ho, keep1 h.2.2.2.2.2.1 ho, keep1 h.2.2.2.2.2.2.1 ho, keep1 h.2.2.2.2.2.2.2.1 ho, keep1 h.2.2.2.2.2.2.2.2.1 ho, keep1 h.2.2.2.2.2.2.2.2.2.1 ho, keep1 h.2.2.2.2.2.2.2.2.2.2.1 ho, keep1 h.2.2.2.2.2.2.2.2.2.2.2.1 ho, keep1 h.2.2.2.2.2.2.2.2.2.2.2.2.1 ho, keep1 h.2.2.2.2.2.2.2.2.2.2.2.2.2.1 ho, keep1 h.2.2.2.2.2.2.2.2.2.2.2.2.2.2.1 ho, keep1 h.2.2.2.2.2.2.2.2.2.2.2.2.2.2.2.1 ho, keep1 h.2.2.2.2.2.2.2.2.2.2.2.2.2.2.2.2.1 ho, keep1 h.2.2.2.2.2.2.2.2.2.2.2.2.2.2.2.2.2.1 ho, keep1 h.2.2.2.2.2.2.2.2.2.2.2.2.2.2.2.2.2.2.1 ho, keep1 h.2.2.2.2.2.2.2.2.2.2.2.2.2.2.2.2.2.2.2.1 ho, keep1 h.2.2.2.2.2.2.2.2.2.2.2.2.2.2.2.2.2.2.2.2.1 ho, keep1 h.2.2.2.2.2.2.2.2.2.2.2.2.2.2.2.2.2.2.2.2.2.1 ho, keep1 h.2.2.2.2.2.2.2.2.2.2.2.2.2.2.2.2.2.2.2.2.2.2.1 ho, keep1 h.2.2.2.2.2.2.2.2.2.2.2.2.2.2.2.2.2.2.2.2.2.2.2.1 ho, keep1 h.2.2.2.2.2.2.2.2.2.2.2.2.2.2.2.2.2.2.2.2.2.2.2.2.1 ho, keep1 h.2.2.2.2.2.2.2.2.2.2.2.2.2.2.2.2.2.2.2.2.2.2.2.2.2.1 ho, keep1 h.2.2.2.2.2.2.2.2.2.2.2.2.2.2.2.2.2.2.2.2.2.2.2.2.2.2.1 ho, keep1 h.2.2.2.2.2.2.2.2.2.2.2.2.2.2.2.2.2.2.2.2.2.2.2.2.2.2.2.1 ho, keep1 h.2.2.2.2.2.2.2.2.2.2.2.2.2.2.2.2.2.2.2.2.2.2.2.2.2.2.2.2.1 ho, keep1 h.2.2.2.2.2.2.2.2.2.2.2.2.2.2.2.2.2.2.2.2.2.2.2.2.2.2.2.2.2.1 ho, keep1 h.2.2.2.2.2.2.2.2.2.2.2.2.2.2.2.2.2.2.2.2.2.2.2.2.2.2.2.2.2.2.1 ho, keep1 h.2.2.2.2.2.2.2.2.2.2.2.2.2.2.2.2.2.2.2.2.2.2.2.2.2.2.2.2.2.2.2.1 ho, keep1 h.2.2.2.2.2.2.2.2.2.2.2.2.2.2.2.2.2.2.2.2.2.2.2.2.2.2.2.2.2.2.2.2.1 ho, keep1 h.2.2.2.2.2.2.2.2.2.2.2.2.2.2.2.2.2.2.2.2.2.2.2.2.2.2.2.2.2.2.2.2.2.1 ho, keep1 h.2.2.2.2.2.2.2.2.2.2.2.2.2.2.2.2.2.2.2.2.2.2.2.2.2.2.2.2.2.2.2.2.2.2.1 ho, keep1 h.2.2.2.2.2.2.2.2.2.2.2.2.2.2.2.2.2.2.2.2.2.2.2.2.2.2.2.2.2.2.2.2.2.2.2.1 ho, keep1 h.2.2.2.2.2.2.2.2.2.2.2.2.2.2.2.2.2.2.2.2.2.2.2.2.2.2.2.2.2.2.2.2.2.2.2.2.1 ho, keep1 h.2.2.2.2.2.2.2.2.2.2.2.2.2.2.2.2.2.2.2.2.2.2.2.2.2.2.2.2.2.2.2.2.2.2.2.2.2.1 ho, h.2.2.2.2.2.2.2.2.2.2.2.2.2.2.2.2.2.2.2.2.2.2.2.2.2.2.2.2.2.2.2.2.2.2.2.2.2.2.trans ho (by simp)⟩

theorem keepM {w0 w w' : World} {a0 a1 a2 a3 a4 a5 a6 a7 a8 a9 a10 a11 a12 a13 a14 a15 a16 a17 : Addr} {v0 v1 v2 v3 v4 v5 v6 v7 v8 v9 v10 v11 v12 v13 v14 v15 v16 v17 : Value} (h : w.cell? a0 = some v0 ∧ w.cell? a1 = some v1 ∧ w.cell? a2 = some v2 ∧ w.cell? a3 = some v3 ∧ w.cell? a4 = some v4 ∧ w.cell? a5 = some v5 ∧ w.cell? a6 = some v6 ∧ w.cell? a7 = some v7 ∧ w.cell? a8 = some v8 ∧ w.cell? a9 = some v9 ∧ w.cell? a10 = some v10 ∧ w.cell? a11 = some v11 ∧ w.cell? a12 = some v12 ∧ w.cell? a13 = some v13 ∧ w.cell? a14 = some v14 ∧ w.cell? a15 = some v15 ∧ w.cell? a16 = some v16 ∧ w.cell? a17 = some v17 ∧ Only [] w0 w) (ho : Only [] w w') : w'.cell? a0 = some v0 ∧ w'.cell? a1 = some v1 ∧ w'.cell? a2 = some v2 ∧ w'.cell? a3 = some v3 ∧ w'.cell? a4 = some v4 ∧ w'.cell? a5 = some v5 ∧ w'.cell? a6 = some v6 ∧ w'.cell? a7 = some v7 ∧ w'.cell? a8 = some v8 ∧ w'.cell? a9 = some v9 ∧ w'.cell? a10 = some v10 ∧ w'.cell? a11 = some v11 ∧ w'.cell? a12 = some v12 ∧ w'.cell? a13 = some v13 ∧ w'.cell? a14 = some v14 ∧ w'.cell? a15 = some v15 ∧ w'.cell? a16 = some v16 ∧ w'.cell? a17 = some v17 ∧ Only [] w0 w' :=
  ⟨keep1 h.1 ho, keep1 h.2.1 ho, keep1 h.2.2.1 ho, keep1 h.2.2.2.1 ho, keep1 h.2.2.2.2.1 ho, keep1 h.2.2.2.2.2.1 ho, keep1 h.2.2.2.2.2.2.1 ho, keep1 h.2.2.2.2.2.2.2.1 ho, keep1 h.2.2.2.2.2.2.2.2.1 ho, keep1 h.2.2.2.2.2.2.2.2.2.1 ho, keep1 h.2.2.2.2.2.2.2.2.2.2.1 ho, keep1 h.2.2.2.2.2.2.2.2.2.2.2.1 ho, keep1 h.2.2.2.2.2.2.2.2.2.2.2.2.1 ho, keep1 h.2.2.2.2.2.2.2.2.2.2.2.2.2.1 ho, keep1 h.2.2.2.2.2.2.2.2.2.2.2.2.2.2.1 ho, keep1 h.2.2.2.2.2.2.2.2.2.2.2.2.2.2.2.1 ho, keep1 h.2.2.2.2.2.2.2.2.2.2.2.2.2.2.2.2.1 ho, keep1 h.2.2.2.2.2.2.2.2.2.2.2.2.2.2.2.2.2.1 ho, h.2.2.2.2.2.2.2.2.2.2.2.2.2.2.2.2.2.2.trans ho (by simp)⟩

set_option maxHeartbeats 8000000 in
set_option maxRecDepth 100000 in
theorem change_of (HSW : RSw) {w : World} (s t a b : Vt) (n : List UInt8) {ll ls ml ms : List Vt} {vl vs ul us : Value} (hl : Rd w vl ll) (hs : Rd w vs ls) (hm : Rd w ul ml) (hu : Rd w us ms) (hn : n.length ≤ 9223372036854775807) (b1 : ll.length ≤ 9223372036854775807) (b2 : ls.length ≤ 9223372036854775807) :
    Calls Tryz.prog 3 #[frV s vl vs, frV t ul us, .string (str n), vtV a, vtV b] w fun e w' => e = .returned (.bool true) ∧ Only [] w w' := by
  obtain ⟨ao, ac, rfl⟩ := hl.shape
  obtain ⟨so, sc, rfl⟩ := hs.shape
  obtain ⟨mo, mc, rfl⟩ := hm.shape
  obtain ⟨uo, uc, rfl⟩ := hu.shape
  have K0 := hid (lwB_new w s t a b (.slice ao ll.length ac) (.slice so ls.length sc) (.slice mo ml.length mc) (.slice uo ms.length uc))
  have HK := hid (Rn.known_any ((((w.alloc (.cells #[.int .i64 s.1, .int .i64 s.2.1, .string (str s.2.2.1), .int .i64 s.2.2.2, .slice ao ll.length ac, .slice so ls.length sc] 28)).alloc (.cells #[.int .i64 t.1, .int .i64 t.2.1, .string (str t.2.2.1), .int .i64 t.2.2.2, .slice mo ml.length mc, .slice uo ms.length uc] 28)).alloc (.cells #[.int .i64 a.1, .int .i64 a.2.1, .string (str a.2.2.1), .int .i64 a.2.2.2] 25)).alloc (.cells #[.int .i64 b.1, .int .i64 b.2.1, .string (str b.2.2.1), .int .i64 b.2.2.2] 25)))
  replace hl := hid hl
  replace hs := hid hs
  replace hm := hid hm
  replace hu := hid hu
  unfold vtV
  simp only [frV]
  go_enter Tryz.func3, Tryz.ntmps3
  go_wp2_with fail
  refine HK.out.mono ?_
  rintro e w1 ⟨rfl, bel⟩
  have K1 := hid (K0.out.zero (only_below bel))
  clear HK K0 bel
  obtain ⟨c0, c1, c2, c3, c4, c5, _⟩ := K1.out.f
  by_cases h200 : (200 : Int) < (ll.length : Int)
  · go_wp2_with fail
    go_ret
    exact ⟨rfl, K1.out.only⟩
  · by_cases h201 : (200 : Int) < (ls.length : Int)
    · go_wp2_with fail
      go_ret
      exact ⟨rfl, K1.out.only⟩
    · have HT := hid (rTwin_any s (hl.out.only0 K1.out.only) (hs.out.only0 K1.out.only) (by omega) (by omega))
      simp only [frV] at HT
      go_wp2_with fail
      refine HT.out.mono ?_
      rintro e w2 ⟨v1, v2, rfl, r1, r2, q2⟩
      obtain ⟨p1, k1, rfl⟩ := rows_slice r1
      obtain ⟨p2, k2, rfl⟩ := rows_slice r2
      clear HT c0 c1 c2 c3 c4 c5
      have t2 := (Only.refl [] w2).alloc (.cells #[.int .i64 s.1, .int .i64 s.2.1, .string (str s.2.2.1), .int .i64 s.2.2.2, .slice p1 ll.length k1, .slice p2 ls.length k2] 28)
      have K2 := hid (K1.out.zero (q2.trans t2 (by simp)))
      have M2 := hid (frB_new w2 s (.slice p1 ll.length k1) (.slice p2 ls.length k2) 28)
      have m1 := hid (r1.rd.only0 t2)
      have m2 := hid (r2.rd.only0 t2)
      clear r1 r2 q2 t2 K1
      have HX := hid (fSwap_any s a b m1.out m2.out (by omega) (by omega))
      obtain ⟨a0, a1, a2, a3⟩ := K2.out.fa
      obtain ⟨d0, d1, d2, d3⟩ := K2.out.fb
      simp only [Nat.zero_add] at a1 a2 a3 d1 d2 d3
      obtain ⟨z, hz⟩ : ∃ z, z = swV a b s := ⟨_, rfl⟩
      rw [← hz] at HX
      replace hz := hid hz
      unfold vtV at HX
      simp only [frV] at HX ⊢
      go_wp2_with fail
      refine HX.out.mono ?_
      rintro e w3 ⟨x1, x2, rfl, rx1, rx2, q3⟩
      clear HX a0 a1 a2 a3 d0 d1 d2 d3
      obtain ⟨p3, k3, rfl⟩ := rx1.shape
      obtain ⟨p4, k4, rfl⟩ := rx2.shape
      simp only [List.length_map] at rx1 rx2 ⊢
      have t3 := (Only.refl [] w3).alloc (.cells #[.int .i64 z.1, .int .i64 z.2.1, .string (str z.2.2.1), .int .i64 z.2.2.2, .slice p3 ll.length k3, .slice p4 ls.length k4] 28)
      have o3 := q3.trans t3 (by simp)
      have K3 := hid (K2.out.zero o3)
      have M3 := hid (M2.out.only o3 (by simp))
      have X3 := hid (frB_new w3 z (.slice p3 ll.length k3) (.slice p4 ls.length k4) 28)
      have m13 := hid (m1.out.only0 o3)
      have m23 := hid (m2.out.only0 o3)
      have x13 := hid (rx1.only0 t3)
      have x23 := hid (rx2.only0 t3)
      clear K2 M2 m1 m2 rx1 rx2 q3 t3 o3
      have HY := hid (fTwin_any s m13.out m23.out (by omega) (by omega))
      obtain ⟨c0, c1, c2, c3, c4, c5, _⟩ := M3.out
      simp only [frV] at HY ⊢
      go_wp2_with fail
      refine HY.out.mono ?_
      rintro e w4 ⟨y1, y2, rfl, ry1, ry2, _, q4⟩
      clear HY c0 c1 c2 c3 c4 c5
      obtain ⟨p5, k5, rfl⟩ := rows_slice ry1
      obtain ⟨p6, k6, rfl⟩ := rows_slice ry2
      simp only [frV]
      have t4 := (Only.refl [] w4).alloc (.cells #[.int .i64 s.1, .int .i64 s.2.1, .string (str s.2.2.1), .int .i64 s.2.2.2, .slice p5 ll.length k5, .slice p6 ls.length k6] 28)
      have o4 := q4.trans t4 (by simp)
      have K4 := hid (K3.out.zero o4)
      have M4 := hid (M3.out.only o4 (by simp))
      have X4 := hid (X3.out.only o4 (by simp))
      have Y4 := hid (frB_new w4 s (.slice p5 ll.length k5) (.slice p6 ls.length k6) 28)
      have m14 := hid (m13.out.only0 o4)
      have m24 := hid (m23.out.only0 o4)
      have x14 := hid (x13.out.only0 o4)
      have x24 := hid (x23.out.only0 o4)
      have y14 := hid (ry1.rd.only0 t4)
      have y24 := hid (ry2.rd.only0 t4)
      clear K3 M3 X3 m13 m23 x13 x23 ry1 ry2 q4 t4 o4
      obtain ⟨A, hA⟩ : ∃ A, A = (w4.alloc (.cells #[.int .i64 s.1, .int .i64 s.2.1, .string (str s.2.2.1), .int .i64 s.2.2.2, .slice p5 ll.length k5, .slice p6 ls.length k6] 28)) := ⟨_, rfl⟩
      rw [← hA] at K4 M4 X4 Y4 m14 m24 x14 x24 y14 y24
      have S0 : Hid ((fun w' => w'.cell? ⟨w.heap.size, 0, none⟩ = some (.int .i64 s.1) ∧ w'.cell? ⟨w.heap.size, 1, none⟩ = some (.int .i64 s.2.1) ∧ w'.cell? ⟨w.heap.size, 2, none⟩ = some (.string (str s.2.2.1)) ∧ w'.cell? ⟨w.heap.size, 3, none⟩ = some (.int .i64 s.2.2.2) ∧ w'.cell? ⟨w.heap.size, 4, none⟩ = some ((.slice ao ll.length ac)) ∧ w'.cell? ⟨w.heap.size, 5, none⟩ = some ((.slice so ls.length sc)) ∧ w'.cell? ⟨(w.heap.size + 1), 0, none⟩ = some (.int .i64 t.1) ∧ w'.cell? ⟨(w.heap.size + 1), 1, none⟩ = some (.int .i64 t.2.1) ∧ w'.cell? ⟨(w.heap.size + 1), 2, none⟩ = some (.string (str t.2.2.1)) ∧ w'.cell? ⟨(w.heap.size + 1), 3, none⟩ = some (.int .i64 t.2.2.2) ∧ w'.cell? ⟨(w.heap.size + 1), 4, none⟩ = some ((.slice mo ml.length mc)) ∧ w'.cell? ⟨(w.heap.size + 1), 5, none⟩ = some ((.slice uo ms.length uc)) ∧ w'.cell? ⟨w2.heap.size, 0, none⟩ = some (.int .i64 s.1) ∧ w'.cell? ⟨w2.heap.size, 1, none⟩ = some (.int .i64 s.2.1) ∧ w'.cell? ⟨w2.heap.size, 2, none⟩ = some (.string (str s.2.2.1)) ∧ w'.cell? ⟨w2.heap.size, 3, none⟩ = some (.int .i64 s.2.2.2) ∧ w'.cell? ⟨w2.heap.size, 4, none⟩ = some ((.slice p1 ll.length k1)) ∧ w'.cell? ⟨w2.heap.size, 5, none⟩ = some ((.slice p2 ls.length k2)) ∧ w'.cell? ⟨w3.heap.size, 0, none⟩ = some (.int .i64 z.1) ∧ w'.cell? ⟨w3.heap.size, 1, none⟩ = some (.int .i64 z.2.1) ∧ w'.cell? ⟨w3.heap.size, 2, none⟩ = some (.string (str z.2.2.1)) ∧ w'.cell? ⟨w3.heap.size, 3, none⟩ = some (.int .i64 z.2.2.2) ∧ w'.cell? ⟨w3.heap.size, 4, none⟩ = some ((.slice p3 ll.length k3)) ∧ w'.cell? ⟨w3.heap.size, 5, none⟩ = some ((.slice p4 ls.length k4)) ∧ w'.cell? ⟨w4.heap.size, 0, none⟩ = some (.int .i64 s.1) ∧ w'.cell? ⟨w4.heap.size, 1, none⟩ = some (.int .i64 s.2.1) ∧ w'.cell? ⟨w4.heap.size, 2, none⟩ = some (.string (str s.2.2.1)) ∧ w'.cell? ⟨w4.heap.size, 3, none⟩ = some (.int .i64 s.2.2.2) ∧ w'.cell? ⟨w4.heap.size, 4, none⟩ = some ((.slice p5 ll.length k5)) ∧ w'.cell? ⟨w4.heap.size, 5, none⟩ = some ((.slice p6 ls.length k6)) ∧ w'.cell? ⟨(w.heap.size + 2), 0, none⟩ = some (.int .i64 a.1) ∧ w'.cell? ⟨(w.heap.size + 2), 1, none⟩ = some (.int .i64 a.2.1) ∧ w'.cell? ⟨(w.heap.size + 2), 2, none⟩ = some (.string (str a.2.2.1)) ∧ w'.cell? ⟨(w.heap.size + 2), 3, none⟩ = some (.int .i64 a.2.2.2) ∧ w'.cell? ⟨(w.heap.size + 3), 0, none⟩ = some (.int .i64 b.1) ∧ w'.cell? ⟨(w.heap.size + 3), 1, none⟩ = some (.int .i64 b.2.1) ∧ w'.cell? ⟨(w.heap.size + 3), 2, none⟩ = some (.string (str b.2.2.1)) ∧ w'.cell? ⟨(w.heap.size + 3), 3, none⟩ = some (.int .i64 b.2.2.2) ∧ Only [] A w') A) := hid ⟨K4.out.f.c0, K4.out.f.c1, K4.out.f.c2, K4.out.f.c3, K4.out.f.c4, K4.out.f.c5, K4.out.g.c0, K4.out.g.c1, K4.out.g.c2, K4.out.g.c3, K4.out.g.c4, K4.out.g.c5, M4.out.c0, M4.out.c1, M4.out.c2, M4.out.c3, M4.out.c4, M4.out.c5, X4.out.c0, X4.out.c1, X4.out.c2, X4.out.c3, X4.out.c4, X4.out.c5, Y4.out.c0, Y4.out.c1, Y4.out.c2, Y4.out.c3, Y4.out.c4, Y4.out.c5, K4.out.fa.c0, K4.out.fa.c1, K4.out.fa.c2, K4.out.fa.c3, K4.out.fb.c0, K4.out.fb.c1, K4.out.fb.c2, K4.out.fb.c3, Only.refl [] _⟩
      have fl := fun W (hW : Only [] A W) => hl.out.only0 (K4.out.only.trans hW (by simp))
      have fs := fun W (hW : Only [] A W) => hs.out.only0 (K4.out.only.trans hW (by simp))
      have gl := fun W (hW : Only [] A W) => hm.out.only0 (K4.out.only.trans hW (by simp))
      have gs := fun W (hW : Only [] A W) => hu.out.only0 (K4.out.only.trans hW (by simp))
      obtain ⟨Q, hQ⟩ : ∃ Q, Q = sameF s t ll ml ls ms := ⟨_, rfl⟩
      have C1 := fun W (hW : Only [] A W) => fSame_any s t (m14.out.only0 hW) (m24.out.only0 hW) (gl W hW) (gs W hW) b1 b2
      have C2 := fun W (hW : Only [] A W) => rSame_any s t (fl W hW) (fs W hW) (gl W hW) (gs W hW) b1 b2
      have C3 := fReached_any s p1 p2 ll.length ls.length k1 k2
      have C4 := rReached_any s ao so ll.length ls.length ac sc
      have C5 := fun W (hW : Only [] A W) => HSW s a b (fl W hW) (fs W hW) (by omega) (by omega)
      have C6 := fun W (hW : Only [] A W) (r1 r2 : Value) (h1 : Rd W r1 (ll.map (swV a b))) (h2 : Rd W r2 (ls.map (swV a b))) => rSame_any z z (x14.out.only0 hW) (x24.out.only0 hW) h1 h2 (by simp; omega) (by simp; omega)
      have C7 := fun W (hW : Only [] A W) => rSame_any s s (y14.out.only0 hW) (y24.out.only0 hW) (fl W hW) (fs W hW) b1 b2
      have C8 := fun W (hW : Only [] A W) => rSame_any s s (m14.out.only0 hW) (m24.out.only0 hW) (fl W hW) (fs W hW) b1 b2
      rw [← hQ] at C1 C2
      simp only [sameF_self] at C6 C7 C8
      rw [← hz.out] at C5
      clear hQ fl fs gl gs
      unfold vtV at C5
      simp only [frV] at C1 C2 C3 C4 C5 C6 C7 C8
      replace C1 := hid C1
      replace C2 := hid C2
      replace C3 := hid C3
      replace C4 := hid C4
      replace C5 := hid C5
      replace C6 := hid C6
      replace C7 := hid C7
      replace C8 := hid C8
      subst hA
      go_upto_region 8 with fail
      go_region_held3 (fun w' => w'.cell? ⟨w.heap.size, 0, none⟩ = some (.int .i64 s.1) ∧ w'.cell? ⟨w.heap.size, 1, none⟩ = some (.int .i64 s.2.1) ∧ w'.cell? ⟨w.heap.size, 2, none⟩ = some (.string (str s.2.2.1)) ∧ w'.cell? ⟨w.heap.size, 3, none⟩ = some (.int .i64 s.2.2.2) ∧ w'.cell? ⟨w.heap.size, 4, none⟩ = some ((.slice ao ll.length ac)) ∧ w'.cell? ⟨w.heap.size, 5, none⟩ = some ((.slice so ls.length sc)) ∧ w'.cell? ⟨(w.heap.size + 1), 0, none⟩ = some (.int .i64 t.1) ∧ w'.cell? ⟨(w.heap.size + 1), 1, none⟩ = some (.int .i64 t.2.1) ∧ w'.cell? ⟨(w.heap.size + 1), 2, none⟩ = some (.string (str t.2.2.1)) ∧ w'.cell? ⟨(w.heap.size + 1), 3, none⟩ = some (.int .i64 t.2.2.2) ∧ w'.cell? ⟨(w.heap.size + 1), 4, none⟩ = some ((.slice mo ml.length mc)) ∧ w'.cell? ⟨(w.heap.size + 1), 5, none⟩ = some ((.slice uo ms.length uc)) ∧ w'.cell? ⟨w2.heap.size, 0, none⟩ = some (.int .i64 s.1) ∧ w'.cell? ⟨w2.heap.size, 1, none⟩ = some (.int .i64 s.2.1) ∧ w'.cell? ⟨w2.heap.size, 2, none⟩ = some (.string (str s.2.2.1)) ∧ w'.cell? ⟨w2.heap.size, 3, none⟩ = some (.int .i64 s.2.2.2) ∧ w'.cell? ⟨w2.heap.size, 4, none⟩ = some ((.slice p1 ll.length k1)) ∧ w'.cell? ⟨w2.heap.size, 5, none⟩ = some ((.slice p2 ls.length k2)) ∧ w'.cell? ⟨w3.heap.size, 0, none⟩ = some (.int .i64 z.1) ∧ w'.cell? ⟨w3.heap.size, 1, none⟩ = some (.int .i64 z.2.1) ∧ w'.cell? ⟨w3.heap.size, 2, none⟩ = some (.string (str z.2.2.1)) ∧ w'.cell? ⟨w3.heap.size, 3, none⟩ = some (.int .i64 z.2.2.2) ∧ w'.cell? ⟨w3.heap.size, 4, none⟩ = some ((.slice p3 ll.length k3)) ∧ w'.cell? ⟨w3.heap.size, 5, none⟩ = some ((.slice p4 ls.length k4)) ∧ w'.cell? ⟨w4.heap.size, 0, none⟩ = some (.int .i64 s.1) ∧ w'.cell? ⟨w4.heap.size, 1, none⟩ = some (.int .i64 s.2.1) ∧ w'.cell? ⟨w4.heap.size, 2, none⟩ = some (.string (str s.2.2.1)) ∧ w'.cell? ⟨w4.heap.size, 3, none⟩ = some (.int .i64 s.2.2.2) ∧ w'.cell? ⟨w4.heap.size, 4, none⟩ = some ((.slice p5 ll.length k5)) ∧ w'.cell? ⟨w4.heap.size, 5, none⟩ = some ((.slice p6 ls.length k6)) ∧ w'.cell? ⟨(w.heap.size + 2), 0, none⟩ = some (.int .i64 a.1) ∧ w'.cell? ⟨(w.heap.size + 2), 1, none⟩ = some (.int .i64 a.2.1) ∧ w'.cell? ⟨(w.heap.size + 2), 2, none⟩ = some (.string (str a.2.2.1)) ∧ w'.cell? ⟨(w.heap.size + 2), 3, none⟩ = some (.int .i64 a.2.2.2) ∧ w'.cell? ⟨(w.heap.size + 3), 0, none⟩ = some (.int .i64 b.1) ∧ w'.cell? ⟨(w.heap.size + 3), 1, none⟩ = some (.int .i64 b.2.1) ∧ w'.cell? ⟨(w.heap.size + 3), 2, none⟩ = some (.string (str b.2.2.1)) ∧ w'.cell? ⟨(w.heap.size + 3), 3, none⟩ = some (.int .i64 b.2.2.2) ∧ Only [] (w4.alloc (.cells #[.int .i64 s.1, .int .i64 s.2.1, .string (str s.2.2.1), .int .i64 s.2.2.2, .slice p5 ll.length k5, .slice p6 ls.length k6] 28)) w')
        (first | assumption | exact S0.out | exact keepL S0.out ((Only.refl [] _).drew) | exact keepL (by assumption) (by assumption))
        (first
          | (go_at_call 8; (with_reducible refine (C1.out _ ?_).mono ?_); (simp [*]); rintro e u1 ⟨rfl, g1⟩)
          | (go_at_call 9; (with_reducible refine (C2.out _ ?_).mono ?_); (simp [*]); rintro e u2 ⟨rfl, g2⟩)
          | (go_at_call 10; (with_reducible refine (C3.out _).mono ?_); rintro e u3 ⟨rfl, g3⟩)
          | (go_at_call 11; (with_reducible refine (C4.out _).mono ?_); rintro e u4 ⟨rfl, g4⟩)
          | (go_at_call 12; (with_reducible refine (C5.out _ ?_).mono ?_); (simp [*]); rintro e u5 ⟨z1, z2, rfl, hz1, hz2, g5⟩; obtain ⟨p7, k7, rfl⟩ := hz1.shape; obtain ⟨p8, k8, rfl⟩ := hz2.shape; simp only [frV, List.length_map])
          | (go_at_call 9; (with_reducible refine (C6.out _ ?_ (.slice p7 ll.length k7) (.slice p8 ls.length k8) ?_ ?_).mono ?_); (simp [*]); (simpa using hz1); (simpa using hz2); rintro e u6 ⟨rfl, g6⟩)
          | (go_at_call 9; (with_reducible refine (C7.out _ ?_).mono ?_); (simp [*]); rintro e u7 ⟨rfl, g7⟩)
          | (go_at_call 9; (with_reducible refine (C8.out _ ?_).mono ?_); (simp [*]); rintro e u8 ⟨rfl, g8⟩))
      rename_i hS
      have hO := hS.2.2.2.2.2.2.2.2.2.2.2.2.2.2.2.2.2.2.2.2.2.2.2.2.2.2.2.2.2.2.2.2.2.2.2.2.2.2
      clear C1 C2 C3 C4 C5 C6 C7 C8 S0 g1 g2 g3 g4 g5 g6 g7 g8 hS hz1 hz2
      have K5 := hid (K4.out.zero hO)
      have M5 := hid (M4.out.only hO (by simp))
      have m15 := hid (m14.out.only0 hO)
      have m25 := hid (m24.out.only0 hO)
      clear hO K4 M4 X4 Y4 m14 m24 x14 x24 y14 y24
      obtain ⟨c0, c1, c2, c3, c4, c5, _⟩ := M5.out
      have HC := hid (fCatch_any s n m15.out m25.out (by omega))
      obtain ⟨cf, hcf⟩ : ∃ cf, cf = catchF s ll n := ⟨_, rfl⟩
      rw [← hcf] at HC
      replace hcf := hid hcf
      obtain ⟨cs, cl, ck⟩ := cf
      simp only [frV] at HC
      go_wp2_with fail
      refine HC.out.mono ?_
      rintro e w6 ⟨z1, z2, rfl, rz1, rz2, q6⟩
      clear HC c0 c1 c2 c3 c4 c5
      obtain ⟨p7, k7, rfl⟩ := rz1.shape
      obtain ⟨p8, k8, rfl⟩ := rz2.shape
      simp only [frV]
      have t6 := (Only.refl [] w6).alloc (.cells #[.int .i64 cs.1, .int .i64 cs.2.1, .string (str cs.2.2.1), .int .i64 cs.2.2.2, .slice p7 cl.length k7, .slice p8 ck.length k8] 28)
      have o6 := q6.trans t6 (by simp)
      have K6 := hid (K5.out.zero o6)
      have M6 := hid (M5.out.only o6 (by simp))
      have Z6 := hid (frB_new w6 cs (.slice p7 cl.length k7) (.slice p8 ck.length k8) 28)
      have m16 := hid (m15.out.only0 o6)
      have m26 := hid (m25.out.only0 o6)
      have z16 := hid (rz1.only0 t6)
      have z26 := hid (rz2.only0 t6)
      clear K5 M5 m15 m25 rz1 rz2 q6 t6 o6
      have HN := hid (rname_any n hn)
      go_wp2_with fail
      refine (HN.out _).mono ?_
      rintro e w7 ⟨rfl, rfl⟩
      clear HN
      obtain ⟨A, hA⟩ : ∃ A, A = (w6.alloc (.cells #[.int .i64 cs.1, .int .i64 cs.2.1, .string (str cs.2.2.1), .int .i64 cs.2.2.2, .slice p7 cl.length k7, .slice p8 ck.length k8] 28)) := ⟨_, rfl⟩
      rw [← hA] at K6 M6 Z6 m16 m26 z16 z26
      have S0 : Hid ((fun w' => w'.cell? ⟨w.heap.size, 0, none⟩ = some (.int .i64 s.1) ∧ w'.cell? ⟨w.heap.size, 1, none⟩ = some (.int .i64 s.2.1) ∧ w'.cell? ⟨w.heap.size, 2, none⟩ = some (.string (str s.2.2.1)) ∧ w'.cell? ⟨w.heap.size, 3, none⟩ = some (.int .i64 s.2.2.2) ∧ w'.cell? ⟨w.heap.size, 4, none⟩ = some ((.slice ao ll.length ac)) ∧ w'.cell? ⟨w.heap.size, 5, none⟩ = some ((.slice so ls.length sc)) ∧ w'.cell? ⟨w2.heap.size, 0, none⟩ = some (.int .i64 s.1) ∧ w'.cell? ⟨w2.heap.size, 1, none⟩ = some (.int .i64 s.2.1) ∧ w'.cell? ⟨w2.heap.size, 2, none⟩ = some (.string (str s.2.2.1)) ∧ w'.cell? ⟨w2.heap.size, 3, none⟩ = some (.int .i64 s.2.2.2) ∧ w'.cell? ⟨w2.heap.size, 4, none⟩ = some ((.slice p1 ll.length k1)) ∧ w'.cell? ⟨w2.heap.size, 5, none⟩ = some ((.slice p2 ls.length k2)) ∧ w'.cell? ⟨w6.heap.size, 0, none⟩ = some (.int .i64 cs.1) ∧ w'.cell? ⟨w6.heap.size, 1, none⟩ = some (.int .i64 cs.2.1) ∧ w'.cell? ⟨w6.heap.size, 2, none⟩ = some (.string (str cs.2.2.1)) ∧ w'.cell? ⟨w6.heap.size, 3, none⟩ = some (.int .i64 cs.2.2.2) ∧ w'.cell? ⟨w6.heap.size, 4, none⟩ = some ((.slice p7 cl.length k7)) ∧ w'.cell? ⟨w6.heap.size, 5, none⟩ = some ((.slice p8 ck.length k8)) ∧ Only [] A w') A) := hid ⟨K6.out.f.c0, K6.out.f.c1, K6.out.f.c2, K6.out.f.c3, K6.out.f.c4, K6.out.f.c5, M6.out.c0, M6.out.c1, M6.out.c2, M6.out.c3, M6.out.c4, M6.out.c5, Z6.out.c0, Z6.out.c1, Z6.out.c2, Z6.out.c3, Z6.out.c4, Z6.out.c5, Only.refl [] _⟩
      have fl := hid (fun W (hW : Only [] A W) => hl.out.only0 (K6.out.only.trans hW (by simp)))
      have fs := hid (fun W (hW : Only [] A W) => hs.out.only0 (K6.out.only.trans hW (by simp)))
      have D8 := fun W (hW : Only [] A W) => rSame_any s s (m16.out.only0 hW) (m26.out.only0 hW) (fl.out W hW) (fs.out W hW) b1 b2
      simp only [sameF_self] at D8
      simp only [frV] at D8
      replace D8 := hid D8
      have hcl : cl.length ≤ 9223372036854775807 := by
        have h := hcf.out
        unfold catchF at h
        split at h <;> simp only [Prod.mk.injEq] at h <;> obtain ⟨_, rfl, _⟩ := h <;> simp <;> omega
      have hck : ck.length ≤ 9223372036854775807 := by
        have h := hcf.out
        unfold catchF at h
        split at h <;> simp only [Prod.mk.injEq] at h <;> obtain ⟨_, _, rfl⟩ := h <;> simp
      replace hcl := hid hcl
      replace hck := hid hck
      cases hnm : nameOK n with
      | false =>
        obtain ⟨c0, c1, c2, c3, c4, c5, _⟩ := M6.out
        obtain ⟨d0, d1, d2, d3, d4, d5, _⟩ := K6.out.f
        clear hnm S0 fl fs
        have KO := hid K6.out.only
        subst hA
        go_wp2_with (go_at_call 9; (with_reducible refine (D8.out _ (Only.refl [] _)).mono ?_); rintro e u8 ⟨rfl, g8⟩)
        go_ret
        exact ⟨rfl, KO.out.trans g8 (by simp)⟩
      | true =>
        have D4 := hid (rReached_any s ao so ll.length ls.length ac sc)
        simp only [frV] at D4
        have KO := hid K6.out.only
        by_cases h0 : s.1 = 0
        · have hb : (s.1 != 0) = false := by simp [h0]
          rw [hb] at D4
          have e1 : ((cs, cl, ck) : Fr) = ((0, 0, [], 0), [], []) := hcf.out.trans (if_pos h0)
          have e2 : sameF cs (0, 0, [], 0) cl [] ck [] = true := by simp only [Prod.mk.injEq] at e1; obtain ⟨q1, q2, q3⟩ := e1; simp [sameF, q1, q2, q3]
          have D5 := fun W (hW : Only [] A W) => rSame_any cs (0, 0, [], 0) (z16.out.only0 hW) (z26.out.only0 hW) (rd_nil W) (rd_nil W) hcl.out hck.out
          simp only [e2] at D5
          simp only [frV, show str [] = ⟨#[]⟩ from rfl] at D5
          replace D5 := hid D5
          clear hnm hb h0 hcf fl fs e1 e2
          rw [← hA]
          clear hA
          obtain ⟨s0_, s1_, s2_, s3_, s4_, s5_, s6_, s7_, s8_, s9_, s10_, s11_, s12_, s13_, s14_, s15_, s16_, s17_, -⟩ := S0.out
          go_upto_region 12 with fail
          clear s0_ s1_ s2_ s3_ s4_ s5_ s6_ s7_ s8_ s9_ s10_ s11_ s12_ s13_ s14_ s15_ s16_ s17_
          refine wp_region_held_drew (S := (fun w' => w'.cell? ⟨w.heap.size, 0, none⟩ = some (.int .i64 s.1) ∧ w'.cell? ⟨w.heap.size, 1, none⟩ = some (.int .i64 s.2.1) ∧ w'.cell? ⟨w.heap.size, 2, none⟩ = some (.string (str s.2.2.1)) ∧ w'.cell? ⟨w.heap.size, 3, none⟩ = some (.int .i64 s.2.2.2) ∧ w'.cell? ⟨w.heap.size, 4, none⟩ = some ((.slice ao ll.length ac)) ∧ w'.cell? ⟨w.heap.size, 5, none⟩ = some ((.slice so ls.length sc)) ∧ w'.cell? ⟨w2.heap.size, 0, none⟩ = some (.int .i64 s.1) ∧ w'.cell? ⟨w2.heap.size, 1, none⟩ = some (.int .i64 s.2.1) ∧ w'.cell? ⟨w2.heap.size, 2, none⟩ = some (.string (str s.2.2.1)) ∧ w'.cell? ⟨w2.heap.size, 3, none⟩ = some (.int .i64 s.2.2.2) ∧ w'.cell? ⟨w2.heap.size, 4, none⟩ = some ((.slice p1 ll.length k1)) ∧ w'.cell? ⟨w2.heap.size, 5, none⟩ = some ((.slice p2 ls.length k2)) ∧ w'.cell? ⟨w6.heap.size, 0, none⟩ = some (.int .i64 cs.1) ∧ w'.cell? ⟨w6.heap.size, 1, none⟩ = some (.int .i64 cs.2.1) ∧ w'.cell? ⟨w6.heap.size, 2, none⟩ = some (.string (str cs.2.2.1)) ∧ w'.cell? ⟨w6.heap.size, 3, none⟩ = some (.int .i64 cs.2.2.2) ∧ w'.cell? ⟨w6.heap.size, 4, none⟩ = some ((.slice p7 cl.length k7)) ∧ w'.cell? ⟨w6.heap.size, 5, none⟩ = some ((.slice p8 ck.length k8)) ∧ Only [] A w')) (by kernel_rfl) ?hSq1 (fun hHeld => ?restq1)
          case hSq1 => exact keepM S0.out ((Only.refl [] _).drew)
          replace S0 := hid (keepM S0.out ((Only.refl [] A).drew))
          have O0 := hid (S0.out.2.2.2.2.2.2.2.2.2.2.2.2.2.2.2.2.2.2)
          refine wpAnyH_take (i := 0) (v := ?vq2) rfl (by kernel_rfl) (by kernel_rfl) (by kernel_rfl) (fun _ _ _ h => h) (Or.inl ⟨by kernel_rfl, ?hyq2⟩) (by assumption) ?restq2
          case hyq2 =>
            intro w hSw
            try dsimp only at hSw
            go_simp
            try with_reducible rfl
          refine wpAnyH_take (i := 1) (v := ?vq3) rfl (by kernel_rfl) (by kernel_rfl) (by kernel_rfl) (fun _ _ _ h => h) (Or.inl ⟨by kernel_rfl, ?hyq3⟩) (by assumption) ?restq3
          case hyq3 =>
            intro w hSw
            try dsimp only at hSw
            go_simp
            try with_reducible rfl
          refine wpAnyH_take (i := 2) (v := ?vq4) rfl (by kernel_rfl) (by kernel_rfl) (by kernel_rfl) (fun _ _ _ h => h) (Or.inl ⟨by kernel_rfl, ?hyq4⟩) (by assumption) ?restq4
          case hyq4 =>
            intro w hSw
            try dsimp only at hSw
            go_simp
            try with_reducible rfl
          refine wpAnyH_ready (rs := [3]) (by kernel_rfl) (by simp) ?_
          refine AllReadyH.cons rfl (fun K hK => ?_) AllReadyH.nil
          go_simp
          go_at_call 11
          refine (D4.out _).mono ?_
          rintro e u1 ⟨rfl, g1⟩
          have S1 := hid (keepM S0.out g1)
          have O1 := hid (S1.out.2.2.2.2.2.2.2.2.2.2.2.2.2.2.2.2.2.2)
          clear g1
          go_wp2_with fail
          refine hK.out _ _ ?hSq5 (fun hHeld => ?restq5)
          case hSq5 => exact S1.out
          clear hK K hHeld
          refine wpAnyH_take (i := 4) (v := ?vq6) rfl (by kernel_rfl) (by kernel_rfl) (by kernel_rfl) (fun _ _ _ h => h) (Or.inl ⟨by kernel_rfl, ?hyq6⟩) (by assumption) ?restq6
          case hyq6 =>
            intro w hSw
            try dsimp only at hSw
            go_simp
            try with_reducible rfl
          refine wpAnyH_take (i := 5) (v := ?vq7) rfl (by kernel_rfl) (by kernel_rfl) (by kernel_rfl) (fun _ _ _ h => h) (Or.inl ⟨by kernel_rfl, ?hyq7⟩) (by assumption) ?restq7
          case hyq7 =>
            intro w hSw
            try dsimp only at hSw
            go_simp
            try with_reducible rfl
          refine wpAnyH_take (i := 6) (v := ?vq8) rfl (by kernel_rfl) (by kernel_rfl) (by kernel_rfl) (fun _ _ _ h => h) (Or.inl ⟨by kernel_rfl, ?hyq8⟩) (by assumption) ?restq8
          case hyq8 =>
            intro w hSw
            try dsimp only at hSw
            go_simp
            try with_reducible rfl
          refine wpAnyH_take (i := 7) (v := ?vq9) rfl (by kernel_rfl) (by kernel_rfl) (by kernel_rfl) (fun _ _ _ h => h) (Or.inl ⟨by kernel_rfl, ?hyq9⟩) (by assumption) ?restq9
          case hyq9 =>
            intro w hSw
            try dsimp only at hSw
            go_simp
            try with_reducible rfl
          refine wpAnyH_ready (rs := [8]) (by kernel_rfl) (by simp) ?_
          refine AllReadyH.cons rfl (fun K hK => ?_) AllReadyH.nil
          go_simp
          go_at_call 9
          refine (D5.out _ O1.out).mono ?_
          rintro e u2 ⟨rfl, g2⟩
          have S2 := hid (keepM S1.out g2)
          have O2 := hid (S2.out.2.2.2.2.2.2.2.2.2.2.2.2.2.2.2.2.2.2)
          clear g2
          go_wp2_with fail
          refine hK.out _ _ ?hSq10 (fun hHeld => ?restq10)
          case hSq10 => exact S2.out
          clear hK K hHeld
          refine wpAnyH_take (i := 9) (v := ?vq11) rfl (by kernel_rfl) (by kernel_rfl) (by kernel_rfl) (fun _ _ _ h => h) (Or.inl ⟨by kernel_rfl, ?hyq11⟩) (by assumption) ?restq11
          case hyq11 =>
            intro w hSw
            try dsimp only at hSw
            go_simp
            try with_reducible rfl
          refine wpAnyH_take (i := 10) (v := ?vq12) rfl (by kernel_rfl) (by kernel_rfl) (by kernel_rfl) (fun _ _ _ h => h) (Or.inl ⟨by kernel_rfl, ?hyq12⟩) (by assumption) ?restq12
          case hyq12 =>
            intro w hSw
            try dsimp only at hSw
            go_simp
            try with_reducible rfl
          refine wpAnyH_take (i := 11) (v := undef) rfl (by kernel_rfl) (by kernel_rfl) (by kernel_rfl) (fun _ _ _ h => h) (Or.inr ⟨by kernel_rfl, rfl⟩) (by assumption) ?_
          refine wpAnyH_take (i := 12) (v := undef) rfl (by kernel_rfl) (by kernel_rfl) (by kernel_rfl) (fun _ _ _ h => h) (Or.inr ⟨by kernel_rfl, rfl⟩) (by assumption) ?_
          refine wpAnyH_take (i := 13) (v := undef) rfl (by kernel_rfl) (by kernel_rfl) (by kernel_rfl) (fun _ _ _ h => h) (Or.inr ⟨by kernel_rfl, rfl⟩) (by assumption) ?_
          refine wpAnyH_take (i := 14) (v := undef) rfl (by kernel_rfl) (by kernel_rfl) (by kernel_rfl) (fun _ _ _ h => h) (Or.inr ⟨by kernel_rfl, rfl⟩) (by assumption) ?_
          refine wpAnyH_take (i := 15) (v := undef) rfl (by kernel_rfl) (by kernel_rfl) (by kernel_rfl) (fun _ _ _ h => h) (Or.inr ⟨by kernel_rfl, rfl⟩) (by assumption) ?_
          refine wpAnyH_take (i := 16) (v := undef) rfl (by kernel_rfl) (by kernel_rfl) (by kernel_rfl) (fun _ _ _ h => h) (Or.inr ⟨by kernel_rfl, rfl⟩) (by assumption) ?_
          refine wpAnyH_take (i := 17) (v := undef) rfl (by kernel_rfl) (by kernel_rfl) (by kernel_rfl) (fun _ _ _ h => h) (Or.inr ⟨by kernel_rfl, rfl⟩) (by assumption) ?_
          refine wpAnyH_take (i := 18) (v := undef) rfl (by kernel_rfl) (by kernel_rfl) (by kernel_rfl) (fun _ _ _ h => h) (Or.inr ⟨by kernel_rfl, rfl⟩) (by assumption) ?_
          refine wpAnyH_take (i := 19) (v := undef) rfl (by kernel_rfl) (by kernel_rfl) (by kernel_rfl) (fun _ _ _ h => h) (Or.inr ⟨by kernel_rfl, rfl⟩) (by assumption) ?_
          refine wpAnyH_take (i := 20) (v := ?vq13) rfl (by kernel_rfl) (by kernel_rfl) (by kernel_rfl) (fun _ _ _ h => h) (Or.inl ⟨by kernel_rfl, ?hyq13⟩) (by assumption) ?restq13
          case hyq13 =>
            intro w hSw
            try dsimp only at hSw
            go_simp
            try with_reducible rfl
          refine wpAnyH_take (i := 21) (v := ?vq14) rfl (by kernel_rfl) (by kernel_rfl) (by kernel_rfl) (fun _ _ _ h => h) (Or.inl ⟨by kernel_rfl, ?hyq14⟩) (by assumption) ?restq14
          case hyq14 =>
            intro w hSw
            try dsimp only at hSw
            go_simp
            try with_reducible rfl
          refine wpAnyH_take (i := 22) (v := ?vq15) rfl (by kernel_rfl) (by kernel_rfl) (by kernel_rfl) (fun _ _ _ h => h) (Or.inl ⟨by kernel_rfl, ?hyq15⟩) (by assumption) ?restq15
          case hyq15 =>
            intro w hSw
            try dsimp only at hSw
            go_simp
            try with_reducible rfl
          refine wpAnyH_take (i := 23) (v := ?vq16) rfl (by kernel_rfl) (by kernel_rfl) (by kernel_rfl) (fun _ _ _ h => h) (Or.inl ⟨by kernel_rfl, ?hyq16⟩) (by assumption) ?restq16
          case hyq16 =>
            intro w hSw
            try dsimp only at hSw
            go_simp
            try with_reducible rfl
          refine wpAnyH_take (i := 24) (v := ?vq17) rfl (by kernel_rfl) (by kernel_rfl) (by kernel_rfl) (fun _ _ _ h => h) (Or.inl ⟨by kernel_rfl, ?hyq17⟩) (by assumption) ?restq17
          case hyq17 =>
            intro w hSw
            try dsimp only at hSw
            go_simp
            try with_reducible rfl
          refine wpAnyH_ready (rs := [25]) (by kernel_rfl) (by simp) ?_
          refine AllReadyH.cons rfl (fun K hK => ?_) AllReadyH.nil
          go_simp
          go_at_call 9
          refine (D8.out _ O2.out).mono ?_
          rintro e u3 ⟨rfl, g3⟩
          have S3 := hid (keepM S2.out g3)
          have O3 := hid (S3.out.2.2.2.2.2.2.2.2.2.2.2.2.2.2.2.2.2.2)
          clear g3
          go_wp2_with fail
          refine hK.out _ _ ?hSq18 (fun hHeld => ?restq18)
          case hSq18 => exact S3.out
          clear hK K hHeld
          refine wpAnyH_take (i := 26) (v := ?vq19) rfl (by kernel_rfl) (by kernel_rfl) (by kernel_rfl) (fun _ _ _ h => h) (Or.inl ⟨by kernel_rfl, ?hyq19⟩) (by assumption) ?restq19
          case hyq19 =>
            intro w hSw
            try dsimp only at hSw
            go_simp
            try with_reducible rfl
          refine wpAnyH_take (i := 27) (v := ?vq20) rfl (by kernel_rfl) (by kernel_rfl) (by kernel_rfl) (fun _ _ _ h => h) (Or.inl ⟨by kernel_rfl, ?hyq20⟩) (by assumption) ?restq20
          case hyq20 =>
            intro w hSw
            try dsimp only at hSw
            go_simp
            try with_reducible rfl
          refine wpAnyH_done (by kernel_rfl) ?_ _
          have fin := hid (KO.out.trans O3.out (by simp))
          go_wp2_with fail
          go_ret
          exact ⟨rfl, fin.out⟩
        · have hb : (s.1 != 0) = true := by simp [h0]
          rw [hb] at D4
          have D6 := fun W (hW : Only [] A W) => rCatch_any s n (fl.out W hW) (fs.out W hW) (by omega) (by omega)
          rw [← hcf.out] at D6
          simp only [frV] at D6
          replace D6 := hid D6
          have D7 := fun W (hW : Only [] A W) (r1 r2 : Value) (h1 : Rd W r1 cl) (h2 : Rd W r2 ck) => rSame_any cs cs (z16.out.only0 hW) (z26.out.only0 hW) h1 h2 hcl.out hck.out
          simp only [sameF_self] at D7
          simp only [frV] at D7
          replace D7 := hid D7
          clear hnm hb h0 hcf fl fs
          rw [← hA]
          clear hA
          obtain ⟨s0_, s1_, s2_, s3_, s4_, s5_, s6_, s7_, s8_, s9_, s10_, s11_, s12_, s13_, s14_, s15_, s16_, s17_, -⟩ := S0.out
          go_upto_region 12 with fail
          clear s0_ s1_ s2_ s3_ s4_ s5_ s6_ s7_ s8_ s9_ s10_ s11_ s12_ s13_ s14_ s15_ s16_ s17_
          refine wp_region_held_drew (S := (fun w' => w'.cell? ⟨w.heap.size, 0, none⟩ = some (.int .i64 s.1) ∧ w'.cell? ⟨w.heap.size, 1, none⟩ = some (.int .i64 s.2.1) ∧ w'.cell? ⟨w.heap.size, 2, none⟩ = some (.string (str s.2.2.1)) ∧ w'.cell? ⟨w.heap.size, 3, none⟩ = some (.int .i64 s.2.2.2) ∧ w'.cell? ⟨w.heap.size, 4, none⟩ = some ((.slice ao ll.length ac)) ∧ w'.cell? ⟨w.heap.size, 5, none⟩ = some ((.slice so ls.length sc)) ∧ w'.cell? ⟨w2.heap.size, 0, none⟩ = some (.int .i64 s.1) ∧ w'.cell? ⟨w2.heap.size, 1, none⟩ = some (.int .i64 s.2.1) ∧ w'.cell? ⟨w2.heap.size, 2, none⟩ = some (.string (str s.2.2.1)) ∧ w'.cell? ⟨w2.heap.size, 3, none⟩ = some (.int .i64 s.2.2.2) ∧ w'.cell? ⟨w2.heap.size, 4, none⟩ = some ((.slice p1 ll.length k1)) ∧ w'.cell? ⟨w2.heap.size, 5, none⟩ = some ((.slice p2 ls.length k2)) ∧ w'.cell? ⟨w6.heap.size, 0, none⟩ = some (.int .i64 cs.1) ∧ w'.cell? ⟨w6.heap.size, 1, none⟩ = some (.int .i64 cs.2.1) ∧ w'.cell? ⟨w6.heap.size, 2, none⟩ = some (.string (str cs.2.2.1)) ∧ w'.cell? ⟨w6.heap.size, 3, none⟩ = some (.int .i64 cs.2.2.2) ∧ w'.cell? ⟨w6.heap.size, 4, none⟩ = some ((.slice p7 cl.length k7)) ∧ w'.cell? ⟨w6.heap.size, 5, none⟩ = some ((.slice p8 ck.length k8)) ∧ Only [] A w')) (by kernel_rfl) ?hSq21 (fun hHeld => ?restq21)
          case hSq21 => exact keepM S0.out ((Only.refl [] _).drew)
          replace S0 := hid (keepM S0.out ((Only.refl [] A).drew))
          have O0 := hid (S0.out.2.2.2.2.2.2.2.2.2.2.2.2.2.2.2.2.2.2)
          refine wpAnyH_take (i := 0) (v := ?vq22) rfl (by kernel_rfl) (by kernel_rfl) (by kernel_rfl) (fun _ _ _ h => h) (Or.inl ⟨by kernel_rfl, ?hyq22⟩) (by assumption) ?restq22
          case hyq22 =>
            intro w hSw
            try dsimp only at hSw
            go_simp
            try with_reducible rfl
          refine wpAnyH_take (i := 1) (v := ?vq23) rfl (by kernel_rfl) (by kernel_rfl) (by kernel_rfl) (fun _ _ _ h => h) (Or.inl ⟨by kernel_rfl, ?hyq23⟩) (by assumption) ?restq23
          case hyq23 =>
            intro w hSw
            try dsimp only at hSw
            go_simp
            try with_reducible rfl
          refine wpAnyH_take (i := 2) (v := ?vq24) rfl (by kernel_rfl) (by kernel_rfl) (by kernel_rfl) (fun _ _ _ h => h) (Or.inl ⟨by kernel_rfl, ?hyq24⟩) (by assumption) ?restq24
          case hyq24 =>
            intro w hSw
            try dsimp only at hSw
            go_simp
            try with_reducible rfl
          refine wpAnyH_ready (rs := [3]) (by kernel_rfl) (by simp) ?_
          refine AllReadyH.cons rfl (fun K hK => ?_) AllReadyH.nil
          go_simp
          go_at_call 11
          refine (D4.out _).mono ?_
          rintro e u1 ⟨rfl, g1⟩
          have S1 := hid (keepM S0.out g1)
          have O1 := hid (S1.out.2.2.2.2.2.2.2.2.2.2.2.2.2.2.2.2.2.2)
          clear g1
          go_wp2_with fail
          refine hK.out _ _ ?hSq25 (fun hHeld => ?restq25)
          case hSq25 => exact S1.out
          clear hK K hHeld
          refine wpAnyH_take (i := 4) (v := ?vq26) rfl (by kernel_rfl) (by kernel_rfl) (by kernel_rfl) (fun _ _ _ h => h) (Or.inl ⟨by kernel_rfl, ?hyq26⟩) (by assumption) ?restq26
          case hyq26 =>
            intro w hSw
            try dsimp only at hSw
            go_simp
            try with_reducible rfl
          refine wpAnyH_take (i := 5) (v := ?vq27) rfl (by kernel_rfl) (by kernel_rfl) (by kernel_rfl) (fun _ _ _ h => h) (Or.inl ⟨by kernel_rfl, ?hyq27⟩) (by assumption) ?restq27
          case hyq27 =>
            intro w hSw
            try dsimp only at hSw
            go_simp
            try with_reducible rfl
          refine wpAnyH_take (i := 6) (v := undef) rfl (by kernel_rfl) (by kernel_rfl) (by kernel_rfl) (fun _ _ _ h => h) (Or.inr ⟨by kernel_rfl, rfl⟩) (by assumption) ?_
          refine wpAnyH_take (i := 7) (v := undef) rfl (by kernel_rfl) (by kernel_rfl) (by kernel_rfl) (fun _ _ _ h => h) (Or.inr ⟨by kernel_rfl, rfl⟩) (by assumption) ?_
          refine wpAnyH_take (i := 8) (v := undef) rfl (by kernel_rfl) (by kernel_rfl) (by kernel_rfl) (fun _ _ _ h => h) (Or.inr ⟨by kernel_rfl, rfl⟩) (by assumption) ?_
          refine wpAnyH_take (i := 9) (v := ?vq28) rfl (by kernel_rfl) (by kernel_rfl) (by kernel_rfl) (fun _ _ _ h => h) (Or.inl ⟨by kernel_rfl, ?hyq28⟩) (by assumption) ?restq28
          case hyq28 =>
            intro w hSw
            try dsimp only at hSw
            go_simp
            try with_reducible rfl
          refine wpAnyH_take (i := 10) (v := ?vq29) rfl (by kernel_rfl) (by kernel_rfl) (by kernel_rfl) (fun _ _ _ h => h) (Or.inl ⟨by kernel_rfl, ?hyq29⟩) (by assumption) ?restq29
          case hyq29 =>
            intro w hSw
            try dsimp only at hSw
            go_simp
            try with_reducible rfl
          refine wpAnyH_take (i := 11) (v := ?vq30) rfl (by kernel_rfl) (by kernel_rfl) (by kernel_rfl) (fun _ _ _ h => h) (Or.inl ⟨by kernel_rfl, ?hyq30⟩) (by assumption) ?restq30
          case hyq30 =>
            intro w hSw
            try dsimp only at hSw
            go_simp
            try with_reducible rfl
          refine wpAnyH_ready (rs := [12]) (by kernel_rfl) (by simp) ?_
          refine AllReadyH.cons rfl (fun K hK => ?_) AllReadyH.nil
          go_simp
          go_at_call 11
          refine (D4.out _).mono ?_
          rintro e u2 ⟨rfl, g2⟩
          have S2 := hid (keepM S1.out g2)
          have O2 := hid (S2.out.2.2.2.2.2.2.2.2.2.2.2.2.2.2.2.2.2.2)
          clear g2
          go_wp2_with fail
          refine hK.out _ _ ?hSq31 (fun hHeld => ?restq31)
          case hSq31 => exact S2.out
          clear hK K hHeld
          refine wpAnyH_take (i := 13) (v := ?vq32) rfl (by kernel_rfl) (by kernel_rfl) (by kernel_rfl) (fun _ _ _ h => h) (Or.inl ⟨by kernel_rfl, ?hyq32⟩) (by assumption) ?restq32
          case hyq32 =>
            intro w hSw
            try dsimp only at hSw
            go_simp
            try with_reducible rfl
          refine wpAnyH_take (i := 14) (v := ?vq33) rfl (by kernel_rfl) (by kernel_rfl) (by kernel_rfl) (fun _ _ _ h => h) (Or.inl ⟨by kernel_rfl, ?hyq33⟩) (by assumption) ?restq33
          case hyq33 =>
            intro w hSw
            try dsimp only at hSw
            go_simp
            try with_reducible rfl
          refine wpAnyH_take (i := 15) (v := ?vq34) rfl (by kernel_rfl) (by kernel_rfl) (by kernel_rfl) (fun _ _ _ h => h) (Or.inl ⟨by kernel_rfl, ?hyq34⟩) (by assumption) ?restq34
          case hyq34 =>
            intro w hSw
            try dsimp only at hSw
            go_simp
            try with_reducible rfl
          refine wpAnyH_take (i := 16) (v := ?vq35) rfl (by kernel_rfl) (by kernel_rfl) (by kernel_rfl) (fun _ _ _ h => h) (Or.inl ⟨by kernel_rfl, ?hyq35⟩) (by assumption) ?restq35
          case hyq35 =>
            intro w hSw
            try dsimp only at hSw
            go_simp
            try with_reducible rfl
          refine wpAnyH_ready (rs := [17]) (by kernel_rfl) (by simp) ?_
          refine AllReadyH.cons rfl (fun K hK => ?_) AllReadyH.nil
          go_simp
          go_at_call 15
          refine (D6.out _ O2.out).mono ?_
          rintro e u3 ⟨z1, z2, rfl, hz1, hz2, g3⟩
          obtain ⟨p9, k9, rfl⟩ := hz1.shape
          obtain ⟨p10, k10, rfl⟩ := hz2.shape
          simp only [frV]
          have S3 := hid (keepM S2.out g3)
          have O3 := hid (S3.out.2.2.2.2.2.2.2.2.2.2.2.2.2.2.2.2.2.2)
          clear g3
          go_wp2_with fail
          refine hK.out _ _ ?hSq36 (fun hHeld => ?restq36)
          case hSq36 => exact S3.out
          clear hK K hHeld
          refine wpAnyH_ready (rs := [18]) (by kernel_rfl) (by simp) ?_
          refine AllReadyH.cons rfl (fun K hK => ?_) AllReadyH.nil
          go_simp
          go_at_call 9
          refine (D7.out _ O3.out (.slice p9 cl.length k9) (.slice p10 ck.length k10) hz1 hz2).mono ?_
          rintro e u4 ⟨rfl, g4⟩
          have S4 := hid (keepM S3.out g4)
          have O4 := hid (S4.out.2.2.2.2.2.2.2.2.2.2.2.2.2.2.2.2.2.2)
          clear g4
          go_wp2_with fail
          refine hK.out _ _ ?hSq37 (fun hHeld => ?restq37)
          case hSq37 => exact S4.out
          clear hK K hHeld
          refine wpAnyH_take (i := 19) (v := ?vq38) rfl (by kernel_rfl) (by kernel_rfl) (by kernel_rfl) (fun _ _ _ h => h) (Or.inl ⟨by kernel_rfl, ?hyq38⟩) (by assumption) ?restq38
          case hyq38 =>
            intro w hSw
            try dsimp only at hSw
            go_simp
            try with_reducible rfl
          refine wpAnyH_take (i := 20) (v := ?vq39) rfl (by kernel_rfl) (by kernel_rfl) (by kernel_rfl) (fun _ _ _ h => h) (Or.inl ⟨by kernel_rfl, ?hyq39⟩) (by assumption) ?restq39
          case hyq39 =>
            intro w hSw
            try dsimp only at hSw
            go_simp
            try with_reducible rfl
          refine wpAnyH_take (i := 21) (v := ?vq40) rfl (by kernel_rfl) (by kernel_rfl) (by kernel_rfl) (fun _ _ _ h => h) (Or.inl ⟨by kernel_rfl, ?hyq40⟩) (by assumption) ?restq40
          case hyq40 =>
            intro w hSw
            try dsimp only at hSw
            go_simp
            try with_reducible rfl
          refine wpAnyH_take (i := 22) (v := ?vq41) rfl (by kernel_rfl) (by kernel_rfl) (by kernel_rfl) (fun _ _ _ h => h) (Or.inl ⟨by kernel_rfl, ?hyq41⟩) (by assumption) ?restq41
          case hyq41 =>
            intro w hSw
            try dsimp only at hSw
            go_simp
            try with_reducible rfl
          refine wpAnyH_take (i := 23) (v := ?vq42) rfl (by kernel_rfl) (by kernel_rfl) (by kernel_rfl) (fun _ _ _ h => h) (Or.inl ⟨by kernel_rfl, ?hyq42⟩) (by assumption) ?restq42
          case hyq42 =>
            intro w hSw
            try dsimp only at hSw
            go_simp
            try with_reducible rfl
          refine wpAnyH_take (i := 24) (v := ?vq43) rfl (by kernel_rfl) (by kernel_rfl) (by kernel_rfl) (fun _ _ _ h => h) (Or.inl ⟨by kernel_rfl, ?hyq43⟩) (by assumption) ?restq43
          case hyq43 =>
            intro w hSw
            try dsimp only at hSw
            go_simp
            try with_reducible rfl
          refine wpAnyH_ready (rs := [25]) (by kernel_rfl) (by simp) ?_
          refine AllReadyH.cons rfl (fun K hK => ?_) AllReadyH.nil
          go_simp
          go_at_call 9
          refine (D8.out _ O4.out).mono ?_
          rintro e u5 ⟨rfl, g5⟩
          have S5 := hid (keepM S4.out g5)
          have O5 := hid (S5.out.2.2.2.2.2.2.2.2.2.2.2.2.2.2.2.2.2.2)
          clear g5
          go_wp2_with fail
          refine hK.out _ _ ?hSq44 (fun hHeld => ?restq44)
          case hSq44 => exact S5.out
          clear hK K hHeld
          refine wpAnyH_take (i := 26) (v := ?vq45) rfl (by kernel_rfl) (by kernel_rfl) (by kernel_rfl) (fun _ _ _ h => h) (Or.inl ⟨by kernel_rfl, ?hyq45⟩) (by assumption) ?restq45
          case hyq45 =>
            intro w hSw
            try dsimp only at hSw
            go_simp
            try with_reducible rfl
          refine wpAnyH_take (i := 27) (v := ?vq46) rfl (by kernel_rfl) (by kernel_rfl) (by kernel_rfl) (fun _ _ _ h => h) (Or.inl ⟨by kernel_rfl, ?hyq46⟩) (by assumption) ?restq46
          case hyq46 =>
            intro w hSw
            try dsimp only at hSw
            go_simp
            try with_reducible rfl
          refine wpAnyH_done (by kernel_rfl) ?_ _
          have fin := hid (KO.out.trans O5.out (by simp))
          go_wp2_with fail
          go_ret
          exact ⟨rfl, fin.out⟩

end Go.Proofs.YtpjkgdkebkkjeaaGreatDoor
