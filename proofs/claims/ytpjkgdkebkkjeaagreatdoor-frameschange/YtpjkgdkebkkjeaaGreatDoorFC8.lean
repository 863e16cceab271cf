/-
  The contracts of frames' object, Catch and of the second program's Catch. A row has at most eight million places.
-/
import Derived.Test.YtpjkgdkebkkjeaaGreatDoorFC7
namespace Go.Proofs.YtpjkgdkebkkjeaaGreatDoor
open Go.RowKit

set_option maxRecDepth 100000 in
theorem object_any (n : List UInt8) (w : World) : Calls Tryz.prog 25 #[.string (str n)] w fun e w' => e = .returned (vtV (3, 0, n, 0)) ∧ Only [] w w' := by
  have o1 := (Only.refl [] w).alloc (.cells #[.int .i64 3, .int .i64 0, .string (str n), .int .i64 0] 25)
  have c0 : (w.alloc (.cells #[.int .i64 3, .int .i64 0, .string (str n), .int .i64 0] 25)).cell? ⟨w.heap.size, 0, none⟩ = some (.int .i64 3) := by rw [cell_new]; rfl
  have c1 : (w.alloc (.cells #[.int .i64 3, .int .i64 0, .string (str n), .int .i64 0] 25)).cell? ⟨w.heap.size, 1, none⟩ = some (.int .i64 0) := by rw [cell_new]; rfl
  have c2 : (w.alloc (.cells #[.int .i64 3, .int .i64 0, .string (str n), .int .i64 0] 25)).cell? ⟨w.heap.size, 2, none⟩ = some (.string (str n)) := by rw [cell_new]; rfl
  have c3 : (w.alloc (.cells #[.int .i64 3, .int .i64 0, .string (str n), .int .i64 0] 25)).cell? ⟨w.heap.size, 3, none⟩ = some (.int .i64 0) := by rw [cell_new]; rfl
  go_enter Tryz.func25, Tryz.ntmps25
  go_wp2
  refine bodyPost_ret (v := vtV (3, 0, n, 0)) (by simp [results, Tryz.results25, go_sem, c0, c1, c2, c3, vtV]) rfl ?_
  exact ⟨rfl, o1⟩

/-- What a handler begins with. -/
def catchF (s : Vt) (ll : List Vt) (n : List UInt8) : Fr := if s.1 = 0 then ((0, 0, [], 0), [], []) else (s, ll, [(3, 0, n, 0)])
theorem rd_nil (w : World) : Rd w (.slice none 0 0) [] := ⟨none, 0, 0, rfl, .inl rfl, fun _ => rfl⟩

set_option maxHeartbeats 4000000 in
set_option maxRecDepth 100000 in
theorem fCatch_any {w : World} (s : Vt) (n : List UInt8) {ll ls : List Vt} {vl vs : Value} (hl : Rd w vl ll) (hs : Rd w vs ls) (n1 : ll.length ≤ 8000000) :
    Calls Tryz.prog 13 #[frV s vl vs, .string (str n)] w (NewF w (catchF s ll n).1 (catchF s ll n).2.1 (catchF s ll n).2.2) := by
  obtain ⟨ao, ac, rfl⟩ := hl.shape
  obtain ⟨so, sc, rfl⟩ := hs.shape
  obtain ⟨W0, hW0⟩ : ∃ W0, W0 = (w.alloc (.cells #[.int .i64 s.1, .int .i64 s.2.1, .string (str s.2.2.1), .int .i64 s.2.2.2, .slice ao ll.length ac, .slice so ls.length sc] 28)).alloc (.cells #[.int .i64 0, .int .i64 0, .string ⟨#[]⟩, .int .i64 0, .slice none 0 0, .slice none 0 0] 28) := ⟨_, rfl⟩
  have o1 : Only [] w W0 := by rw [hW0]; exact ((Only.refl [] w).alloc _).alloc _
  have hsz : W0.heap.size = w.heap.size + 2 := by rw [hW0]; simp
  have SA : FrB W0 w.heap.size s (.slice ao ll.length ac) (.slice so ls.length sc) := by
    rw [hW0]
    exact (frB_new w s _ _ _).only ((Only.refl [] _).alloc _) (by simp)
  have SZ : FrB W0 (w.heap.size + 1) (0, 0, [], 0) (.slice none 0 0) (.slice none 0 0) := by
    rw [hW0]
    rw [show w.heap.size + 1 = (w.alloc (.cells #[.int .i64 s.1, .int .i64 s.2.1, .string (str s.2.2.1), .int .i64 s.2.2.2, .slice ao ll.length ac, .slice so ls.length sc] 28)).heap.size by simp]
    exact frB_new _ (0, 0, [], 0) _ _ _
  have HR := hid (fReached_any s ao so ll.length ls.length ac sc W0)
  have hSA := hid SA
  have hSZ := hid SZ
  replace o1 := hid o1
  replace hsz := hid hsz
  have hl' := hid hl
  clear hl hs SZ
  obtain ⟨c0, c1, c2, c3, c4, c5, _⟩ := SA
  subst hW0
  simp only [frV] at HR ⊢
  go_enter Tryz.func13, Tryz.ntmps13
  go_wp2_with fail
  refine HR.out.mono ?_
  rintro e w1 ⟨rfl, q1⟩
  clear HR c0 c1 c2 c3 c4 c5
  by_cases hz : s.1 = 0
  · have hb : (s.1 != 0) = false := by simp [hz]
    rw [hb]
    have Z1 := hSZ.out.only q1 (by simp)
    have hZ1 := hid Z1
    obtain ⟨z0, z1, z2, z3, z4, z5, zf⟩ := Z1
    have y0 := zf 0
    have y1 := zf 1
    have y2 := zf 2
    have y3 := zf 3
    have y4 := zf 4
    have y5 := zf 5
    clear zf
    replace hz := hid hz
    go_wp2_with fail
    obtain ⟨P, oP⟩ := hZ1.out.put (0, 0, [], 0) (.slice none 0 0) (.slice none 0 0)
    obtain ⟨d0, d1, d2, d3, d4, d5, _⟩ := P
    simp only [show str [] = ⟨#[]⟩ from rfl] at d0 d1 d2 d3 d4 d5
    have e1 : catchF s ll n = ((0, 0, [], 0), [], []) := if_pos hz.out
    rw [e1]
    refine bodyPost_ret (v := frV (0, 0, [], 0) (.slice none 0 0) (.slice none 0 0)) (by simp [results, Tryz.results13, go_sem, d0, d1, d2, d3, d4, d5, frV, show str [] = ⟨#[]⟩ from rfl]) rfl ?_
    exact ⟨_, _, rfl, rd_nil _, rd_nil _, (o1.out.trans q1 (by simp)).next oP (by simp)⟩
  · have hb : (s.1 != 0) = true := by simp [hz]
    rw [hb]
    have HO := hid (object_any n w1)
    unfold vtV at HO
    replace hz := hid hz
    go_wp2_with fail
    refine HO.out.mono ?_
    rintro e w2 ⟨rfl, q2⟩
    clear HO
    have hx : Only [] w w2 := (o1.out.trans q1 (by simp)).trans q2 (by simp)
    have R2 := rows_vt w2 3 0 0 n (b := w2.heap.size) rfl
    have hq2 := hid (q1.trans q2 (by simp))
    have A2 := (hSA.out.only hq2.out (by simp)).only ((Only.refl [] w2).alloc (.cells #[.int .i64 3, .int .i64 0, .string (str n), .int .i64 0] 25)) (by simp)
    have f5 := A2.f0 5
    have c5 := A2.c5
    have T := A2.set5c (.slice (some ⟨w2.heap.size, 0, none⟩) 1 1)
    have oS := only_set (w2.alloc (.cells #[.int .i64 3, .int .i64 0, .string (str n), .int .i64 0] 25)) w.heap.size 5 (.slice (some ⟨w2.heap.size, 0, none⟩) 1 1)
    have hge : w.heap.size + 2 ≤ w2.heap.size := by have := hsz.out; have := hq2.out.size; omega
    have o3 := (hx.alloc (.cells #[.int .i64 3, .int .i64 0, .string (str n), .int .i64 0] 25)).next oS (by simp)
    have R3 : Rd ((w2.alloc (.cells #[.int .i64 3, .int .i64 0, .string (str n), .int .i64 0] 25)).setCell ⟨w.heap.size, 5, none⟩ (.slice (some ⟨w2.heap.size, 0, none⟩) 1 1)) (.slice (some ⟨w2.heap.size, 0, none⟩) 1 1) [(3, 0, n, 0)] := ⟨_, 1, _, rfl, R2.only oS (fun _ => by simp; omega), fun h => by cases h⟩
    have HT := hid (fTwin_any s (hl'.out.only0 o3) R3 n1 (by simp))
    have Z3 := hid ((hSZ.out.only hq2.out (by simp)).only (((Only.refl [] w2).alloc (.cells #[.int .i64 3, .int .i64 0, .string (str n), .int .i64 0] 25)).mono (S' := [w.heap.size]) (by simp)) (by simp))
    have Z4 := hid (Z3.out.only oS (by simp))
    obtain ⟨t0, t1, t2, t3, t4, t5, _⟩ := T
    replace o3 := hid o3
    simp only [frV] at HT
    clear A2 R2 R3 Z3 hq2 hx oS q1 q2
    replace hge := hid hge
    go_wp2_with fail
    refine HT.out.mono ?_
    rintro e w5 ⟨v1, v2, rfl, r1, r2, hN, q5⟩
    clear HT t0 t1 t2 t3 t4 t5 f5 c5
    obtain ⟨p1, k1, rfl⟩ := rows_slice r1
    obtain ⟨p2, k2, rfl⟩ := rows_slice r2
    have Z5 := Z4.out.only q5 (by simp)
    have hZ5 := hid Z5
    obtain ⟨z0, z1, z2, z3, z4, z5, zf⟩ := Z5
    have y0 := zf 0
    have y1 := zf 1
    have y2 := zf 2
    have y3 := zf 3
    have y4 := zf 4
    have y5 := zf 5
    clear zf Z4
    simp only [frV]
    go_wp2_with fail
    obtain ⟨P, oP⟩ := hZ5.out.put s (.slice p1 ll.length k1) (.slice p2 1 k2)
    obtain ⟨d0, d1, d2, d3, d4, d5, _⟩ := P
    have e1 : catchF s ll n = (s, ll, [(3, 0, n, 0)]) := if_neg hz.out
    rw [e1]
    refine bodyPost_ret (v := frV s (.slice p1 ll.length k1) (.slice p2 1 k2)) (by simp [results, Tryz.results13, go_sem, d0, d1, d2, d3, d4, d5, frV]) rfl ?_
    have s3 := hge.out
    have b1 : w.heap.size + 1 < ((w2.alloc (.cells #[.int .i64 3, .int .i64 0, .string (str n), .int .i64 0] 25)).setCell ⟨w.heap.size, 5, none⟩ (.slice (some ⟨w2.heap.size, 0, none⟩) 1 1)).heap.size := by
      have := (only_set (w2.alloc (.cells #[.int .i64 3, .int .i64 0, .string (str n), .int .i64 0] 25)) w.heap.size 5 (.slice (some ⟨w2.heap.size, 0, none⟩) 1 1)).size
      simp only [World.size_alloc] at this
      omega
    exact ⟨_, _, rfl, (own_rd_set r1 oP b1).rd, (own_rd_set r2 oP b1).rd, (o3.out.trans q5 (by simp)).next oP (by simp)⟩

set_option maxHeartbeats 4000000 in
set_option maxRecDepth 100000 in
theorem rCatch_any {w : World} (s : Vt) (n : List UInt8) {ll ls : List Vt} {vl vs : Value} (hl : Rd w vl ll) (hs : Rd w vs ls) (n1 : ll.length ≤ 8000000) (n2 : ls.length ≤ 8000000) :
    Calls Tryz.prog 15 #[frV s vl vs, .string (str n)] w (NewF w (catchF s ll n).1 (catchF s ll n).2.1 (catchF s ll n).2.2) := by
  obtain ⟨ao, ac, rfl⟩ := hl.shape
  obtain ⟨so, sc, rfl⟩ := hs.shape
  obtain ⟨W0, hW0⟩ : ∃ W0, W0 = (w.alloc (.cells #[.int .i64 s.1, .int .i64 s.2.1, .string (str s.2.2.1), .int .i64 s.2.2.2, .slice ao ll.length ac, .slice so ls.length sc] 28)).alloc (.cells #[.int .i64 0, .int .i64 0, .string ⟨#[]⟩, .int .i64 0, .slice none 0 0, .slice none 0 0] 28) := ⟨_, rfl⟩
  have o1 : Only [] w W0 := by rw [hW0]; exact ((Only.refl [] w).alloc _).alloc _
  have hsz : W0.heap.size = w.heap.size + 2 := by rw [hW0]; simp
  have SA : FrB W0 w.heap.size s (.slice ao ll.length ac) (.slice so ls.length sc) := by
    rw [hW0]
    exact (frB_new w s _ _ _).only ((Only.refl [] _).alloc _) (by simp)
  have SZ : FrB W0 (w.heap.size + 1) (0, 0, [], 0) (.slice none 0 0) (.slice none 0 0) := by
    rw [hW0]
    rw [show w.heap.size + 1 = (w.alloc (.cells #[.int .i64 s.1, .int .i64 s.2.1, .string (str s.2.2.1), .int .i64 s.2.2.2, .slice ao ll.length ac, .slice so ls.length sc] 28)).heap.size by simp]
    exact frB_new _ (0, 0, [], 0) _ _ _
  have HR := hid (rReached_any s ao so ll.length ls.length ac sc W0)
  have hSA := hid SA
  have hSZ := hid SZ
  replace o1 := hid o1
  replace hsz := hid hsz
  have hl' := hid hl
  have hs' := hid hs
  clear hl hs SZ
  obtain ⟨c0, c1, c2, c3, c4, c5, _⟩ := SA
  subst hW0
  simp only [frV] at HR ⊢
  go_enter Tryz.func15, Tryz.ntmps15
  go_wp2_with fail
  refine HR.out.mono ?_
  rintro e w1 ⟨rfl, q1⟩
  clear HR c0 c1 c2 c3 c4 c5
  by_cases hz : s.1 = 0
  · have hb : (s.1 != 0) = false := by simp [hz]
    rw [hb]
    have Z1 := hSZ.out.only q1 (by simp)
    have hZ1 := hid Z1
    obtain ⟨z0, z1, z2, z3, z4, z5, zf⟩ := Z1
    have y0 := zf 0
    have y1 := zf 1
    have y2 := zf 2
    have y3 := zf 3
    have y4 := zf 4
    have y5 := zf 5
    clear zf
    replace hz := hid hz
    go_wp2_with fail
    obtain ⟨P, oP⟩ := hZ1.out.put (0, 0, [], 0) (.slice none 0 0) (.slice none 0 0)
    obtain ⟨d0, d1, d2, d3, d4, d5, _⟩ := P
    simp only [show str [] = ⟨#[]⟩ from rfl] at d0 d1 d2 d3 d4 d5
    have e1 : catchF s ll n = ((0, 0, [], 0), [], []) := if_pos hz.out
    rw [e1]
    refine bodyPost_ret (v := frV (0, 0, [], 0) (.slice none 0 0) (.slice none 0 0)) (by simp [results, Tryz.results15, go_sem, d0, d1, d2, d3, d4, d5, frV, show str [] = ⟨#[]⟩ from rfl]) rfl ?_
    exact ⟨_, _, rfl, rd_nil _, rd_nil _, (o1.out.trans q1 (by simp)).next oP (by simp)⟩
  · have hb : (s.1 != 0) = true := by simp [hz]
    rw [hb]
    have ox : Only [] w w1 := o1.out.trans q1 (by simp)
    have HT := hid (rTwin_any s (hl'.out.only0 ox) (hs'.out.only0 ox) n1 n2)
    obtain ⟨c0, c1, c2, c3, c4, c5, _⟩ := hSA.out.only q1 (by simp)
    have Z1 := hid (hSZ.out.only q1 (by simp))
    replace ox := hid ox
    have hg1 : w.heap.size + 2 ≤ w1.heap.size := by have := hsz.out; have := q1.size; omega
    replace hg1 := hid hg1
    simp only [frV] at HT
    clear hSA hSZ q1 hl' hs' o1 hsz
    replace hz := hid hz
    go_wp2_with fail
    refine HT.out.mono ?_
    rintro e w2 ⟨v1, v2, rfl, r1, r2, q2⟩
    clear HT c0 c1 c2 c3 c4 c5
    obtain ⟨p1, k1, rfl⟩ := rows_slice r1
    obtain ⟨p2, k2, rfl⟩ := rows_slice r2
    simp only [frV]
    have q3 := ((Only.refl [] w2).alloc (.cells #[.int .i64 s.1, .int .i64 s.2.1, .string (str s.2.2.1), .int .i64 s.2.2.2, .slice p1 ll.length k1, .slice (some ⟨w2.heap.size + 1, 0, none⟩) 1 1] 28)).alloc (.cells #[.int .i64 3, .int .i64 0, .string (str n), .int .i64 0] 25)
    have R2 := rows_vt (w2.alloc (.cells #[.int .i64 s.1, .int .i64 s.2.1, .string (str s.2.2.1), .int .i64 s.2.2.2, .slice p1 ll.length k1, .slice (some ⟨w2.heap.size + 1, 0, none⟩) 1 1] 28)) 3 0 0 n (b := w2.heap.size + 1) (by simp)
    have hg2 : w.heap.size + 2 ≤ w2.heap.size := by have := hg1.out; have := q2.size; omega
    have Z3 := Z1.out.only (q2.trans q3 (by simp)) (by simp)
    have hZ3 := hid Z3
    obtain ⟨z0, z1, z2, z3, z4, z5, zf⟩ := Z3
    have y0 := zf 0
    have y1 := zf 1
    have y2 := zf 2
    have y3 := zf 3
    have y4 := zf 4
    have y5 := zf 5
    have fin := hid (And.intro (rows_only r1 q3 (by simp)) (And.intro R2 ((ox.out.trans q2 (by simp)).trans q3 (by simp))))
    replace hg2 := hid hg2
    clear zf q3 R2 Z1 r1 r2 q2
    go_wp2_with fail
    obtain ⟨P, oP⟩ := hZ3.out.put s (.slice p1 ll.length k1) (.slice (some ⟨w2.heap.size + 1, 0, none⟩) 1 1)
    obtain ⟨d0, d1, d2, d3, d4, d5, _⟩ := P
    have e1 : catchF s ll n = (s, ll, [(3, 0, n, 0)]) := if_neg hz.out
    rw [e1]
    refine bodyPost_ret (v := frV s (.slice p1 ll.length k1) (.slice (some ⟨w2.heap.size + 1, 0, none⟩) 1 1)) (by simp [results, Tryz.results15, go_sem, d0, d1, d2, d3, d4, d5, frV]) rfl ?_
    obtain ⟨m1, m2, m3⟩ := fin.out
    have hb2 := hg2.out
    have hb1 := hg1.out
    exact ⟨_, _, rfl, (own_rd_set m1 oP (by omega)).rd, ⟨_, 1, _, rfl, m2.only oP (fun _ => by simp; omega), fun h => by cases h⟩, m3.next oP (by simp)⟩

end Go.Proofs.YtpjkgdkebkkjeaaGreatDoor
