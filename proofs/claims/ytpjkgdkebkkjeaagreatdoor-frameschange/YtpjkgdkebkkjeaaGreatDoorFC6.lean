/-
  The contract of frames.Swap. A row has at most a million places.
-/
import Derived.Test.YtpjkgdkebkkjeaaGreatDoorFC5
namespace Go.Proofs.YtpjkgdkebkkjeaaGreatDoor
open Go.RowKit

/-- A frame of its own, whose rows are read. -/
def NewF (w : World) (s : Vt) (ll ls : List Vt) (r : Ending) (w' : World) : Prop :=
  ∃ v1 v2, r = .returned (frV s v1 v2) ∧ Rd w' v1 ll ∧ Rd w' v2 ls ∧ Only [] w w'
theorem TwV.new {w : World} {s : Vt} {ll ls : List Vt} {r : Ending} {w' : World} (h : TwV w s ll ls r w') : NewF w s ll ls r w' := by
  obtain ⟨v1, v2, h1, h2, h3, _, h4⟩ := h
  exact ⟨v1, v2, h1, h2.rd, h3.rd, h4⟩

/-- A row that is owned is written in block g, above B; where it is empty g is what one likes. -/
theorem own_wr {w : World} {B : Nat} {v : Value} {l : List Vt} (h : OwV w B v l) (b : Nat) : ∃ g, Wr4 w v l g ∧ (l ≠ [] → v.ownBlock = some g ∧ B ≤ g) ∧ (l = [] → g = b) := by
  obtain ⟨g, h1, h2, _⟩ := Wr4.of_owns h
  by_cases hl : l = []
  · refine ⟨b, ?_, fun h => absurd hl h, fun _ => rfl⟩
    subst hl
    exact ⟨by obtain ⟨ao, cap, q1, q2, _⟩ := h1.shape; exact ⟨ao, cap, q1, q2, fun h => absurd rfl h⟩, fun j u hj => by simp [vcs] at hj, fun h => absurd rfl h, fun h => absurd rfl h⟩
  · exact ⟨g, h1, h2, fun h => absurd h hl⟩

set_option maxHeartbeats 4000000 in
set_option maxRecDepth 100000 in
theorem fSwap_any {w : World} (s a b : Vt) {ll ls : List Vt} {vl vs : Value} (hl : Rd w vl ll) (hs : Rd w vs ls) (n1 : ll.length ≤ 1000000) (n2 : ls.length ≤ 1000000) :
    Calls Tryz.prog 6 #[frV s vl vs, vtV a, vtV b] w (NewF w (swV a b s) (ll.map (swV a b)) (ls.map (swV a b))) := by
  obtain ⟨ao, ac, rfl⟩ := hl.shape
  obtain ⟨so, sc, rfl⟩ := hs.shape
  obtain ⟨W0, hW0⟩ : ∃ W0, W0 = (((w.alloc (.cells #[.int .i64 s.1, .int .i64 s.2.1, .string (str s.2.2.1), .int .i64 s.2.2.2, .slice ao ll.length ac, .slice so ls.length sc] 28)).alloc (.cells #[.int .i64 a.1, .int .i64 a.2.1, .string (str a.2.2.1), .int .i64 a.2.2.2] 25)).alloc (.cells #[.int .i64 b.1, .int .i64 b.2.1, .string (str b.2.2.1), .int .i64 b.2.2.2] 25)).alloc (.cells #[.int .i64 0, .int .i64 0, .string ⟨#[]⟩, .int .i64 0, .slice none 0 0, .slice none 0 0] 28) := ⟨_, rfl⟩
  have o1 : Only [] w W0 := by rw [hW0]; exact ((((Only.refl [] w).alloc _).alloc _).alloc _).alloc _
  have hsz : W0.heap.size = w.heap.size + 4 := by rw [hW0]; simp
  have hT := hid (ftwin_any s (hl.only0 o1) (hs.only0 o1) (by omega) (by omega))
  have SA : FrB W0 w.heap.size s (.slice ao ll.length ac) (.slice so ls.length sc) := by
    rw [hW0]
    exact (frB_new w s _ _ _).only ((((Only.refl [] _).alloc _).alloc _).alloc _) (by simp)
  have VA : VtAt W0 (w.heap.size + 1) 0 a := by
    rw [hW0]
    refine VtAt.only (w := (w.alloc (.cells #[.int .i64 s.1, .int .i64 s.2.1, .string (str s.2.2.1), .int .i64 s.2.2.2, .slice ao ll.length ac, .slice so ls.length sc] 28)).alloc (.cells #[.int .i64 a.1, .int .i64 a.2.1, .string (str a.2.2.1), .int .i64 a.2.2.2] 25)) ?_ (((Only.refl [] _).alloc _).alloc _) (by simp)
    rw [show w.heap.size + 1 = (w.alloc (.cells #[.int .i64 s.1, .int .i64 s.2.1, .string (str s.2.2.1), .int .i64 s.2.2.2, .slice ao ll.length ac, .slice so ls.length sc] 28)).heap.size by simp]
    exact ⟨by rw [cell_new]; rfl, by rw [cell_new]; rfl, by rw [cell_new]; rfl, by rw [cell_new]; rfl⟩
  have VB : VtAt W0 (w.heap.size + 2) 0 b := by
    rw [hW0]
    refine VtAt.only (w := ((w.alloc (.cells #[.int .i64 s.1, .int .i64 s.2.1, .string (str s.2.2.1), .int .i64 s.2.2.2, .slice ao ll.length ac, .slice so ls.length sc] 28)).alloc (.cells #[.int .i64 a.1, .int .i64 a.2.1, .string (str a.2.2.1), .int .i64 a.2.2.2] 25)).alloc (.cells #[.int .i64 b.1, .int .i64 b.2.1, .string (str b.2.2.1), .int .i64 b.2.2.2] 25)) ?_ ((Only.refl [] _).alloc _) (by simp)
    rw [show w.heap.size + 2 = ((w.alloc (.cells #[.int .i64 s.1, .int .i64 s.2.1, .string (str s.2.2.1), .int .i64 s.2.2.2, .slice ao ll.length ac, .slice so ls.length sc] 28)).alloc (.cells #[.int .i64 a.1, .int .i64 a.2.1, .string (str a.2.2.1), .int .i64 a.2.2.2] 25)).heap.size by simp]
    exact ⟨by rw [cell_new]; rfl, by rw [cell_new]; rfl, by rw [cell_new]; rfl, by rw [cell_new]; rfl⟩
  have hZ : FrB W0 (w.heap.size + 3) (0, 0, [], 0) (.slice none 0 0) (.slice none 0 0) := by
    rw [hW0]
    rw [show w.heap.size + 3 = (((w.alloc (.cells #[.int .i64 s.1, .int .i64 s.2.1, .string (str s.2.2.1), .int .i64 s.2.2.2, .slice ao ll.length ac, .slice so ls.length sc] 28)).alloc (.cells #[.int .i64 a.1, .int .i64 a.2.1, .string (str a.2.2.1), .int .i64 a.2.2.2] 25)).alloc (.cells #[.int .i64 b.1, .int .i64 b.2.1, .string (str b.2.2.1), .int .i64 b.2.2.2] 25)).heap.size by simp]
    exact frB_new _ (0, 0, [], 0) _ _ _
  replace VA := hid VA
  replace VB := hid VB
  replace hZ := hid hZ
  replace o1 := hid o1
  replace hsz := hid hsz
  clear hl hs
  subst hW0
  obtain ⟨c0, c1, c2, c3, c4, c5, _⟩ := SA
  simp only [frV] at hT
  unfold vtV
  simp only [frV]
  go_enter Tryz.func6, Tryz.ntmps6
  go_wp2_with fail
  refine hT.out.mono ?_
  rintro e w1 ⟨v1, v2, rfl, r1, r2, hN, q1⟩
  clear hT c0 c1 c2 c3 c4 c5
  obtain ⟨p1, k1, rfl⟩ := rows_slice r1
  obtain ⟨p2, k2, rfl⟩ := rows_slice r2
  simp only [frV]
  obtain ⟨g1, x1, y1, z1⟩ := own_wr r1 w1.heap.size
  obtain ⟨g2, x2, y2, z2⟩ := own_wr r2 w1.heap.size
  have q2 := (Only.refl [] w1).alloc (.cells #[.int .i64 s.1, .int .i64 s.2.1, .string (str s.2.2.1), .int .i64 s.2.2.2, .slice p1 ll.length k1, .slice p2 ls.length k2] 45)
  have hsz1 := q1.size
  have HR := hid (freplace_any (a := a) (b := b) (frB_new w1 s (.slice p1 ll.length k1) (.slice p2 ls.length k2) 45) (x1.only2 q2 (by simp)) (x2.only2 q2 (by simp)) (fun h e => by have := (own_block r1 (y1 h).1).2; omega) (fun h e => by have := (own_block r2 (y2 h).1).2; omega) (fun h h' e => hN g1 (y1 h).1 (by rw [e]; exact (y2 h').1)) n1 n2)
  have hge1 : w.heap.size + 4 ≤ g1 := by
    have := hsz.out
    by_cases h : ll = []
    · rw [z1 h]; omega
    · have := (y1 h).2; omega
  have hge2 : w.heap.size + 4 ≤ g2 := by
    have := hsz.out
    by_cases h : ls = []
    · rw [z2 h]; omega
    · have := (y2 h).2; omega
  have hge : w.heap.size + 4 ≤ w1.heap.size := by have := hsz.out; omega
  obtain ⟨a0, a1, a2, a3⟩ := VA.out.only q1 (by simp)
  obtain ⟨b0, b1, b2, b3⟩ := VB.out.only q1 (by simp)
  have A0 := fun o => cell_alloc o a0
  have A1 := fun o => cell_alloc o a1
  have A2 := fun o => cell_alloc o a2
  have A3 := fun o => cell_alloc o a3
  have B0 := fun o => cell_alloc o b0
  have B1 := fun o => cell_alloc o b1
  have B2 := fun o => cell_alloc o b2
  have B3 := fun o => cell_alloc o b3
  simp only [Nat.zero_add] at A1 A2 A3 B1 B2 B3
  have Z1 := hid (hZ.out.only (q1.trans q2 (by simp)) (by simp))
  have O1 := hid ((o1.out.trans q1 (by simp)).trans q2 (by simp))
  clear hZ VA VB r1 r2 hN q1 q2 x1 x2 y1 y2 z1 z2 a0 a1 a2 a3 b0 b1 b2 b3 o1 hsz hsz1
  unfold vtV at HR
  go_wp2_with fail
  refine HR.out.mono ?_
  rintro e w3 ⟨rfl, hF3, hR1, hR2, q3⟩
  clear HR A0 A1 A2 A3 B0 B1 B2 B3
  obtain ⟨c0, c1, c2, c3, c4, c5, _⟩ := hF3
  have Z3 := Z1.out.only q3 (by simp; omega)
  have hZ3 := hid Z3
  obtain ⟨z0, z1, z2, z3, z4, z5, zf⟩ := Z3
  have y0 := zf 0
  have y1 := zf 1
  have y2 := zf 2
  have y3 := zf 3
  have y4 := zf 4
  have y5 := zf 5
  clear zf Z1
  go_wp2_with fail
  obtain ⟨T, oT⟩ := hZ3.out.put (swV a b s) (.slice p1 ll.length k1) (.slice p2 ls.length k2)
  obtain ⟨d0, d1, d2, d3, d4, d5, _⟩ := T
  refine bodyPost_ret (v := frV (swV a b s) (.slice p1 ll.length k1) (.slice p2 ls.length k2)) (by simp [results, Tryz.results6, go_sem, d0, d1, d2, d3, d4, d5, frV]) rfl ?_
  have o3 : Only [] w w3 := O1.out.next q3 (fun x hx => by simp at hx; omega)
  refine ⟨_, _, rfl, (hR1.only2 oT fun h => by simp; omega).rd, (hR2.only2 oT fun h => by simp; omega).rd, o3.next oT (by simp)⟩

end Go.Proofs.YtpjkgdkebkkjeaaGreatDoor
