/-
  The contracts of the second program's Reached, Twin. A row has at most eight million places.
-/
import Derived.Test.YtpjkgdkebkkjeaaGreatDoorFC6
namespace Go.Proofs.YtpjkgdkebkkjeaaGreatDoor
open Go.RowKit

set_option maxRecDepth 100000 in
theorem rReached_any (s : Vt) (ao so : Option Addr) (n m ac sc : Nat) (w : World) :
    Calls Tryz.prog 11 #[frV s (.slice ao n ac) (.slice so m sc)] w fun e w' => e = .returned (.bool (s.1 != 0)) ∧ Only [] w w' := by
  have o1 := (Only.refl [] w).alloc (.cells #[.int .i64 s.1, .int .i64 s.2.1, .string (str s.2.2.1), .int .i64 s.2.2.2, .slice ao n ac, .slice so m sc] 28)
  obtain ⟨c0, _, _, _, _, _, _⟩ := frB_new w s (.slice ao n ac) (.slice so m sc) 28
  simp only [frV]
  go_enter Tryz.func11, Tryz.ntmps11
  go_wp2
  go_ret
  exact ⟨rfl, o1⟩

/-- A row behind another block's cell was written. -/
theorem FrB.set4c {w : World} {b : Nat} {s : Vt} {x y : Value} (h : FrB w b s x y) (v : Value) : FrB (w.setCell ⟨b, 4, none⟩ v) b s v y :=
  ⟨by rw [cell_setCell_ne _ _ (by simp)]; exact h.c0, by rw [cell_setCell_ne _ _ (by simp)]; exact h.c1, by rw [cell_setCell_ne _ _ (by simp)]; exact h.c2, by rw [cell_setCell_ne _ _ (by simp)]; exact h.c3, cell_setCell_same _ _ h.c4, by rw [cell_setCell_ne _ _ (by simp)]; exact h.c5, fun j => by rw [frozen_setCell]; exact h.f0 j⟩
theorem FrB.set5c {w : World} {b : Nat} {s : Vt} {x y : Value} (h : FrB w b s x y) (v : Value) : FrB (w.setCell ⟨b, 5, none⟩ v) b s x v :=
  ⟨by rw [cell_setCell_ne _ _ (by simp)]; exact h.c0, by rw [cell_setCell_ne _ _ (by simp)]; exact h.c1, by rw [cell_setCell_ne _ _ (by simp)]; exact h.c2, by rw [cell_setCell_ne _ _ (by simp)]; exact h.c3, by rw [cell_setCell_ne _ _ (by simp)]; exact h.c4, cell_setCell_same _ _ h.c5, fun j => by rw [frozen_setCell]; exact h.f0 j⟩
theorem only_set (w : World) (b j : Nat) (v : Value) : Only [b] w (w.setCell ⟨b, j, none⟩ v) := (Only.refl [b] w).setCell (.inl (by simp)) v
theorem own_rd_set {w w' : World} {B b : Nat} {v : Value} {l : List Vt} (h : OwV w B v l) (ho : Only [b] w w') (hb : b < B) : OwV w' B v l := rows_only h ho fun k hk hm => by
  have := (own_block h hk).1
  simp at hm
  omega

/-- A frame whose rows are its own. -/
def NewO (w : World) (s : Vt) (ll ls : List Vt) (r : Ending) (w' : World) : Prop :=
  ∃ v1 v2, r = .returned (frV s v1 v2) ∧ OwV w' w.heap.size v1 ll ∧ OwV w' w.heap.size v2 ls ∧ Only [] w w'
theorem NewO.new {w : World} {s : Vt} {ll ls : List Vt} {r : Ending} {w' : World} (h : NewO w s ll ls r w') : NewF w s ll ls r w' := by
  obtain ⟨v1, v2, h1, h2, h3, h4⟩ := h
  exact ⟨v1, v2, h1, h2.rd, h3.rd, h4⟩

set_option maxHeartbeats 4000000 in
set_option maxRecDepth 100000 in
theorem rTwin_any {w : World} (s : Vt) {ll ls : List Vt} {vl vs : Value} (hl : Rd w vl ll) (hs : Rd w vs ls) (n1 : ll.length ≤ 8000000) (n2 : ls.length ≤ 8000000) :
    Calls Tryz.prog 5 #[frV s vl vs] w (NewO w s ll ls) := by
  have hl' := hid hl
  have hs' := hid hs
  obtain ⟨ao, ac, dl, rfl, rl, el⟩ := hl
  obtain ⟨so, sc, ds, rfl, rs, es⟩ := hs
  obtain ⟨W0, hW0⟩ : ∃ W0, W0 = ((w.alloc (.cells #[.int .i64 s.1, .int .i64 s.2.1, .string (str s.2.2.1), .int .i64 s.2.2.2, .slice ao ll.length ac, .slice so ls.length sc] 28)).alloc (.cells #[.int .i64 0, .int .i64 0, .string ⟨#[]⟩, .int .i64 0, .slice none 0 0, .slice none 0 0] 28)).alloc (.cells #[.int .i64 s.1, .int .i64 s.2.1, .string (str s.2.2.1), .int .i64 s.2.2.2, .slice none 0 0, .slice none 0 0] 28) := ⟨_, rfl⟩
  have o1 : Only [] w W0 := by rw [hW0]; exact (((Only.refl [] w).alloc _).alloc _).alloc _
  have hsz : W0.heap.size = w.heap.size + 3 := by rw [hW0]; simp
  have SA : FrB W0 w.heap.size s (.slice ao ll.length ac) (.slice so ls.length sc) := by
    rw [hW0]
    exact (frB_new w s _ _ _).only (((Only.refl [] _).alloc _).alloc _) (by simp)
  have SZ : FrB W0 (w.heap.size + 1) (0, 0, [], 0) (.slice none 0 0) (.slice none 0 0) := by
    rw [hW0]
    refine FrB.only (w := (w.alloc (.cells #[.int .i64 s.1, .int .i64 s.2.1, .string (str s.2.2.1), .int .i64 s.2.2.2, .slice ao ll.length ac, .slice so ls.length sc] 28)).alloc (.cells #[.int .i64 0, .int .i64 0, .string ⟨#[]⟩, .int .i64 0, .slice none 0 0, .slice none 0 0] 28)) ?_ ((Only.refl [] _).alloc _) (by simp)
    rw [show w.heap.size + 1 = (w.alloc (.cells #[.int .i64 s.1, .int .i64 s.2.1, .string (str s.2.2.1), .int .i64 s.2.2.2, .slice ao ll.length ac, .slice so ls.length sc] 28)).heap.size by simp]
    exact frB_new _ (0, 0, [], 0) _ _ _
  have SG : FrB W0 (w.heap.size + 1 + 1) s (.slice none 0 0) (.slice none 0 0) := by
    rw [hW0]
    rw [show w.heap.size + 1 + 1 = ((w.alloc (.cells #[.int .i64 s.1, .int .i64 s.2.1, .string (str s.2.2.1), .int .i64 s.2.2.2, .slice ao ll.length ac, .slice so ls.length sc] 28)).alloc (.cells #[.int .i64 0, .int .i64 0, .string ⟨#[]⟩, .int .i64 0, .slice none 0 0, .slice none 0 0] 28)).heap.size by simp]
    exact frB_new _ s _ _ _
  have rl0 := hid (rl.only0 o1)
  have hSA := hid SA
  have hSZ := hid SZ
  have hSG := hid SG
  replace o1 := hid o1
  replace hsz := hid hsz
  replace rs := hid rs
  clear hl' hs' rl
  have K0 := (frB_new w s (.slice ao ll.length ac) (.slice so ls.length sc) 28)
  obtain ⟨u0, u1, u2, u3, _, _, _⟩ := K0.only ((Only.refl [] _).alloc (.cells #[.int .i64 0, .int .i64 0, .string ⟨#[]⟩, .int .i64 0, .slice none 0 0, .slice none 0 0] 28)) (by simp)
  clear K0
  obtain ⟨_, _, _, _, c4, c5, _⟩ := SA
  obtain ⟨_, _, _, _, g4, g5, gf⟩ := SG
  have f4 := gf 4
  have f5 := gf 5
  clear gf SZ
  simp only [frV]
  subst hW0
  go_enter Tryz.func5, Tryz.ntmps5
  go_wp2_with (first
    | (refine wpList_append_any rfl (.tmp 8) (.tmp 10) elVt Tryz.underlying26 rfl (B := w.heap.size + 3) (ys := vcs ll) (d := dl) rfl rfl (World.ownsRow_nil _ _ _ _) rl0.out (vcs_length ll) (vcs_one ll) el (by omega) (by simp) ?_
       intro ao1 cap1 w1 hA1
       have r1 := hA1.own
       rw [List.nil_append, Nat.zero_add] at r1
       replace r1 := hid r1
       have q1 := hA1.only
       simp only [Value.ownBlock, Option.toList_none] at q1
       have G1 := hSG.out.only q1 (by simp)
       have hf4 := G1.f0 4
       have hc4 := G1.c4
       have k1 := hid (G1.set4c (.slice ao1 ll.length cap1))
       have e5 := k1.out.c5
       have o2 := hid ((o1.out.trans q1 (by simp)).next (only_set w1 (w.heap.size + 1 + 1) 4 (.slice ao1 ll.length cap1)) (fun x hx => by simp at hx; omega))
       have rs2 := hid (rs.out.only0 o2.out)
       have A5 := (((hSA.out.only q1 (by simp)).only (only_set w1 (w.heap.size + 1 + 1) 4 (.slice ao1 ll.length cap1)) (by simp; omega))).c5
       have Z2 := hid ((hSZ.out.only q1 (by simp)).only (only_set w1 (w.heap.size + 1 + 1) 4 (.slice ao1 ll.length cap1)) (by simp))
       have s2 : w.heap.size + 3 ≤ (w1.setCell ⟨w.heap.size + 1 + 1, 4, none⟩ (.slice ao1 ll.length cap1)).heap.size := by have h1 := q1.size; have h2 := hsz.out; have h3 := (only_set w1 (w.heap.size + 1 + 1) 4 (.slice ao1 ll.length cap1)).size; omega
       have r1b := hid (own_rd_set r1.out (only_set w1 (w.heap.size + 1 + 1) 4 (.slice ao1 ll.length cap1)) (by omega))
       replace s2 := hid s2
       clear hA1 G1 q1 r1)
    | (refine wpList_append_any rfl (.tmp 14) (.tmp 16) elVt Tryz.underlying26 rfl (B := w.heap.size + 3) (ys := vcs ls) (d := ds) rfl rfl (World.ownsRow_nil _ _ _ _) rs2.out (vcs_length ls) (vcs_one ls) es (by omega) s2.out ?_
       intro ao2 cap2 w3 hA2
       have r2 := hA2.own
       rw [List.nil_append, Nat.zero_add] at r2
       have q2 := hA2.only
       simp only [Value.ownBlock, Option.toList_none] at q2
       have G2 := k1.out.only q2 (by simp)
       have hf5 := G2.f0 5
       have hc5 := G2.c5
       have T := G2.set5c (.slice ao2 ls.length cap2)
       have hT := hid T
       obtain ⟨t0, t1, t2, t3, t4, t5, _⟩ := T
       have Z4 := (Z2.out.only q2 (by simp)).only (only_set w3 (w.heap.size + 1 + 1) 5 (.slice ao2 ls.length cap2)) (by simp)
       have hZ4 := hid Z4
       obtain ⟨z0, z1, z2, z3, z4, z5, zf⟩ := Z4
       have y0 := zf 0
       have y1 := zf 1
       have y2 := zf 2
       have y3 := zf 3
       have y4 := zf 4
       have y5 := zf 5
       clear zf
       have r2b := hid (own_rd_set r2 (only_set w3 (w.heap.size + 1 + 1) 5 (.slice ao2 ls.length cap2)) (by omega))
       have r1c := hid (own_rd_set (rows_only r1b.out q2 (by simp)) (only_set w3 (w.heap.size + 1 + 1) 5 (.slice ao2 ls.length cap2)) (by omega))
       have o4 := hid ((o2.out.trans q2 (by simp)).next (only_set w3 (w.heap.size + 1 + 1) 5 (.slice ao2 ls.length cap2)) (fun x hx => by simp at hx; omega))
       clear hA2 G2 q2 r2))
  obtain ⟨P, oP⟩ := hZ4.out.put s (.slice ao1 ll.length cap1) (.slice ao2 ls.length cap2)
  obtain ⟨d0, d1, d2, d3, d4, d5, _⟩ := P
  refine bodyPost_ret (v := frV s (.slice ao1 ll.length cap1) (.slice ao2 ls.length cap2)) (by simp [results, Tryz.results5, go_sem, d0, d1, d2, d3, d4, d5, frV]) rfl ?_
  exact ⟨_, _, rfl, rows_mono (own_rd_set r1c.out oP (by omega)) (by omega), rows_mono (own_rd_set r2b.out oP (by omega)) (by omega), o4.out.next oP (by simp)⟩

end Go.Proofs.YtpjkgdkebkkjeaaGreatDoor
