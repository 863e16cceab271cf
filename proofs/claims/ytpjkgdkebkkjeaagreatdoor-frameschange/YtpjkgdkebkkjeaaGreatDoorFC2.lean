/-
  The contracts of frames' twin, Twin. A row has at most eight million places.
-/
import Derived.Test.YtpjkgdkebkkjeaaGreatDoorFC1
namespace Go.Proofs.YtpjkgdkebkkjeaaGreatDoor
open Go.RowKit

theorem fr_field (a b c d e f : Value) (w : World) : (Instr.field 45 (.agg #[a, b, c, d, e, f]) 0).run Tryz.prog w = .ok (.agg #[a, b, c, d, e, f]) w := by kernel_rfl
/-- What a block holds of a row that is owned. -/
theorem own_block {w : World} {B : Nat} {v : Value} {l : List Vt} (h : OwV w B v l) {k : Nat} (hk : v.ownBlock = some k) : B ≤ k ∧ k < w.heap.size := by
  obtain ⟨ao, cap, rfl⟩ := rows_slice h
  obtain ⟨_, _, _, _, h5⟩ := RS.of_owns h
  cases ao with
  | none => cases hk
  | some a =>
    simp [Value.ownBlock] at hk
    subst hk
    exact ⟨(h5 a rfl).1, (h5 a rfl).2.1⟩
/-- Both rows are made, and both cells are written. -/
theorem tw2_fin {w wb w1 w2 : World} {s : Vt} {x y v1 v2 : Value} {g : Nat} {ll ls : List Vt} (hg : g = w.heap.size) (hb : FrB wb g s x y) (hz : FrB wb (g + 1) (0, 0, [], 0) (.slice none 0 0) (.slice none 0 0)) (hs : w.heap.size + 2 ≤ wb.heap.size) (Q : Only [] w wb) (q1 : Only [] wb w1) (q2 : Only [] w1 w2)
    (r1 : OwV w1 wb.heap.size v1 ll) (r2 : OwV w2 w1.heap.size v2 ls) (w3 : World) (h3 : w3 = (w2.setCell ⟨g, 4, none⟩ v1).setCell ⟨g, 5, none⟩ v2) :
    FrB w3 g s v1 v2 ∧ OwV w3 (w.heap.size + 2) v1 ll ∧ OwV w3 (w.heap.size + 2) v2 ls ∧ (∀ k, v1.ownBlock = some k → v2.ownBlock ≠ some k) ∧ Only [] w w3 ∧ FrB w3 (g + 1) (0, 0, [], 0) (.slice none 0 0) (.slice none 0 0) := by
  subst h3
  have o12 : Only [] wb w2 := q1.trans q2 (by simp)
  have hb2 := hb.only o12 (by simp)
  have hz2 := hz.only o12 (by simp)
  have oset : Only [g] w2 ((w2.setCell ⟨g, 4, none⟩ v1).setCell ⟨g, 5, none⟩ v2) := ((Only.refl [g] w2).setCell (.inl (by simp)) v1).setCell (.inl (by simp)) v2
  have r1' : OwV w2 wb.heap.size v1 ll := rows_only r1 q2 (by simp)
  have n1 : ∀ k, v1.ownBlock = some k → k ∉ [g] := fun k hk hm => by
    have := (own_block r1 hk).1
    have : k = g := by simpa using hm
    omega
  have n2 : ∀ k, v2.ownBlock = some k → k ∉ [g] := fun k hk hm => by
    have h1 := (own_block r2 hk).1
    have h2 := q1.size
    have : k = g := by simpa using hm
    omega
  refine ⟨⟨?_, ?_, ?_, ?_, ?_, ?_, fun j => ?_⟩, rows_mono (rows_only r1' oset n1) (by omega), rows_mono (rows_only r2 oset n2) (by have := q1.size; omega), fun k h1 h2 => ?_, ?_, ?_⟩
  · rw [cell_setCell_ne _ _ (by simp), cell_setCell_ne _ _ (by simp)]; exact hb2.c0
  · rw [cell_setCell_ne _ _ (by simp), cell_setCell_ne _ _ (by simp)]; exact hb2.c1
  · rw [cell_setCell_ne _ _ (by simp), cell_setCell_ne _ _ (by simp)]; exact hb2.c2
  · rw [cell_setCell_ne _ _ (by simp), cell_setCell_ne _ _ (by simp)]; exact hb2.c3
  · rw [cell_setCell_ne _ _ (by simp)]; exact cell_setCell_same _ _ hb2.c4
  · exact cell_setCell_same _ _ (by rw [cell_setCell_ne _ _ (by simp)]; exact hb2.c5)
  · rw [frozen_setCell, frozen_setCell]; exact hb2.f0 j
  · have a := (own_block r1 h1).2
    have b := (own_block r2 h2).1
    omega
  · exact ((Q.trans o12 (by simp)).setCell (.inr (by show w.heap.size ≤ g; omega)) v1).setCell (.inr (by show w.heap.size ≤ g; omega)) v2
  · exact hz2.only oset (by simp)

/-- A frame's cells are written over. -/
theorem FrB.put {w : World} {b : Nat} {s0 : Vt} {x0 y0 : Value} (h : FrB w b s0 x0 y0) (s : Vt) (x y : Value) :
    FrB ((((((w.setCell ⟨b, 0, none⟩ (.int .i64 s.1)).setCell ⟨b, 1, none⟩ (.int .i64 s.2.1)).setCell ⟨b, 2, none⟩ (.string (str s.2.2.1))).setCell ⟨b, 3, none⟩ (.int .i64 s.2.2.2)).setCell ⟨b, 4, none⟩ x).setCell ⟨b, 5, none⟩ y) b s x y ∧
    Only [b] w ((((((w.setCell ⟨b, 0, none⟩ (.int .i64 s.1)).setCell ⟨b, 1, none⟩ (.int .i64 s.2.1)).setCell ⟨b, 2, none⟩ (.string (str s.2.2.1))).setCell ⟨b, 3, none⟩ (.int .i64 s.2.2.2)).setCell ⟨b, 4, none⟩ x).setCell ⟨b, 5, none⟩ y) := by
  refine ⟨⟨?_, ?_, ?_, ?_, ?_, ?_, fun j => ?_⟩, ?_⟩
  · rw [cell_setCell_ne _ _ (by simp), cell_setCell_ne _ _ (by simp), cell_setCell_ne _ _ (by simp), cell_setCell_ne _ _ (by simp), cell_setCell_ne _ _ (by simp)]
    exact cell_setCell_same _ _ h.c0
  · rw [cell_setCell_ne _ _ (by simp), cell_setCell_ne _ _ (by simp), cell_setCell_ne _ _ (by simp), cell_setCell_ne _ _ (by simp)]
    exact cell_setCell_same _ _ (by rw [cell_setCell_ne _ _ (by simp)]; exact h.c1)
  · rw [cell_setCell_ne _ _ (by simp), cell_setCell_ne _ _ (by simp), cell_setCell_ne _ _ (by simp)]
    exact cell_setCell_same _ _ (by rw [cell_setCell_ne _ _ (by simp), cell_setCell_ne _ _ (by simp)]; exact h.c2)
  · rw [cell_setCell_ne _ _ (by simp), cell_setCell_ne _ _ (by simp)]
    exact cell_setCell_same _ _ (by rw [cell_setCell_ne _ _ (by simp), cell_setCell_ne _ _ (by simp), cell_setCell_ne _ _ (by simp)]; exact h.c3)
  · rw [cell_setCell_ne _ _ (by simp)]
    exact cell_setCell_same _ _ (by rw [cell_setCell_ne _ _ (by simp), cell_setCell_ne _ _ (by simp), cell_setCell_ne _ _ (by simp), cell_setCell_ne _ _ (by simp)]; exact h.c4)
  · exact cell_setCell_same _ _ (by rw [cell_setCell_ne _ _ (by simp), cell_setCell_ne _ _ (by simp), cell_setCell_ne _ _ (by simp), cell_setCell_ne _ _ (by simp), cell_setCell_ne _ _ (by simp)]; exact h.c5)
  · simp only [frozen_setCell]
    exact h.f0 j
  · exact ((((((Only.refl [b] w).setCell (.inl (by simp)) _).setCell (.inl (by simp)) _).setCell (.inl (by simp)) _).setCell (.inl (by simp)) _).setCell (.inl (by simp)) _).setCell (.inl (by simp)) _

set_option maxHeartbeats 4000000 in
set_option maxRecDepth 100000 in
theorem ftwin_any {w : World} (s : Vt) {ll ls : List Vt} {vl vs : Value} (hl : Rd w vl ll) (hs : Rd w vs ls) (n1 : ll.length ≤ 8000000) (n2 : ls.length ≤ 8000000) :
    Calls Tryz.prog 18 #[frV s vl vs] w (TwV w s ll ls) := by
  obtain ⟨ao, ac, rfl⟩ := hl.shape
  obtain ⟨so, sc, rfl⟩ := hs.shape
  have H1 := hid (fun W (hW : Only [] w W) => fapart_any (hl.only0 hW) n1)
  have H2 := hid (fun W (hW : Only [] w W) => fapart_any (hs.only0 hW) n2)
  clear hl hs
  have o1 := ((Only.refl [] w).alloc (.cells #[.int .i64 s.1, .int .i64 s.2.1, .string (str s.2.2.1), .int .i64 s.2.2.2, .slice ao ll.length ac, .slice so ls.length sc] 45)).alloc (.cells #[.int .i64 0, .int .i64 0, .string ⟨#[]⟩, .int .i64 0, .slice none 0 0, .slice none 0 0] 45)
  have SA := (frB_new w s (.slice ao ll.length ac) (.slice so ls.length sc) 45).only ((Only.refl [] _).alloc (.cells #[.int .i64 0, .int .i64 0, .string ⟨#[]⟩, .int .i64 0, .slice none 0 0, .slice none 0 0] 45)) (by simp)
  replace o1 := hid o1
  have hSA := hid SA
  have hZ := frB_new (w.alloc (.cells #[.int .i64 s.1, .int .i64 s.2.1, .string (str s.2.2.1), .int .i64 s.2.2.2, .slice ao ll.length ac, .slice so ls.length sc] 45)) (0, 0, [], 0) (.slice none 0 0) (.slice none 0 0) 45
  rw [World.size_alloc] at hZ
  replace hZ := hid hZ
  obtain ⟨c0, c1, c2, c3, c4, c5, f0⟩ := SA
  have f4 := f0 4
  have f5 := f0 5
  clear f0
  simp only [frV]
  go_enter Tryz.func18, Tryz.ntmps18
  go_upto_region 1 with fail
  go_cut [] (fun wx => ∃ v1 v2, Hid (FrB wx w.heap.size s v1 v2) ∧ Hid (OwV wx (w.heap.size + 2) v1 ll) ∧ Hid (OwV wx (w.heap.size + 2) v2 ls) ∧ Hid (∀ k, v1.ownBlock = some k → v2.ownBlock ≠ some k) ∧ Hid (Only [] w wx) ∧ Hid (FrB wx (w.heap.size + 1) (0, 0, [], 0) (.slice none 0 0) (.slice none 0 0)))
  case first =>
    go_region_with (first
      | (go_at_call 36; (with_reducible refine (H1.out _ o1.out.drew).mono ?_); rintro e w1 ⟨p1, k1, rfl, r1, q1⟩; have Q1 := hid (o1.out.drew.trans q1 (by simp)); obtain ⟨d0, d1, d2, d3, d4, d5, df⟩ := hSA.out.only ((Only.refl [] _).drew.trans q1 (by simp)) (by simp); have g4 := df 4; have g5 := df 5; clear df)
      | (go_at_call 36; (with_reducible refine (H2.out _ Q1.out).mono ?_); rintro e w2 ⟨p2, k2, rfl, r2, q2⟩; have Q2 := hid (Q1.out.trans q2 (by simp)); obtain ⟨e0, e1, e2, e3, e4, e5, ef⟩ := hSA.out.only (((Only.refl [] _).drew.trans q1 (by simp)).trans q2 (by simp)) (by simp); have h4 := ef 4; have h5 := ef 5; clear ef))
    all_goals
      have fin := hid (tw2_fin rfl hSA.out hZ.out (by simp) o1.out ((Only.refl [] _).drew.trans q1 (by simp)) q2 r1 r2 _ rfl)
      clear H1 H2 hSA hZ o1 Q1 Q2 q1 q2 r1 r2 c0 c1 c2 c3 c4 c5 f4 f5 d0 d1 d2 d3 d4 d5 g4 g5
      go_wp2
      go_meet
      exact ⟨_, _, hid fin.out.1, hid fin.out.2.1, hid fin.out.2.2.1, hid fin.out.2.2.2.1, hid fin.out.2.2.2.2.1, hid fin.out.2.2.2.2.2⟩
  case rest =>
    obtain ⟨v1, v2, hF, R1, R2, hN, hO, hZ2⟩ := hcut
    obtain ⟨p1, k1, rfl⟩ := rows_slice R1.out
    obtain ⟨p2, k2, rfl⟩ := rows_slice R2.out
    clear H1 H2 hSA hZ c0 c1 c2 c3 c4 c5 f4 f5
    obtain ⟨c0, c1, c2, c3, c4, c5, _⟩ := hF.out
    obtain ⟨z0, z1, z2, z3, z4, z5, zf⟩ := hZ2.out
    have y0 := zf 0
    have y1 := zf 1
    have y2 := zf 2
    have y3 := zf 3
    have y4 := zf 4
    have y5 := zf 5
    clear zf
    go_wp2
    obtain ⟨T, oT⟩ := hZ2.out.put s (.slice p1 ll.length k1) (.slice p2 ls.length k2)
    obtain ⟨d0, d1, d2, d3, d4, d5, _⟩ := T
    refine bodyPost_ret (v := frV s (.slice p1 ll.length k1) (.slice p2 ls.length k2)) (by simp [results, Tryz.results18, go_sem, d0, d1, d2, d3, d4, d5, frV]) rfl ?_
    have hs := hO.out.size
    refine ⟨_, _, rfl, rows_mono (rows_only R1.out oT fun k hk hm => ?_) (by omega), rows_mono (rows_only R2.out oT fun k hk hm => ?_) (by omega), hN.out, hO.out.next oT (by simp)⟩
    · have := (own_block R1.out hk).1
      simp at hm
      omega
    · have := (own_block R2.out hk).1
      simp at hm
      omega

set_option maxHeartbeats 4000000 in
set_option maxRecDepth 100000 in
theorem fTwin_any {w : World} (s : Vt) {ll ls : List Vt} {vl vs : Value} (hl : Rd w vl ll) (hs : Rd w vs ls) (n1 : ll.length ≤ 8000000) (n2 : ls.length ≤ 8000000) :
    Calls Tryz.prog 7 #[frV s vl vs] w (TwV w s ll ls) := by
  obtain ⟨ao, ac, rfl⟩ := hl.shape
  obtain ⟨so, sc, rfl⟩ := hs.shape
  have H1 := hid (fun W (hW : Only [] w W) => ftwin_any s (hl.only0 hW) (hs.only0 hW) n1 n2)
  clear hl hs
  have o1 := ((Only.refl [] w).alloc (.cells #[.int .i64 s.1, .int .i64 s.2.1, .string (str s.2.2.1), .int .i64 s.2.2.2, .slice ao ll.length ac, .slice so ls.length sc] 28)).alloc (.cells #[.int .i64 0, .int .i64 0, .string ⟨#[]⟩, .int .i64 0, .slice none 0 0, .slice none 0 0] 28)
  have SA := (frB_new w s (.slice ao ll.length ac) (.slice so ls.length sc) 28).only ((Only.refl [] _).alloc (.cells #[.int .i64 0, .int .i64 0, .string ⟨#[]⟩, .int .i64 0, .slice none 0 0, .slice none 0 0] 28)) (by simp)
  replace o1 := hid o1
  have hZ := frB_new (w.alloc (.cells #[.int .i64 s.1, .int .i64 s.2.1, .string (str s.2.2.1), .int .i64 s.2.2.2, .slice ao ll.length ac, .slice so ls.length sc] 28)) (0, 0, [], 0) (.slice none 0 0) (.slice none 0 0) 28
  rw [World.size_alloc] at hZ
  replace hZ := hid hZ
  obtain ⟨c0, c1, c2, c3, c4, c5, _⟩ := SA
  simp only [frV] at H1 ⊢
  go_enter Tryz.func7, Tryz.ntmps7
  go_wp2_with fail
  refine (H1.out _ o1.out).mono ?_
  rintro e w1 ⟨v1, v2, rfl, r1, r2, hN, q1⟩
  obtain ⟨p1, k1, rfl⟩ := rows_slice r1
  obtain ⟨p2, k2, rfl⟩ := rows_slice r2
  obtain ⟨z0, z1, z2, z3, z4, z5, zf⟩ := hZ.out.only q1 (by simp)
  have y0 := zf 0
  have y1 := zf 1
  have y2 := zf 2
  have y3 := zf 3
  have y4 := zf 4
  have y5 := zf 5
  clear zf c0 c1 c2 c3 c4 c5
  have ff := fr_field (.int .i64 s.1) (.int .i64 s.2.1) (.string (str s.2.2.1)) (.int .i64 s.2.2.2) (.slice p1 ll.length k1) (.slice p2 ls.length k2)
  simp only [frV]
  go_wp2
  obtain ⟨T, oT⟩ := (hZ.out.only q1 (by simp)).put s (.slice p1 ll.length k1) (.slice p2 ls.length k2)
  obtain ⟨d0, d1, d2, d3, d4, d5, _⟩ := T
  refine bodyPost_ret (v := frV s (.slice p1 ll.length k1) (.slice p2 ls.length k2)) (by simp [results, Tryz.results7, go_sem, d0, d1, d2, d3, d4, d5, frV]) rfl ?_
  have q2 := o1.out.trans q1 (by simp)
  simp only [World.size_alloc] at r1 r2
  refine ⟨_, _, rfl, rows_mono (rows_only r1 oT fun k hk hm => ?_) (by omega), rows_mono (rows_only r2 oT fun k hk hm => ?_) (by omega), hN, q2.next oT (by simp)⟩
  · have := (own_block r1 hk).1
    simp at hm
    omega
  · have := (own_block r2 hk).1
    simp at hm
    omega

end Go.Proofs.YtpjkgdkebkkjeaaGreatDoor
