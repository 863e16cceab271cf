/-
  The contract of the writer of maps: put. Maps of at most 1000 places each.
-/
import Derived.Test.YtmghmmkjcgopaaaGWr2
namespace Go.Proofs.Ytmghmmkjcgopaaa
open Go.RowKit

/-- What stands all along in put: the writer, the map's box. -/
structure PuI (w wx : World) (B q p g g' : Nat) (m : Mp) (v1 v2 : Value) (P : List Bool) (s : List UInt8 × Int) : Prop where
  bw : BW wx B q p g' P s
  gg : g' = g ∨ w.heap.size < g'
  box : Mf wx w.heap.size m.1 v1 v2
  o : Only [q, p, g] w wx
  le : w.heap.size < wx.heap.size
  old : q < w.heap.size ∧ p < w.heap.size ∧ g < w.heap.size

theorem PuI.gone {w wx W' w3 : World} {B q p g g' : Nat} {m : Mp} {v1 v2 : Value} {P Q : List Bool} {s s' : List UInt8 × Int} (h : PuI w wx B q p g g' m v1 v2 P s) (hO : Only [] wx W') {g3 : Nat} (hb : BW w3 B q p g3 Q s') (hg : g3 = g' ∨ W'.heap.size ≤ g3) {S : List Nat} (ho : Only S W' w3) (hS : ∀ x, x ∈ S → x = q ∨ x = p ∨ x = g') : PuI w w3 B q p g g3 m v1 v2 Q s' := by
  have h1 := hO.size
  have h2 := ho.size
  have h3 := h.le
  have h4 := h.gg
  have h5 := h.old
  have o2 := only_two hO ho
  refine ⟨hb, by omega, h.box.only o2 (fun hx => ?_), h.o.trans o2 (fun x hx => ?_), by omega, h5⟩
  · have := hS _ hx
    omega
  · have := hS _ hx
    simp
    omega

theorem PuI.drew {w wx : World} {B q p g g' : Nat} {m : Mp} {v1 v2 : Value} {P : List Bool} {s : List UInt8 × Int} (h : PuI w wx B q p g g' m v1 v2 P s) : PuI w wx.drew B q p g g' m v1 v2 P s :=
  ⟨h.bw.only ((Only.refl [] wx).drew) (by simp) (by simp) (by simp), h.gg, h.box, h.o.drew, h.le, h.old⟩

theorem pu_to {w wx W' w3 : World} {B q p g g' : Nat} {m : Mp} {v1 v2 : Value} {P : List Bool} {s s' : List UInt8 × Int} (h : PuI w wx B q p g g' m v1 v2 P s) (hO : Only [] wx W') (hto : WTo W' B p g' w3 s') : ∃ g3, Hid (PuI w w3 B q p g g3 m v1 v2 P s') := by
  obtain ⟨g3, hb, hg, ho⟩ := (h.bw.only hO (by simp) (by simp) (by simp)).gone hto
  exact ⟨g3, h.gone hO hb hg ho (fun x hx => by simp at hx; omega)⟩

theorem pu_bto {w wx w3 : World} {B q p g g' : Nat} {m : Mp} {v1 v2 : Value} {P : List Bool} {s : List UInt8 × Int} {t : WSt} (h : PuI w wx B q p g g' m v1 v2 P s) (hto : BTo wx B q p g' w3 t) : ∃ g3, Hid (PuI w w3 B q p g g3 m v1 v2 t.1 t.2) := by
  obtain ⟨g3, hb, hg, ho⟩ := hto
  exact ⟨g3, h.gone (Only.refl [] wx) hb hg ho (fun x hx => by simp at hx; omega)⟩

/-- The rows of the map are read all along. -/
theorem pu_row {w wx : World} {B q p g g' : Nat} {m : Mp} {v1 v2 : Value} {P : List Bool} {s : List UInt8 × Int} (h : PuI w wx B q p g g' m v1 v2 P s) {ao : Option Addr} {n cap d : Nat} {l : List Bool} (hS : Sl w (fun b => b ∉ [q, p, g]) ao n cap (lcs l) d) : RS wx ao (lcs l) d ∧ (l ≠ [] → d ∉ [q, p, g']) := by
  refine ⟨hS.rs.only h.o hS.ok, fun hl => ?_⟩
  have hn : lcs l ≠ [] := by cases l with | nil => exact absurd rfl hl | cons => simp [lcs]
  have h1 := hS.ok hn
  have h2 := hS.rs.lt hn
  have h3 := h.gg
  simp at h1 ⊢
  omega

theorem wBits_lt (P : List Bool) (s : List UInt8 × Int) (l : List Bool) (hP : P.length < 8) : (wBits (P, s) l).1.length < 8 := by
  obtain ⟨Y, _, _, h⟩ := wBits_parts P s hP l
  exact h

theorem wBits_len2 (P : List Bool) (s : List UInt8 × Int) (l : List Bool) (hP : P.length < 8) : (wBits (P, s) l).2.1.length ≤ s.1.length + l.length + 1 := by
  obtain ⟨Y, h1, h2, h3⟩ := wBits_parts P s hP l
  have hl := congrArg List.length h2
  rw [List.length_append, List.length_append, unpack_len] at hl
  have := wPut_len s Y
  rw [h1]
  omega

theorem wBits_len (P : List Bool) (s : List UInt8 × Int) (l : List Bool) (hP : P.length = 0) : (wBits (P, s) l).2.1.length ≤ s.1.length + l.length := by
  obtain ⟨Y, h1, h2, h3⟩ := wBits_parts P s (by omega) l
  have hl := congrArg List.length h2
  rw [List.length_append, List.length_append, unpack_len] at hl
  have := wPut_len s Y
  rw [h1]
  omega

theorem nx_one (w : World) (x : Int) : NX .i64 (w.alloc (.cells #[.int .i64 x] 3)) (some ⟨w.heap.size, 0, none⟩) [x] w.heap.size := by
  refine .inr ⟨0, rfl, fun j hj => ?_⟩
  have : j = 0 := by simpa using hj
  subst this
  rw [cell_new]
  rfl

theorem nx_two (w : World) (x y : Int) : NX .i64 (w.alloc (.cells #[.int .i64 x, .int .i64 y] 3)) (some ⟨w.heap.size, 0, none⟩) [x, y] w.heap.size := by
  refine .inr ⟨0, rfl, fun j hj => ?_⟩
  have : j = 0 ∨ j = 1 := by simp at hj; omega
  rcases this with rfl | rfl <;> rw [cell_new] <;> rfl

theorem wAll_lenI (size : Nat) (s : List UInt8 × Int) (l : List Int) (n : Nat) (h : s.1.length ≤ n) : (wAll size s l).1.length ≤ n + size * l.length := Nat.le_trans (wAll_len size s l) (by omega)

set_option maxHeartbeats 4000000 in
theorem mput_any {w : World} {B q p g : Nat} {s : List UInt8 × Int} {m : Mp} {v1 v2 : Value} (h : BW w B q p g [] s) (hsz : s.1.length ≤ 10000000000) (s1 : SlV w (fun b => b ∉ [q, p, g]) v1 m.2.1.length (lcs m.2.1)) (s2 : SlV w (fun b => b ∉ [q, p, g]) v2 m.2.2.length (lcs m.2.2)) (hl1 : m.2.1.length ≤ 1000) (hl2 : m.2.2.length ≤ 1000) :
    Calls Try.prog 19 #[.pointer (some ⟨q, 0, none⟩), .agg #[.int .i64 m.1, v1, v2]] w fun e w' => e = .returned (.tuple #[]) ∧ BTo w B q p g w' ([], mPut s m) := by
  obtain ⟨a1, cp1, d1, rfl, sl1⟩ := s1
  obtain ⟨a2, cp2, d2, rfl, sl2⟩ := s2
  have hI0 : PuI w (w.alloc (.cells #[.int .i64 m.1, .slice a1 m.2.1.length cp1, .slice a2 m.2.2.length cp2] 27)) B q p g g m (.slice a1 m.2.1.length cp1) (.slice a2 m.2.2.length cp2) [] s := by
    have := h.wr.lt
    exact ⟨h.only ((Only.refl [] w).alloc _) (by simp) (by simp) (by simp), .inl rfl, mf_new _ _ _ _ _, (Only.refl _ w).alloc _, by simp, ⟨h.lt, this.1, this.2.1⟩⟩
  obtain ⟨W0, hW0⟩ : ∃ W0, W0 = w.alloc (.cells #[.int .i64 m.1, .slice a1 m.2.1.length cp1, .slice a2 m.2.2.length cp2] 27) := ⟨_, rfl⟩
  rw [← hW0] at hI0
  replace hW0 := hid hW0
  have k0 := hI0.bw.c0
  obtain ⟨k1, k2, k3⟩ := hI0.box
  have HU : Hid (∀ W', Only [] W0 W' → NX .i64 W' (some ⟨W0.heap.size, 0, none⟩) [m.1] W0.heap.size → Calls Try.prog 32 #[.pointer (some ⟨p, 0, none⟩), .slice (some ⟨W0.heap.size, 0, none⟩) 1 1] W' fun e w' => e = .returned (.tuple #[]) ∧ WTo W' B p g w' (wAll 2 s [m.1])) := fun W' hO hb => wu2_any (hI0.bw.wr.only hO (by simp) (by simp)) hb (lcap := 1) (fun _ => by have := hI0.bw.wr.lt; simp; omega) (by simp; omega)
  have hO1 : Only [] W0 (W0.alloc (.cells #[.int .i64 m.1] 3)) := (Only.refl [] W0).alloc _
  have hO2 : Only [] W0 (W0.alloc (.cells #[.int .i64 m.1] 3)).drew := hO1.drew
  have hb1 := nx_one W0 m.1
  have hb2 := hb1.only ((Only.refl [] (W0.alloc (.cells #[.int .i64 m.1] 3))).drew) (by simp)
  have a0 := fun o => cell_alloc o k0
  have a1' := fun o => cell_alloc o k1
  replace hI0 := hid hI0
  go_enter Try.func19, Try.ntmps19
  go_upto_region 1 with fail
  rw [← hW0.out]
  go_cut [] (fun wx => ∃ g', Hid (PuI w wx B q p g g' m (.slice a1 m.2.1.length cp1) (.slice a2 m.2.2.length cp2) [] (wAll 2 s [m.1])))
  case first =>
    go_region_with (go_at_call 32; (with_reducible refine (HU.out _ ?_ ?_).mono ?_); (with_reducible first | exact hO1 | exact hO2); (with_reducible first | exact hb1 | exact hb2); rintro e w3 ⟨rfl, hto⟩; have fin := hid (pu_to hI0.out (by first | exact hO1 | exact hO2) hto))
    all_goals
      clear a0 a1' k0 k1 k2 k3 hto
      go_wp2
      go_meet
      exact fin.out
  case rest =>
    obtain ⟨gx, hI1⟩ := hcut
    have hs1 := wAll_lenI 2 s [m.1] _ hsz
    obtain ⟨t1, ht1⟩ : ∃ t1, t1 = wAll 2 s [m.1] := ⟨_, rfl⟩
    rw [← ht1] at hI1 hs1
    clear HU hO1 hO2 hb1 hb2 a0 a1' k0 k1 k2 k3 hI0 hW0
    replace ht1 := hid ht1
    have k0 := hI1.out.bw.c0
    obtain ⟨k1, k2, k3⟩ := hI1.out.box
    have HU : Hid (∀ W', Only [] wc W' → NX .i64 W' (some ⟨wc.heap.size, 0, none⟩) [(m.2.1.length : Int), (m.2.2.length : Int)] wc.heap.size → Calls Try.prog 33 #[.pointer (some ⟨p, 0, none⟩), .slice (some ⟨wc.heap.size, 0, none⟩) 2 2] W' fun e w' => e = .returned (.tuple #[]) ∧ WTo W' B p gx w' (wAll 1 t1 [(m.2.1.length : Int), (m.2.2.length : Int)])) := fun W' hO hb => wu1_any (hI1.out.bw.wr.only hO (by simp) (by simp)) hb (lcap := 2) (fun _ => by have := hI1.out.bw.wr.lt; simp; omega) (by simp at hs1 ⊢; omega)
    have hO1 : Only [] wc (wc.alloc (.cells #[.int .i64 (m.2.1.length : Int), .int .i64 (m.2.2.length : Int)] 3)) := (Only.refl [] wc).alloc _
    have hO2 : Only [] wc (wc.alloc (.cells #[.int .i64 (m.2.1.length : Int), .int .i64 (m.2.2.length : Int)] 3)).drew := hO1.drew
    have hb1 := nx_two wc (m.2.1.length : Int) (m.2.2.length : Int)
    have hb2 := hb1.only ((Only.refl [] (wc.alloc (.cells #[.int .i64 (m.2.1.length : Int), .int .i64 (m.2.2.length : Int)] 3))).drew) (by simp)
    have a0 := fun o => cell_alloc o k0
    have a2' := fun o => cell_alloc o k2
    have a3' := fun o => cell_alloc o k3
    go_upto_region 2 with fail
    go_cut [] (fun wx => ∃ g', Hid (PuI w wx B q p g g' m (.slice a1 m.2.1.length cp1) (.slice a2 m.2.2.length cp2) [] (wAll 1 t1 [(m.2.1.length : Int), (m.2.2.length : Int)])))
    case first =>
      go_region_with (go_at_call 33; (with_reducible refine (HU.out _ ?_ ?_).mono ?_); (with_reducible first | exact hO1 | exact hO2); (with_reducible first | exact hb1 | exact hb2); rintro e w3 ⟨rfl, hto⟩; have fin := hid (pu_to hI1.out (by first | exact hO1 | exact hO2) hto))
      all_goals
        clear a0 a2' a3' k0 k1 k2 k3 hto
        go_wp2
        go_meet
        exact fin.out
    case rest =>
      obtain ⟨gy, hI2⟩ := hcut
      have hs2 := wAll_lenI 1 t1 [(m.2.1.length : Int), (m.2.2.length : Int)] _ hs1
      have hmp : mPut s m = (wFill (wBits (wBits ([], wAll 1 t1 [(m.2.1.length : Int), (m.2.2.length : Int)]) m.2.1) m.2.2)).2 := by unfold mPut; rw [← ht1.out]
      obtain ⟨t2, ht2⟩ : ∃ t2, t2 = wAll 1 t1 [(m.2.1.length : Int), (m.2.2.length : Int)] := ⟨_, rfl⟩
      rw [← ht2] at hI2 hs2 hmp
      clear HU hO1 hO2 hb1 hb2 a0 a2' a3' k0 k1 k2 k3 hI1 ht1 ht2
      replace hmp := hid hmp
      simp at hs2
      have RD1 := hid (fun (wx : World) (g' : Nat) (P : List Bool) (t : List UInt8 × Int) (hI : PuI w wx B q p g g' m (.slice a1 m.2.1.length cp1) (.slice a2 m.2.2.length cp2) P t) => pu_row hI sl1)
      have RD2 := hid (fun (wx : World) (g' : Nat) (P : List Bool) (t : List UInt8 × Int) (hI : PuI w wx B q p g g' m (.slice a1 m.2.1.length cp1) (.slice a2 m.2.2.length cp2) P t) => pu_row hI sl2)
      obtain ⟨tL, htL⟩ : ∃ tL, tL = wBits ([], t2) m.2.1 := ⟨_, rfl⟩
      obtain ⟨tS, htS⟩ : ∃ tS, tS = wBits tL m.2.2 := ⟨_, rfl⟩
      have hlL : tL.2.1.length ≤ t2.1.length + m.2.1.length := by rw [htL]; exact wBits_len _ _ _ (by simp)
      have hlS : tS.2.1.length ≤ tL.2.1.length + m.2.2.length + 1 ∧ tS.1.length < 8 := by
        have h8 : tL.1.length < 8 := by rw [htL]; exact wBits_lt _ _ _ (by simp)
        rw [htS]
        exact ⟨wBits_len2 tL.1 tL.2 _ h8, wBits_lt _ _ _ h8⟩
      rw [← htL, ← htS] at hmp
      have HB1 : Hid (∀ wx g', PuI w wx B q p g g' m (.slice a1 m.2.1.length cp1) (.slice a2 m.2.2.length cp2) [] t2 → Calls Try.prog 34 #[.pointer (some ⟨q, 0, none⟩), .slice a1 m.2.1.length cp1] wx fun e w' => e = .returned (.tuple #[]) ∧ BTo wx B q p g' w' tL) := by
        rw [htL]
        exact fun wx g' hI => wbits_any hI.bw (RD1.out wx g' _ _ hI).1 (RD1.out wx g' _ _ hI).2 (by omega) (by omega)
      have HB2 : Hid (∀ wx g', PuI w wx B q p g g' m (.slice a1 m.2.1.length cp1) (.slice a2 m.2.2.length cp2) tL.1 tL.2 → Calls Try.prog 34 #[.pointer (some ⟨q, 0, none⟩), .slice a2 m.2.2.length cp2] wx fun e w' => e = .returned (.tuple #[]) ∧ BTo wx B q p g' w' tS) := by
        rw [htS]
        exact fun wx g' hI => wbits_any hI.bw (RD2.out wx g' _ _ hI).1 (RD2.out wx g' _ _ hI).2 (by omega) (by omega)
      have HB3 : Hid (∀ wx g', PuI w wx B q p g g' m (.slice a1 m.2.1.length cp1) (.slice a2 m.2.2.length cp2) tS.1 tS.2 → Calls Try.prog 35 #[.pointer (some ⟨q, 0, none⟩)] wx fun e w' => e = .returned (.tuple #[]) ∧ BTo wx B q p g' w' ([], mPut s m)) := by
        intro wx g' hI
        have := wfill_any hI.bw (by omega)
        rw [hmp.out]
        have h0 : wFill tS = ([], (wFill tS).2) := by rw [← wFill_nil tS hlS.2]
        rw [← h0]
        exact this
      clear RD1 RD2 hmp sl1 sl2 htL htS
      obtain ⟨k1, k2, k3⟩ := hI2.out.box
      have hI2d := hid hI2.out.drew
      go_upto_region 3 with fail
      go_region_with (go_at_call 34; (with_reducible refine (HB1.out _ gy ?_).mono ?_); (with_reducible first | exact hI2.out | exact hI2d.out); rintro e w4 ⟨rfl, hto4⟩; have fin4 := (by first | exact pu_bto hI2.out hto4 | exact pu_bto hI2d.out hto4 : ∃ g3, Hid (PuI w w4 B q p g g3 m (.slice a1 m.2.1.length cp1) (.slice a2 m.2.2.length cp2) tL.1 tL.2)); obtain ⟨g4, hI4⟩ := fin4; have hI4d := hid hI4.out.drew; clear hto4; obtain ⟨j1, j2, j3⟩ := hI4.out.box)
      all_goals
        clear hI2d hI2 HB1 k1 k2 k3
        go_upto_region 4 with fail
        go_region_with (go_at_call 34; (with_reducible refine (HB2.out _ g4 ?_).mono ?_); (with_reducible first | exact hI4.out | exact hI4d.out); rintro e w5 ⟨rfl, hto5⟩; have fin5 := (by first | exact pu_bto hI4.out hto5 | exact pu_bto hI4d.out hto5 : ∃ g3, Hid (PuI w w5 B q p g g3 m (.slice a1 m.2.1.length cp1) (.slice a2 m.2.2.length cp2) tS.1 tS.2)); obtain ⟨g5, hI5⟩ := fin5; clear hto5)
        all_goals
          clear hI4 hI4d HB2
          go_wp2_with (go_at_call 35; refine (HB3.out _ g5 hI5.out).mono ?_; rintro e w6 ⟨rfl, hto6⟩)
          go_end0
          obtain ⟨g6, hI6⟩ := pu_bto hI5.out hto6
          have hgg := hI6.out.gg
          exact ⟨rfl, g6, hI6.out.bw, by omega, hI6.out.o⟩

end Go.Proofs.Ytmghmmkjcgopaaa
