/-
  The contract of frames' replace. No conditions.
-/
import Derived.Test.YtpjkgdkebkkjeaaGreatDoorFC4
namespace Go.Proofs.YtpjkgdkebkkjeaaGreatDoor
open Go.RowKit

theorem Wr4.only2 {w w' : World} {S : List Nat} {v : Value} {l : List Vt} {g : Nat} (h : Wr4 w v l g) (ho : Only S w w') (hn : l ≠ [] → g ∉ S) : Wr4 w' v l g := by
  by_cases hl : l = []
  · subst hl
    exact ⟨h.shape, fun j u hj => by simp [vcs] at hj, fun h => absurd rfl h, fun h => absurd rfl h⟩
  · exact h.only ho (hn hl)

theorem Only.drewM {S : List Nat} {a w : World} (h : Only S a w) (n : Nat) : Only S a (w.drewN n) := ⟨h.os, h.tape, h.output, h.size, h.block⟩
/-- What stands all along: the frame, its rows, what is put for what, the list of both rows. -/
structure RpI (w wr : World) (g g1 g2 : Nat) (s a b : Vt) (v1 v2 : Value) (l1 l2 : List Vt) : Prop where
  fr : FrB wr g s v1 v2
  r1 : Wr4 wr v1 l1 g1
  r2 : Wr4 wr v2 l2 g2
  fa : VtAt wr w.heap.size 0 a
  fb : VtAt wr (w.heap.size + 1) 0 b
  q0 : wr.cell? ⟨w.heap.size + 2, 0, none⟩ = some v1
  q1 : wr.cell? ⟨w.heap.size + 2, 1, none⟩ = some v2
  only : Only [g, g1, g2] w wr

theorem RpI.zero {w wr wx : World} {g g1 g2 : Nat} {s a b : Vt} {v1 v2 : Value} {l1 l2 : List Vt} (h : RpI w wr g g1 g2 s a b v1 v2 l1 l2) (ho : Only [] wr wx) : RpI w wx g g1 g2 s a b v1 v2 l1 l2 :=
  ⟨h.fr.only ho (by simp), h.r1.only2 ho (by simp), h.r2.only2 ho (by simp), h.fa.only ho (by simp), h.fb.only ho (by simp), by rw [ho.cell (World.block_lt_of_cell? _ _ h.q0) (by simp)]; exact h.q0, by rw [ho.cell (World.block_lt_of_cell? _ _ h.q1) (by simp)]; exact h.q1, h.only.trans ho (by simp)⟩

/-- One of the first row is written over. -/
theorem RpI.put1 {w wr : World} {g g1 g2 : Nat} {s a b : Vt} {v1 v2 : Value} {l1 l2 : List Vt} (h : RpI w wr g g1 g2 s a b v1 v2 l1 l2) (n1 : g1 ≠ g) (n12 : l2 ≠ [] → g1 ≠ g2) (hlt : g1 < w.heap.size) {i : Nat} (hi : i < l1.length) (x : Vt) : RpI w (set4 wr g1 (i * 4) x) g g1 g2 s a b v1 v2 (l1.set i x) l2 := by
  have ho := set4_only wr g1 (i * 4) x
  exact ⟨h.fr.only ho (by simpa using n1.symm), h.r1.set hi x, h.r2.only2 ho fun hl => by simpa using (n12 hl).symm, h.fa.only ho (by simp; omega), h.fb.only ho (by simp; omega), by rw [ho.cell (World.block_lt_of_cell? _ _ h.q0) (by simp; omega)]; exact h.q0, by rw [ho.cell (World.block_lt_of_cell? _ _ h.q1) (by simp; omega)]; exact h.q1, h.only.trans ho fun y hy => .inl (by simp at hy; subst hy; simp)⟩
theorem RpI.put2 {w wr : World} {g g1 g2 : Nat} {s a b : Vt} {v1 v2 : Value} {l1 l2 : List Vt} (h : RpI w wr g g1 g2 s a b v1 v2 l1 l2) (n2 : g2 ≠ g) (n12 : l1 ≠ [] → g1 ≠ g2) (hlt : g2 < w.heap.size) {i : Nat} (hi : i < l2.length) (x : Vt) : RpI w (set4 wr g2 (i * 4) x) g g1 g2 s a b v1 v2 l1 (l2.set i x) := by
  have ho := set4_only wr g2 (i * 4) x
  exact ⟨h.fr.only ho (by simpa using n2.symm), h.r1.only2 ho fun hl => by simpa using (n12 hl), h.r2.set hi x, h.fa.only ho (by simp; omega), h.fb.only ho (by simp; omega), by rw [ho.cell (World.block_lt_of_cell? _ _ h.q0) (by simp; omega)]; exact h.q0, by rw [ho.cell (World.block_lt_of_cell? _ _ h.q1) (by simp; omega)]; exact h.q1, h.only.trans ho fun y hy => .inl (by simp at hy; subst hy; simp)⟩
theorem map_ne {a b : Vt} {l : List Vt} (h : l.map (swV a b) ≠ []) : l ≠ [] := by rintro rfl; simp at h
theorem part_ne {a b : Vt} {i : Nat} {l : List Vt} (h : part4 a b i l ≠ []) : l ≠ [] := by rintro rfl; simp [part4] at h

/-- A frame's object is written over. -/
theorem FrB.self {w : World} {g : Nat} {s : Vt} {v1 v2 : Value} (h : FrB w g s v1 v2) (x : Vt) : FrB (set4 w g 0 x) g x v1 v2 := by
  have hat : VtAt (set4 w g 0 x) g 0 x := set4_at fun j hj => by
    rcases (by omega : j = 0 ∨ j = 1 ∨ j = 2 ∨ j = 3) with rfl | rfl | rfl | rfl
    · exact ⟨_, h.c0⟩
    · exact ⟨_, h.c1⟩
    · exact ⟨_, h.c2⟩
    · exact ⟨_, h.c3⟩
  exact ⟨hat.c0, hat.c1, hat.c2, hat.c3, by rw [set4_other (by omega)]; exact h.c4, by rw [set4_other (by omega)]; exact h.c5, fun j => by rw [set4_frozen]; exact h.f0 j⟩
theorem rp_self {w W : World} {g ba bb : Nat} {s a b : Vt} {v1 v2 : Value} (hF : FrB W g s v1 v2) (hO : Only [] w W) (hA : VtAt W ba 0 a) (hB : VtAt W bb 0 b) (ga : ba ≠ g) (gb : bb ≠ g) (x : Vt) :
    FrB (set4 W g 0 x) g x v1 v2 ∧ Only [g] w (set4 W g 0 x) ∧ VtAt (set4 W g 0 x) ba 0 a ∧ VtAt (set4 W g 0 x) bb 0 b ∧ (set4 W g 0 x).heap.size = W.heap.size :=
  ⟨hF.self x, (hO.mono (S' := [g]) (by simp)).trans (set4_only W g 0 x) (fun x hx => .inl hx), hA.only (set4_only W g 0 x) (by simpa using ga), hB.only (set4_only W g 0 x) (by simpa using gb), by simp [set4, World.setCell]⟩
theorem set4_size (w : World) (g o : Nat) (x : Vt) : (set4 w g o x).heap.size = w.heap.size := by simp [set4, World.setCell]

set_option maxHeartbeats 4000000 in
set_option maxRecDepth 100000 in
theorem freplace_any {w : World} {g g1 g2 : Nat} {s a b : Vt} {v1 v2 : Value} {l1 l2 : List Vt} (hF : FrB w g s v1 v2) (h1 : Wr4 w v1 l1 g1) (h2 : Wr4 w v2 l2 g2) (n1 : l1 ≠ [] → g1 ≠ g) (n2 : l2 ≠ [] → g2 ≠ g) (n12 : l1 ≠ [] → l2 ≠ [] → g1 ≠ g2) (b1 : l1.length ≤ 1000000) (b2 : l2.length ≤ 1000000) :
    Calls Tryz.prog 19 #[.pointer (some ⟨g, 0, none⟩), vtV a, vtV b] w fun e w' => e = .returned (.tuple #[]) ∧ FrB w' g (swV a b s) v1 v2 ∧ Wr4 w' v1 (l1.map (swV a b)) g1 ∧ Wr4 w' v2 (l2.map (swV a b)) g2 ∧ Only [g, g1, g2] w w' := by
  have hgl := hF.lt
  have HE := fun w => eq_vt s a w
  have hFh := hid hF
  have hz := hid n1
  have hz2 := hid n2
  have hz12 := hid n12
  have hR1 := hid h1
  have hR2 := hid h2
  have hL1 := h1.lt
  have hL2 := h2.lt
  clear n1 n2 n12 h1 h2
  have o1 := hid (((Only.refl [] w).alloc (.cells #[.int .i64 a.1, .int .i64 a.2.1, .string (str a.2.2.1), .int .i64 a.2.2.2] 25)).alloc (.cells #[.int .i64 b.1, .int .i64 b.2.1, .string (str b.2.2.1), .int .i64 b.2.2.2] 25))
  have hF2 := hFh.out.only o1.out (by simp)
  have hF3 := hid hF2
  obtain ⟨c0, c1, c2, c3, c4, c5, fz⟩ := hF2
  have f0 := fz 0
  have f1 := fz 1
  have f2 := fz 2
  have f3 := fz 3
  clear fz hF
  have VA : VtAt ((w.alloc (.cells #[.int .i64 a.1, .int .i64 a.2.1, .string (str a.2.2.1), .int .i64 a.2.2.2] 25)).alloc (.cells #[.int .i64 b.1, .int .i64 b.2.1, .string (str b.2.2.1), .int .i64 b.2.2.2] 25)) w.heap.size 0 a := VtAt.alloc ⟨by rw [cell_new]; rfl, by rw [cell_new]; rfl, by rw [cell_new]; rfl, by rw [cell_new]; rfl⟩ _
  have VB : VtAt ((w.alloc (.cells #[.int .i64 a.1, .int .i64 a.2.1, .string (str a.2.2.1), .int .i64 a.2.2.2] 25)).alloc (.cells #[.int .i64 b.1, .int .i64 b.2.1, .string (str b.2.2.1), .int .i64 b.2.2.2] 25)) (w.heap.size + 1) 0 b := by
    rw [show w.heap.size + 1 = (w.alloc (.cells #[.int .i64 a.1, .int .i64 a.2.1, .string (str a.2.2.1), .int .i64 a.2.2.2] 25)).heap.size by simp]
    exact ⟨by rw [cell_new]; rfl, by rw [cell_new]; rfl, by rw [cell_new]; rfl, by rw [cell_new]; rfl⟩
  have hVA := hid VA
  have hVB := hid VB
  obtain ⟨a0, a1, a2, a3⟩ := VA
  obtain ⟨d0, d1, d2, d3⟩ := VB
  simp only [Nat.zero_add] at a1 a2 a3 d1 d2 d3
  unfold vtV at HE ⊢
  go_enter Tryz.func19, Tryz.ntmps19
  go_upto_region 1 with fail
  go_quiet (fail)
  go_upto_if 16 with fail
  go_cut [] (fun wx => Hid (FrB wx g (swV a b s) v1 v2) ∧ Hid (Only [g] w wx) ∧ Hid (VtAt wx w.heap.size 0 a) ∧ Hid (VtAt wx (w.heap.size + 1) 0 b) ∧ wx.heap.size = w.heap.size + 2)
  case first =>
    have hW := hid (hF3.out.only ((Only.refl [] _).drewM nq) (by simp))
    have hA := hid (hVA.out.only ((Only.refl [] _).drewM nq) (by simp))
    have hB := hid (hVB.out.only ((Only.refl [] _).drewM nq) (by simp))
    have hO := hid (o1.out.drewM nq)
    by_cases e : s = a
    · simp only [e, decide_true]
      have fin := hid (rp_self hW.out hO.out hA.out hB.out (by omega) (by omega) b)
      clear hFh hz hz2 hz12 hR1 hR2 hW HE hA hB hO
      go_wp2
      go_meet
      have hs : swV a b s = b := if_pos e
      rw [hs]
      exact ⟨hid fin.out.1, hid fin.out.2.1, hid fin.out.2.2.1, hid fin.out.2.2.2.1, fin.out.2.2.2.2.trans (by simp)⟩
    · simp only [e, decide_false]
      clear HE
      go_wp2
      go_meet
      have hs : swV a b s = s := if_neg e
      rw [hs]
      exact ⟨hW, hid (hO.out.mono (by simp)), hA, hB, by simp⟩
  case rest =>
    obtain ⟨hF, hO, hA, hB, hsz⟩ := hcut
    have R1 : Wr4 wc v1 l1 g1 := hR1.out.only2 hO.out fun h => by simpa using hz.out h
    have R2 : Wr4 wc v2 l2 g2 := hR2.out.only2 hO.out fun h => by simpa using hz2.out h
    obtain ⟨ao1, cap1, rfl, e1, p1⟩ := R1.shape
    obtain ⟨ao2, cap2, rfl, e2, p2⟩ := R2.shape
    replace R1 := hid R1
    replace R2 := hid R2
    replace e1 := hid e1
    replace e2 := hid e2
    replace p1 := hid p1
    replace p2 := hid p2
    clear c0 c1 c2 c3 c4 c5 f0 f1 f2 f3 a0 a1 a2 a3 d0 d1 d2 d3 hVA hVB hF3 hFh hR1 hR2 o1 HE
    obtain ⟨c0, c1, c2, c3, c4, c5, _⟩ := hF.out
    have k4 := fun o => cell_alloc o c4
    have k5 := fun o => cell_alloc o c5
    go_upto_region 3 with fail
    go_region
    have hI0 : Hid (RpI w (wc.alloc (.cells #[.slice ao1 l1.length cap1, .slice ao2 l2.length cap2] 26)).drew g g1 g2 (swV a b s) a b (.slice ao1 l1.length cap1) (.slice ao2 l2.length cap2) l1 l2) := by
      have ho : Only [] wc (wc.alloc (.cells #[.slice ao1 l1.length cap1, .slice ao2 l2.length cap2] 26)).drew := ((Only.refl [] wc).alloc _).drew
      refine hid ⟨hF.out.only ho (by simp), R1.out.only2 ho (by simp), R2.out.only2 ho (by simp), hA.out.only ho (by simp), hB.out.only ho (by simp), ?_, ?_, (hO.out.mono (S' := [g, g1, g2]) (by simp)).trans ho (by simp)⟩
      · rw [← hsz]
        show (wc.alloc _).cell? _ = _
        rw [cell_new]
        rfl
      · rw [← hsz]
        show (wc.alloc _).cell? _ = _
        rw [cell_new]
        rfl
    have hlt1 : l1 ≠ [] → g1 < w.heap.size := hL1
    have hlt2 : l2 ≠ [] → g2 < w.heap.size := hL2
    clear hF hO hA hB R1 R2 c0 c1 c2 c3 c4 c5 k4 k5
    go_wp2_with fail
    go_loopw [34] (fun v wr => ∃ (k : Nat), k ≤ 2 ∧ v = .int .i64 (k : Int) ∧ Hid (RpI w wr g g1 g2 (swV a b s) a b (.slice ao1 l1.length cap1) (.slice ao2 l2.length cap2) (if 1 ≤ k then l1.map (swV a b) else l1) (if 2 ≤ k then l2.map (swV a b) else l2))) (fun v _ => 2 - (intOf v).toNat)
    case atStart => exact ⟨0, by omega, rfl, hI0⟩
    case round =>
      obtain ⟨k, hk, rfl, hI⟩ := hrel
      clear hI0
      rcases (by omega : k = 0 ∨ k = 1 ∨ k = 2) with rfl | rfl | rfl
      · simp only [Nat.reduceLeDiff, if_false] at hI
        rw [show ((0 : Nat) : Int) = 0 from rfl]
        have q0 := hI.out.q0
        go_wp2_with fail
        clear q0
        have hI0 : Hid (RpI w wr g g1 g2 (swV a b s) a b (.slice ao1 l1.length cap1) (.slice ao2 l2.length cap2) (part4 a b 0 l1) l2) := hid (by rw [part4_zero]; exact hI.out)
        clear hI
        go_loopw [40] (fun v wq => ∃ (i : Nat), i ≤ l1.length ∧ v = .int .i64 (i : Int) ∧ Hid (RpI w wq g g1 g2 (swV a b s) a b (.slice ao1 l1.length cap1) (.slice ao2 l2.length cap2) (part4 a b i l1) l2)) (fun v _ => l1.length - (intOf v).toNat)
        case atStart => exact ⟨0, Nat.zero_le _, rfl, hI0⟩
        case round =>
          obtain ⟨i, hi, rfl, hJ⟩ := hrel
          clear hI0
          by_cases hlt : i < l1.length
          · have g1' : ((i : Int) < (l1.length : Int)) := by omega
            have hne : l1 ≠ [] := by rintro rfl; simp at hlt
            have hao := p1.out hne
            subst hao
            have hin : i < (part4 a b i l1).length := by rw [part4_length]; exact hlt
            have hV := hJ.out.r1.one hin
            rw [part4_at hlt] at hV
            obtain ⟨t, ht⟩ : ∃ t, t = l1[i] := ⟨_, rfl⟩
            rw [← ht] at hV
            replace ht := hid ht
            have HE : ∀ w, _ := fun w => eq_vt t a w
            unfold vtV at HE
            obtain ⟨e0, e1, e2, e3⟩ := hV
            obtain ⟨a0, a1, a2, a3⟩ := hJ.out.fa
            obtain ⟨d0, d1, d2, d3⟩ := hJ.out.fb
            simp only [Nat.zero_add] at a1 a2 a3 d1 d2 d3
            have A0 := fun o => cell_alloc o a0
            have A1 := fun o => cell_alloc o a1
            have A2 := fun o => cell_alloc o a2
            have A3 := fun o => cell_alloc o a3
            have D0 := fun o => cell_alloc o d0
            have D1 := fun o => cell_alloc o d1
            have D2 := fun o => cell_alloc o d2
            have D3 := fun o => cell_alloc o d3
            have E0 := fun o => cell_alloc o e0
            have E1 := fun o => cell_alloc o e1
            have E2 := fun o => cell_alloc o e2
            have E3 := fun o => cell_alloc o e3
            have hfr := hJ.out.r1.free (by intro h; rw [h] at hin; simp at hin)
            have hbl := hJ.out.r1.lt (by intro h; rw [h] at hin; simp at hin)
            have F0 := fun o => (frozen_alloc o hbl (a := ⟨g1, i * 4, none⟩)).trans (hfr (i * 4))
            have F1 := fun o => (frozen_alloc o hbl (a := ⟨g1, i * 4 + 1, none⟩)).trans (hfr (i * 4 + 1))
            have F2 := fun o => (frozen_alloc o hbl (a := ⟨g1, i * 4 + 2, none⟩)).trans (hfr (i * 4 + 2))
            have F3 := fun o => (frozen_alloc o hbl (a := ⟨g1, i * 4 + 3, none⟩)).trans (hfr (i * 4 + 3))
            clear hfr hbl
            have hZ := hJ.out.zero ((Only.refl [] _).alloc (.cells #[.int .i64 t.1, .int .i64 t.2.1, .string (str t.2.2.1), .int .i64 t.2.2.2] 25))
            by_cases ea : t = a
            · have fin := hZ.put1 (hz.out hne) (fun h => hz12.out hne h) (hlt1 hne) hin b
              rw [← part4_set hlt (ht.out.symm.trans ea)] at fin
              replace fin := hid fin
              have hd : decide (t = a) = true := by simp [ea]
              rw [hd] at HE
              clear hZ hJ ea hd hin
              go_wp2
              exact ⟨⟨i + 1, by omega, by go_num, fin⟩, by simp [intOf]; omega⟩
            · have fin := hZ
              rw [← part4_same (a := a) (b := b) hlt (fun h => ea (ht.out.trans h))] at fin
              replace fin := hid fin
              have hd : decide (t = a) = false := by simp [ea]
              rw [hd] at HE
              clear hZ hJ ea hd hin
              go_wp2
              exact ⟨⟨i + 1, by omega, by go_num, fin⟩, by simp [intOf]; omega⟩
          · have g1' : ¬ ((i : Int) < (l1.length : Int)) := by omega
            obtain rfl : i = l1.length := by omega
            go_wp2
            have fin := hJ
            rw [part4_all] at fin
            exact ⟨⟨1, by omega, rfl, fin⟩, by simp [intOf]⟩
      · simp only [Nat.reduceLeDiff, if_true, if_false, Nat.le_refl] at hI
        rw [show ((1 : Nat) : Int) = 1 from rfl]
        have q0 := hI.out.q1
        go_wp2_with fail
        clear q0
        have hI0 : Hid (RpI w wr g g1 g2 (swV a b s) a b (.slice ao1 l1.length cap1) (.slice ao2 l2.length cap2) (l1.map (swV a b)) (part4 a b 0 l2)) := hid (by rw [part4_zero]; exact hI.out)
        clear hI
        go_loopw [40] (fun v wq => ∃ (i : Nat), i ≤ l2.length ∧ v = .int .i64 (i : Int) ∧ Hid (RpI w wq g g1 g2 (swV a b s) a b (.slice ao1 l1.length cap1) (.slice ao2 l2.length cap2) (l1.map (swV a b)) (part4 a b i l2))) (fun v _ => l2.length - (intOf v).toNat)
        case atStart => exact ⟨0, Nat.zero_le _, rfl, hI0⟩
        case round =>
          obtain ⟨i, hi, rfl, hJ⟩ := hrel
          clear hI0
          by_cases hlt : i < l2.length
          · have g1' : ((i : Int) < (l2.length : Int)) := by omega
            have hne : l2 ≠ [] := by rintro rfl; simp at hlt
            have hao := p2.out hne
            subst hao
            have hin : i < (part4 a b i l2).length := by rw [part4_length]; exact hlt
            have hV := hJ.out.r2.one hin
            rw [part4_at hlt] at hV
            obtain ⟨t, ht⟩ : ∃ t, t = l2[i] := ⟨_, rfl⟩
            rw [← ht] at hV
            replace ht := hid ht
            have HE : ∀ w, _ := fun w => eq_vt t a w
            unfold vtV at HE
            obtain ⟨e0, e1, e2, e3⟩ := hV
            obtain ⟨a0, a1, a2, a3⟩ := hJ.out.fa
            obtain ⟨d0, d1, d2, d3⟩ := hJ.out.fb
            simp only [Nat.zero_add] at a1 a2 a3 d1 d2 d3
            have A0 := fun o => cell_alloc o a0
            have A1 := fun o => cell_alloc o a1
            have A2 := fun o => cell_alloc o a2
            have A3 := fun o => cell_alloc o a3
            have D0 := fun o => cell_alloc o d0
            have D1 := fun o => cell_alloc o d1
            have D2 := fun o => cell_alloc o d2
            have D3 := fun o => cell_alloc o d3
            have E0 := fun o => cell_alloc o e0
            have E1 := fun o => cell_alloc o e1
            have E2 := fun o => cell_alloc o e2
            have E3 := fun o => cell_alloc o e3
            have hfr := hJ.out.r2.free (by intro h; rw [h] at hin; simp at hin)
            have hbl := hJ.out.r2.lt (by intro h; rw [h] at hin; simp at hin)
            have F0 := fun o => (frozen_alloc o hbl (a := ⟨g2, i * 4, none⟩)).trans (hfr (i * 4))
            have F1 := fun o => (frozen_alloc o hbl (a := ⟨g2, i * 4 + 1, none⟩)).trans (hfr (i * 4 + 1))
            have F2 := fun o => (frozen_alloc o hbl (a := ⟨g2, i * 4 + 2, none⟩)).trans (hfr (i * 4 + 2))
            have F3 := fun o => (frozen_alloc o hbl (a := ⟨g2, i * 4 + 3, none⟩)).trans (hfr (i * 4 + 3))
            clear hfr hbl
            have hZ := hJ.out.zero ((Only.refl [] _).alloc (.cells #[.int .i64 t.1, .int .i64 t.2.1, .string (str t.2.2.1), .int .i64 t.2.2.2] 25))
            by_cases ea : t = a
            · have fin := hZ.put2 (hz2.out hne) (fun h => hz12.out (map_ne h) hne) (hlt2 hne) hin b
              rw [← part4_set hlt (ht.out.symm.trans ea)] at fin
              replace fin := hid fin
              have hd : decide (t = a) = true := by simp [ea]
              rw [hd] at HE
              clear hZ hJ ea hd hin
              go_wp2
              exact ⟨⟨i + 1, by omega, by go_num, fin⟩, by simp [intOf]; omega⟩
            · have fin := hZ
              rw [← part4_same (a := a) (b := b) hlt (fun h => ea (ht.out.trans h))] at fin
              replace fin := hid fin
              have hd : decide (t = a) = false := by simp [ea]
              rw [hd] at HE
              clear hZ hJ ea hd hin
              go_wp2
              exact ⟨⟨i + 1, by omega, by go_num, fin⟩, by simp [intOf]; omega⟩
          · have g1' : ¬ ((i : Int) < (l2.length : Int)) := by omega
            obtain rfl : i = l2.length := by omega
            go_wp2
            have fin := hJ
            rw [part4_all] at fin
            exact ⟨⟨2, by omega, rfl, fin⟩, by simp [intOf]⟩
      · simp only [Nat.reduceLeDiff, if_true, Nat.le_refl] at hI
        rw [show ((2 : Nat) : Int) = 2 from rfl]
        go_wp2
        go_end0
        exact ⟨rfl, hI.out.fr, hI.out.r1, hI.out.r2, hI.out.only⟩

end Go.Proofs.YtpjkgdkebkkjeaaGreatDoor
