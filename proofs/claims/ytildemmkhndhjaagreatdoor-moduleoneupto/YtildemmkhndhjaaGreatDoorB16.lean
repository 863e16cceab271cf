/-
  What the proof leans on, part 16 of 28. The conditions stand in each theorem.
-/
import Derived.Test.YtildemmkhndhjaaGreatDoorB11
import Derived.Test.YtildemmkhndhjaaGreatDoorB14
import Derived.Deep.RegionHeld3
import Derived.Test.YtildemmkhndhjaaGreatDoorB15
import Derived.Test.YtildemmkhndhjaaGreatDoorB12
namespace Go.Proofs.YtildemmkhndhjaaGreatDoor
open Go.RowKit

set_option maxHeartbeats 4000000 in
theorem checkField_any {w : World} {ao : Option Addr} {l : List Fd} {d cap : Nat} (hS : RS w ao (fcs l) d) (hl : l.length ≤ 9223372036854775807) (f : Fd) (h1 : f.2.1.length ≤ 9223372036854775807) (h2 : f.2.2.2.length ≤ 9223372036854775807) :
  Calls Tryz.prog 50 #[.slice ao l.length cap, fdV f] w fun e w' => e = .returned (bareV (fieldE l f)) ∧ Only [] w w' := by
 obtain ⟨fl, nm, td, tn⟩ := f
 simp only at h1 h2
 have o0 := (Only.refl [] w).alloc (.cells #[.int .i64 fl, .string (str nm), .int .i64 td, .string (str tn)] 44)
 have N1 := name_any nm h1 (w.alloc (.cells #[.int .i64 fl, .string (str nm), .int .i64 td, .string (str tn)] 44))
 have K1 := check_any (td, tn) h2 (w.alloc (.cells #[.int .i64 fl, .string (str nm), .int .i64 td, .string (str tn)] 44))
 have bc : (w.alloc (.cells #[.int .i64 fl, .string (str nm), .int .i64 td, .string (str tn)] 44)).cell? ⟨w.heap.size, 1, none⟩ = some (.string (str nm)) := by rw [cell_new]; rfl
 have C1 := fun W (ho : Only [] (w.alloc (.cells #[.int .i64 fl, .string (str nm), .int .i64 td, .string (str tn)] 44)) W) => contains_fd (cap := cap) (hS.only0 (o0.next ho (by simp))) hl w.heap.size nm ((ho.cell (p := ⟨w.heap.size, 1, none⟩) (by simp) (by simp)).trans bc)
 unfold fieldE fdV
 unfold tyV at K1
 simp only
 generalize nameOK nm = b1 at *
 generalize tyCheck (td, tn) = te at *
 generalize (l.any fun g => decide (g.2.1 = nm)) = z at *
 replace N1 := hid N1
 replace K1 := hid K1
 replace C1 := hid C1
 clear bc
 by_cases hf : fl ≠ 0 ∧ fl ≠ 4
 ·rw [if_pos hf]
  obtain ⟨g0, g4⟩ := hf
  have g0' : (fl == 0) = false := by simpa using g0
  have g4' : (fl == 4) = false := by simpa using g4
  have g0n : (fl != 0) = true := by simpa using g0
  have g4n : (fl != 4) = true := by simpa using g4
  go_enter Tryz.func50, Tryz.ntmps50
  go_wp2_with fail
  go_ret
  exact ⟨rfl, o0⟩
 ·rw [if_neg hf]
  have hf' : fl = 0 ∨ fl = 4 := by omega
  clear hf
  cases b1 with
  | false =>
   rw [if_neg (by simp)]
   rcases hf' with rfl | rfl
   all_goals
    go_enter Tryz.func50, Tryz.ntmps50
    go_wp2_with fail
    refine N1.out.mono ?_
    rintro e w' ⟨rfl, rfl⟩
    go_wp2_with fail
    go_ret
    exact ⟨rfl, o0⟩
  | true =>
   rw [if_pos rfl]
   by_cases he : te = 0
   ·subst he
    rw [if_pos rfl]
    cases z with
    | true =>
     rw [if_pos rfl]
     rcases hf' with rfl | rfl
     all_goals
      go_enter Tryz.func50, Tryz.ntmps50
      go_wp2_with fail
      refine N1.out.mono ?_
      rintro e w' ⟨rfl, rfl⟩
      go_wp2_with fail
      refine K1.out.mono ?_
      rintro e w1 ⟨rfl, ho1⟩
      go_wp2_with fail
      refine (C1.out _ ho1).mono ?_
      rintro e w2 ⟨rfl, ho2⟩
      go_wp2_with fail
      go_ret
      exact ⟨rfl, (o0.next ho1 (by simp)).next ho2 (by simp)⟩
    | false =>
     rw [if_neg (by simp)]
     rcases hf' with rfl | rfl
     all_goals
      go_enter Tryz.func50, Tryz.ntmps50
      go_wp2_with fail
      refine N1.out.mono ?_
      rintro e w' ⟨rfl, rfl⟩
      go_wp2_with fail
      refine K1.out.mono ?_
      rintro e w1 ⟨rfl, ho1⟩
      go_wp2_with fail
      refine (C1.out _ ho1).mono ?_
      rintro e w2 ⟨rfl, ho2⟩
      go_wp2_with fail
      go_ret
      exact ⟨rfl, (o0.next ho1 (by simp)).next ho2 (by simp)⟩
   ·rw [if_neg he]
    have he' : (te == 0) = false := by simpa using he
    have hbv : bareV te = .iface 63 (.int .i64 te) := by unfold bareV; rw [if_neg he]
    rw [hbv]
    clear hbv
    rcases hf' with rfl | rfl
    all_goals
     go_enter Tryz.func50, Tryz.ntmps50
     go_wp2_with fail
     refine N1.out.mono ?_
     rintro e w' ⟨rfl, rfl⟩
     go_wp2_with fail
     refine K1.out.mono ?_
     rintro e w1 ⟨rfl, ho1⟩
     go_wp2_with fail
     go_ret
     exact ⟨rfl, o0.next ho1 (by simp)⟩

theorem meBlk_new (w : World) (m : Me) (vp vc vh : Value) : MeBlk (w.alloc (.cells #[.int .i64 m.flags, .string (str m.name), vp, .bool m.sig.2.1, .int .i64 m.sig.2.2.1, .string (str m.sig.2.2.2), .int .i64 m.stack, .int .i64 m.locals, vc, vh] 41)) w.heap.size vp m :=
 ⟨by rw [cell_new]; rfl, by rw [cell_new]; rfl, by rw [cell_new]; rfl, by rw [cell_new]; rfl, by rw [cell_new]; rfl⟩

set_option maxHeartbeats 4000000 in
theorem checkHeading_any {w : World} {P Q : Nat → Prop} {ao : Option Addr} {l : List Me} {cs : List Value} {d cap : Nat} (hS : RS w ao cs d) (hE : Els 10 (MeC (SlR w P)) cs l) (hl : l.length ≤ 9223372036854775807) (m : Me) (hF : MeFit m) {vp vc vh : Value} (hq : SlV w Q vp m.sig.1.length (tcs m.sig.1)) :
  Calls Tryz.prog 53 #[.slice ao l.length cap, meV vp vc vh m] w fun e w' => e = .returned (bareV (headingE l m)) ∧ Only [] w w' := by
 have hq0 := hq
 obtain ⟨po, pc, pd, rfl, hP⟩ := hq
 have hB0 := meBlk_new w m (.slice po m.sig.1.length pc) vc vh
 have o0 := (Only.refl [] w).alloc (.cells #[.int .i64 m.flags, .string (str m.name), .slice po m.sig.1.length pc, .bool m.sig.2.1, .int .i64 m.sig.2.2.1, .string (str m.sig.2.2.2), .int .i64 m.stack, .int .i64 m.locals, vc, vh] 41)
 have C1 := fun W (ho : Only [] (w.alloc (.cells #[.int .i64 m.flags, .string (str m.name), .slice po m.sig.1.length pc, .bool m.sig.2.1, .int .i64 m.sig.2.2.1, .string (str m.sig.2.2.2), .int .i64 m.stack, .int .i64 m.locals, vc, vh] 41)) W) =>
  contains_me (P := P) (Q := Q) (cap := cap) (hS.only0 (o0.next ho (by simp))) (hE.imp fun _ _ _ h => h.imp (slr_only (o0.next ho (by simp)) (by simp))) hl w.heap.size (hB0.only ho (by simp)) (hq0.only (o0.next ho (by simp)) (by simp))
 have N1 := method_any m.name hF.name (w.alloc (.cells #[.int .i64 m.flags, .string (str m.name), .slice po m.sig.1.length pc, .bool m.sig.2.1, .int .i64 m.sig.2.2.1, .string (str m.sig.2.2.2), .int .i64 m.stack, .int .i64 m.locals, vc, vh] 41))
 have T1 := sigText_any (cap := pc) (TS.of_rs (hP.rs.only0 o0)) (by have := hP.le; have := hP.max; omega) hF.params m.sig.2.1 m.sig.2.2 hF.res
 unfold headingE
 have hst : sigCheck m.sig.1 m.sig.2.1 m.sig.2.2 = 0 → stR m.sig.1 m.sig.2.1 m.sig.2.2 = sigText m.sig.1 m.sig.2.1 m.sig.2.2 := fun h => by unfold stR; rw [if_pos h]
 clear hS hE hq0 hP hB0 hF
 obtain ⟨fl, nm, ⟨ps, vo, td, tn⟩, st, lo, code, hs⟩ := m
 unfold meV
 unfold sigV at T1
 simp only at C1 N1 T1 o0 hst ⊢
 generalize methodOK nm = b1 at *
 generalize sigCheck ps vo (td, tn) = se at *
 generalize sigText ps vo (td, tn) = tx at *
 generalize stR ps vo (td, tn) = sx at *
 generalize (l.any fun n => decide (n.name = nm) && sameR n.sig (ps, vo, td, tn)) = z at *
 have tsz := str_size sx
 replace N1 := hid N1
 replace T1 := hid T1
 replace C1 := hid C1
 by_cases hf : fl ≠ 0 ∧ fl ≠ 2 ∧ fl ≠ 4
 ·rw [if_pos hf]
  obtain ⟨g0, g2, g4⟩ := hf
  have g0' : (fl == 0) = false := by simpa using g0
  have g2' : (fl == 2) = false := by simpa using g2
  have g4' : (fl == 4) = false := by simpa using g4
  go_enter Tryz.func53, Tryz.ntmps53
  go_wp2_with fail
  go_ret
  exact ⟨rfl, o0⟩
 ·rw [if_neg hf]
  have hf' : fl = 0 ∨ fl = 2 ∨ fl = 4 := by omega
  clear hf
  cases b1 with
  | false =>
   rw [if_neg (by simp)]
   rcases hf' with rfl | rfl | rfl
   all_goals
    go_enter Tryz.func53, Tryz.ntmps53
    go_wp2_with fail
    refine N1.out.mono ?_
    rintro e w' ⟨rfl, rfl⟩
    go_wp2_with fail
    go_ret
    exact ⟨rfl, o0⟩
  | true =>
   rw [if_pos rfl]
   by_cases he : se = 0
   ·subst he
    rw [if_pos rfl]
    obtain rfl := hst rfl
    by_cases hx : 255 < sx.length
    ·rw [if_pos hx]
     have gx : (255 : Int) < ((str sx).size : Int) := by omega
     rcases hf' with rfl | rfl | rfl
     all_goals
      go_enter Tryz.func53, Tryz.ntmps53
      go_wp2_with fail
      refine N1.out.mono ?_
      rintro e w' ⟨rfl, rfl⟩
      go_wp2_with fail
      refine T1.out.mono ?_
      rintro e w1 ⟨rfl, ho1⟩
      go_wp2_with fail
      go_ret
      exact ⟨rfl, o0.next ho1 (by simp)⟩
    ·rw [if_neg hx]
     have gx : ¬ (255 : Int) < ((str sx).size : Int) := by omega
     cases z with
     | true =>
      rw [if_pos rfl]
      rcases hf' with rfl | rfl | rfl
      all_goals
       go_enter Tryz.func53, Tryz.ntmps53
       go_wp2_with fail
       refine N1.out.mono ?_
       rintro e w' ⟨rfl, rfl⟩
       go_wp2_with fail
       refine T1.out.mono ?_
       rintro e w1 ⟨rfl, ho1⟩
       go_wp2_with fail
       refine (C1.out _ ho1).mono ?_
       rintro e w2 ⟨rfl, ho2⟩
       go_wp2_with fail
       go_ret
       exact ⟨rfl, (o0.next ho1 (by simp)).next ho2 (by simp)⟩
     | false =>
      rw [if_neg (by simp)]
      rcases hf' with rfl | rfl | rfl
      all_goals
       go_enter Tryz.func53, Tryz.ntmps53
       go_wp2_with fail
       refine N1.out.mono ?_
       rintro e w' ⟨rfl, rfl⟩
       go_wp2_with fail
       refine T1.out.mono ?_
       rintro e w1 ⟨rfl, ho1⟩
       go_wp2_with fail
       refine (C1.out _ ho1).mono ?_
       rintro e w2 ⟨rfl, ho2⟩
       go_wp2_with fail
       go_ret
       exact ⟨rfl, (o0.next ho1 (by simp)).next ho2 (by simp)⟩
   ·rw [if_neg he]
    have he' : (se == 0) = false := by simpa using he
    have hbv : bareV se = .iface 63 (.int .i64 se) := by unfold bareV; rw [if_neg he]
    rw [hbv]
    clear hbv
    rcases hf' with rfl | rfl | rfl
    all_goals
     go_enter Tryz.func53, Tryz.ntmps53
     go_wp2_with fail
     refine N1.out.mono ?_
     rintro e w' ⟨rfl, rfl⟩
     go_wp2_with fail
     refine T1.out.mono ?_
     rintro e w1 ⟨rfl, ho1⟩
     go_wp2_with fail
     go_ret
     exact ⟨rfl, o0.next ho1 (by simp)⟩

theorem plB_eq {bl : List Bool} {all : List In} {n : Nat} (hn : bl.length = n) (h : ∀ k, bl.getD k false = begunI all k) (k : Int) : plB bl k = begE all n k := by
 unfold plB begE
 rw [h, hn]

theorem handB_eq {bl : List Bool} {all : List In} {n : Nat} (hn : bl.length = n) (h : ∀ k, bl.getD k false = begunI all k) (x : Hd) : handB bl x = handE all n x := by
 unfold handB handE
 rw [plB_eq hn h, plB_eq hn h, plB_eq hn h, hn]

theorem handsE_drop (all : List In) (n : Nat) (r : List Hd) (j : Nat) (h : j < r.length) : handsE all n j (r.drop j) = if handE all n r[j] = 0 then handsE all n (j + 1) (r.drop (j + 1)) else ((j : Int), handE all n r[j]) := by
 rw [List.drop_eq_getElem_cons h, handsE]

set_option maxHeartbeats 4000000 in
set_option maxRecDepth 100000 in
theorem checkHandlers_any {w : World} {P : Nat → Prop} (m : Me) (hF : MeFit m) (vp : Value) {vc vh : Value} (hC : SlV w P vc m.code.length (bcs m.code)) (hH : SlV w P vh m.hands.length (hcs m.hands)) (hsz : m.code.length ≤ 1024) :
  Calls Tryz.prog 126 #[meV vp vc vh m] w fun e w' => ∃ v, e = .returned v ∧ EV w' w.heap.size v (0, 0, (handlersE m).1, (handlersE m).2) ∧ Only [] w w' := by
 obtain ⟨co, cc, cd, rfl, hC⟩ := hC
 obtain ⟨ho, hc, hd, rfl, hH⟩ := hH
 have hnm := hF.hands
 clear hF
 obtain ⟨fl, nm, ⟨ps, vo, td, tn⟩, st, lo, code, hs⟩ := m
 unfold meV handlersE
 simp only at hC hH hnm hsz ⊢
 have o0 := (Only.refl [] w).alloc (.cells #[.int .i64 fl, .string (str nm), vp, .bool vo, .int .i64 td, .string (str tn), .int .i64 st, .int .i64 lo, .slice co code.length cc, .slice ho hs.length hc] 41)
 have hlh : hs.length ≤ 9223372036854775807 := by have := hH.le; have := hH.max; omega
 by_cases hm : 32 < hs.length
 ·rw [if_pos hm]
  have gm : (32 : Int) < (hs.length : Int) := by omega
  clear hC hH hnm
  go_enter Tryz.func126, Tryz.ntmps126
  go_wp2_with fail
  go_ret
  exact ⟨_, rfl, .num (by decide), o0⟩
 rw [if_neg hm]
 have gm : ¬ (32 : Int) < (hs.length : Int) := by omega
 have HA := hid (all_any (hC.rs.only0 o0) hC.le hC.max (by omega))
 have hev := all_each code
 have hln := all_len code
 have HH := hid (fun W (ho : Only [] w W) => hH.rs.only0 ho)
 generalize allR code = X at *
 obtain ⟨al, aa, ae⟩ := X
 simp only at hev hln ⊢
 have b4 : (w.alloc (.cells #[.int .i64 fl, .string (str nm), vp, .bool vo, .int .i64 td, .string (str tn), .int .i64 st, .int .i64 lo, .slice co code.length cc, .slice ho hs.length hc] 41)).cell? ⟨w.heap.size, 8, none⟩ = some (.slice co code.length cc) := by rw [cell_new]; rfl
 have b5 : (w.alloc (.cells #[.int .i64 fl, .string (str nm), vp, .bool vo, .int .i64 td, .string (str tn), .int .i64 st, .int .i64 lo, .slice co code.length cc, .slice ho hs.length hc] 41)).cell? ⟨w.heap.size, 9, none⟩ = some (.slice ho hs.length hc) := by rw [cell_new]; rfl
 clear hC hH
 replace hev := hid hev
 obtain ⟨i0, hi, hz0, hz1, hz2⟩ := elBool.parts
 obtain ⟨x, hx⟩ : ∃ x, x = handsE al code.length 0 hs := ⟨_, rfl⟩
 rw [← hx]
 have hr : Hid (x = handsE al code.length 0 (hs.drop 0)) := by rw [hx]; rfl
 clear hx
 go_enter Tryz.func126, Tryz.ntmps126
 go_wp2_with (first | (go_at_call 169; refine HA.out.mono ?_; rintro e w1 ⟨ao1, cap1, rfl, hown1, ho1⟩; have c8 := (ho1.cell (p := ⟨w.heap.size, 8, none⟩) (by simp) (by simp)).trans b4) | (at_make; refine wpList_make_full _ rfl (.tmp 26) (.tmp 26) 246 rfl w1.heap.size 4 i0 (.bool false) 1 Tryz.underlying246 hi hz0 hz1 .i64 .i64 _ _ code.length rfl rfl rfl rfl (by rw [hz2]; omega) (by unfold maxLen; omega) (Nat.le_refl _) ?_; intro w2 hownG hgr) | fail)
 have hG0 := hownG
 rw [lcs_replicate] at hG0
 have hg2 : w1.heap.size < w2.heap.size := by
  have := hG0.lt w1.heap.size rfl
  omega
 have hs1 : w.heap.size < w1.heap.size := Nat.lt_of_lt_of_le (by simp) ho1.size
 have o2 := hid ((o0.next ho1 (by simp)).next (Only.of_grown hgr) (by simp))
 have k9 : Hid (w2.cell? ⟨w.heap.size, 9, none⟩ = some (.slice ho hs.length hc)) := ((Only.of_grown hgr).cell (p := ⟨w.heap.size, 9, none⟩) hs1 (by simp)).trans ((ho1.cell (p := ⟨w.heap.size, 9, none⟩) (by simp) (by simp)).trans b5)
 obtain ⟨d1, hR1⟩ : ∃ d, RS w1 ao1 (qcs al) d := ⟨_, (RS.of_owns hown1).1⟩
 have hd1 : Hid (al ≠ [] → d1 < w1.heap.size) := fun h => hR1.lt (qcs_ne h)
 have R1 := hid (hR1.only0 (Only.of_grown hgr))
 have G1 := hid hG0
 have hN0 := hid (begun_nil code.length)
 clear hownG hG0 hgr hown1 hR1 HA c8 b4 b5 ho1
 replace hnm := hid hnm
 go_loopw [30] (fun i wr => ∃ (j : Nat) (bl : List Bool), j ≤ al.length ∧ i = .int .i64 (j : Int) ∧ Hid (bl.length = code.length) ∧ Hid (∀ k, bl.getD k false = begunI (al.take j) k) ∧ Hid (wr.ownsRow w1.heap.size 4 1 (.slice (some ⟨w1.heap.size, 0, none⟩) code.length code.length) code.length (lcs bl)) ∧ Hid (wr.cell? ⟨w.heap.size, 9, none⟩ = some (.slice ho hs.length hc)) ∧ Hid (RS wr ao1 (qcs al) d1) ∧ Hid (Only [] w wr)) (fun i _ => al.length - (intOf i).toNat)
 case atStart => exact ⟨0, List.replicate code.length false, by omega, rfl, by simp [Hid], hN0, G1, k9, R1, o2⟩
 case round =>
  obtain ⟨j, bl, hj, rfl, hbl, hbg, hG, h9, hR, hor⟩ := hrel
  clear G1 k9 R1 o2 hN0
  by_cases hlt : j < al.length
  ·have g2 : ((j : Int) < (al.length : Int)) := by omega
   obtain ⟨off, rfl, y0, y1, y2, y3⟩ := hR.out.inAt hlt
   obtain ⟨v0, v1, _, _, _, v5, _, _⟩ := hev.out al[j] (List.getElem_mem hlt)
   have htk := List.take_succ_eq_append_getElem hlt
   have hd := hd1.out (fun e => by rw [e] at hlt; simp at hlt)
   clear hev hr HH
   generalize al[j] = i at *
   obtain ⟨p, o, n, s⟩ := i
   simp only at y0 y1 y2 y3 v0 v1 v5
   obtain ⟨p, rfl⟩ : ∃ q : Nat, p = (q : Int) := ⟨p.toNat, by omega⟩
   have hp : p < code.length := by omega
   have hgl : w1.heap.size < wr.heap.size := ((hG.out.lt w1.heap.size rfl)).2
   have z0 : wr.cell? ⟨w1.heap.size, p, none⟩ = some (.bool (bl[p]'(by rw [hbl.out]; exact hp))) := by
    rw [hG.out.cellAt p (by omega), lcs_get bl p (by rw [hbl.out]; exact hp)]
   have z0' := fun o => cell_alloc o z0
   have zf : ∀ o, (wr.alloc o).frozen? ⟨w1.heap.size, p, none⟩ = false := fun o => by rw [frozen_alloc o hgl]; exact hG.out.frozenAt p
   have g3 : ((p : Int) < (code.length : Int)) := by omega
   have hbg' : Hid (∀ k, (bl.set p true).getD k false = begunI (al.take (j + 1)) k) := by
    rw [htk]
    exact begun_set hbg.out rfl (by rw [hbl.out]; exact hp)
   have G2 := hG.out.stored p (.bool true)
   rw [lcs_set] at G2
   have oo := hid (((Only.refl [w1.heap.size] wr).setCell (p := ⟨w1.heap.size, p, none⟩) (.inl (by simp)) (.bool true)).alloc (.cells #[.int .i64 (p : Int), .int .i64 o, .int .i64 n, .int .i64 s] 250))
   replace G2 := hid (G2.1.alloc (.cells #[.int .i64 (p : Int), .int .i64 o, .int .i64 n, .int .i64 s] 250))
   clear htk z0 hd1
   go_wp2
   refine ⟨⟨j + 1, bl.set p true, by omega, by go_num, by simpa [Hid] using hbl.out, hbg', G2, hid ((oo.out.cell (p := ⟨w.heap.size, 9, none⟩) (by simp; omega) (by simp; omega)).trans h9.out), hid (hR.out.only oo.out (fun _ => by simp; omega)), hid ((hor.out.setCell (p := ⟨w1.heap.size, p, none⟩) (.inr (by simp; omega)) _).alloc _)⟩, by simp [intOf]; omega⟩
  ·have g2 : ¬ ((j : Int) < (al.length : Int)) := by omega
   have hbg' : Hid (∀ k, bl.getD k false = begunI al k) := by
    have := hbg.out
    rw [List.take_of_length_le (by omega)] at this
    exact this
   have HW := hid (fun W (hG : RS W (some ⟨w1.heap.size, 0, none⟩) (lcs bl) w1.heap.size) (y : Hd) (hy : y.2.2.2.length ≤ 9223372036854775807) => checkHandler_any (cap := code.length) hG y hy)
   simp only [hbl.out, handB_eq hbl.out hbg'.out] at HW
   clear hbg hbg' hev hd1 hR
   have k9 := h9.out
   go_wp2
   clear k9 h9
   go_loopw [42] (fun i wr => ∃ (j : Nat), j ≤ hs.length ∧ i = .int .i64 (j : Int) ∧ Hid (x = handsE al code.length j (hs.drop j)) ∧ Hid (wr.ownsRow w1.heap.size 4 1 (.slice (some ⟨w1.heap.size, 0, none⟩) code.length code.length) code.length (lcs bl)) ∧ Hid (Only [] w wr)) (fun i _ => hs.length - (intOf i).toNat)
   case atStart => exact ⟨0, by omega, rfl, hr, hG, hor⟩
   case round =>
    obtain ⟨j', hj', rfl, hq, hG', hor'⟩ := hrel
    clear hr hG hor
    by_cases hlt' : j' < hs.length
    ·have g4 : ((j' : Int) < (hs.length : Int)) := by omega
     obtain ⟨off, rfl, y0, y1, y2, y3⟩ := hd_cells (HH.out _ hor'.out) hlt'
     have hdr := handsE_drop al code.length hs j' hlt'
     rw [← hq.out] at hdr
     have hy := hnm.out hs[j'] (List.getElem_mem hlt')
     clear hq
     generalize hs[j'] = y at *
     have oo := hid ((Only.refl [] wr).alloc (.cells #[.int .i64 y.1, .int .i64 y.2.1, .int .i64 y.2.2.1, .string (str y.2.2.2)] 46))
     have HW3 := HW.out _ (RS.of_owns (rows_only hG'.out oo.out (by simp))).1 y hy
     unfold hdV at HW3
     generalize handE al code.length y = er at *
     replace HW3 := hid HW3
     by_cases he : er = 0
     ·subst he
      rw [if_pos rfl] at hdr
      replace hdr := hid hdr
      go_wp2_with (go_at_call 171; refine HW3.out.mono ?_; rintro e w5 ⟨rfl, ho5⟩)
      exact ⟨⟨j' + 1, by omega, by go_num, hdr, hid (rows_only hG'.out (oo.out.next ho5 (by simp)) (by simp)), hid (hor'.out.next (oo.out.next ho5 (by simp)) (by simp))⟩, by simp [intOf]; omega⟩
     ·have ge : (er == 0) = false := by simpa using he
      rw [if_neg he] at hdr
      subst hdr
      go_wp2_with (go_at_call 171; refine HW3.out.mono ?_; rintro e w5 ⟨rfl, ho5⟩)
      go_ret
      exact ⟨_, rfl, .bad he (by have := hor'.out.size; have := oo.out.size; have := ho5.size; omega) (bad_new w5 0 0 (j' : Int) er), (hor'.out.next (oo.out.next ho5 (by simp)) (by simp)).alloc _⟩
    ·have g4 : ¬ ((j' : Int) < (hs.length : Int)) := by omega
     have hxx : x = (0, 0) := by rw [hq.out, List.drop_eq_nil_of_le (by omega)]; rfl
     subst hxx
     clear hq HW
     go_wp2
     go_ret
     exact ⟨_, rfl, .no rfl, hor'.out⟩

theorem checkI_small {code : List UInt8} {l : List En} {locals : Int} (h : (checkI code l locals).2 = 0) : code.length ≤ 1024 := by
 unfold checkI at h
 split at h
 ·cases h
 ·split at h
  ·cases h
  ·omega

theorem keep_me {w z z' : World} {b : Nat} {v0 v1 v2 v3 v4 v5 v6 v7 v8 v9 : Value} (ho : Only [] z z') (h : z.cell? ⟨b, 0, none⟩ = some (v0) ∧ z.cell? ⟨b, 1, none⟩ = some (v1) ∧ z.cell? ⟨b, 2, none⟩ = some (v2) ∧ z.cell? ⟨b, 3, none⟩ = some (v3) ∧ z.cell? ⟨b, 4, none⟩ = some (v4) ∧ z.cell? ⟨b, 5, none⟩ = some (v5) ∧ z.cell? ⟨b, 6, none⟩ = some (v6) ∧ z.cell? ⟨b, 7, none⟩ = some (v7) ∧ z.cell? ⟨b, 8, none⟩ = some (v8) ∧ z.cell? ⟨b, 9, none⟩ = some (v9) ∧ Only [] w z) : z'.cell? ⟨b, 0, none⟩ = some (v0) ∧ z'.cell? ⟨b, 1, none⟩ = some (v1) ∧ z'.cell? ⟨b, 2, none⟩ = some (v2) ∧ z'.cell? ⟨b, 3, none⟩ = some (v3) ∧ z'.cell? ⟨b, 4, none⟩ = some (v4) ∧ z'.cell? ⟨b, 5, none⟩ = some (v5) ∧ z'.cell? ⟨b, 6, none⟩ = some (v6) ∧ z'.cell? ⟨b, 7, none⟩ = some (v7) ∧ z'.cell? ⟨b, 8, none⟩ = some (v8) ∧ z'.cell? ⟨b, 9, none⟩ = some (v9) ∧ Only [] w z' := by
 obtain ⟨h0, h1, h2, h3, h4, h5, h6, h7, h8, h9, h⟩ := h
 have hl := World.block_lt_of_cell? z _ h0
 exact ⟨(ho.cell (p := ⟨b, 0, none⟩) hl (by simp)).trans h0, (ho.cell (p := ⟨b, 1, none⟩) hl (by simp)).trans h1, (ho.cell (p := ⟨b, 2, none⟩) hl (by simp)).trans h2, (ho.cell (p := ⟨b, 3, none⟩) hl (by simp)).trans h3, (ho.cell (p := ⟨b, 4, none⟩) hl (by simp)).trans h4, (ho.cell (p := ⟨b, 5, none⟩) hl (by simp)).trans h5, (ho.cell (p := ⟨b, 6, none⟩) hl (by simp)).trans h6, (ho.cell (p := ⟨b, 7, none⟩) hl (by simp)).trans h7, (ho.cell (p := ⟨b, 8, none⟩) hl (by simp)).trans h8, (ho.cell (p := ⟨b, 9, none⟩) hl (by simp)).trans h9, h.next ho (by simp)⟩

set_option maxHeartbeats 4000000 in
theorem checkBody_any {w : World} {P Q : Nat → Prop} (l : List En) {ve : Value} (hE : SlV w Q ve l.length (ecs l)) (hA : ∀ e ∈ l, e.2.1.length ≤ 9223372036854775807) (m : Me) (hF : MeFit m) (h16 : m.sig.1.length ≤ 16) {vp vc vh : Value} (hM : MeAt (SlR w P) vp vc vh m) :
  Calls Tryz.prog 55 #[meV vp vc vh m, ve] w fun e w' => ∃ v, e = .returned v ∧ EV w' w.heap.size v (0, 0, (bodyE l m).1, (bodyE l m).2) ∧ Only [] w w' := by
 obtain ⟨eo, ec, ed, rfl, hE⟩ := hE
 have hC0 := hM.code
 have hH0 := hM.hands
 obtain ⟨po, pc, pd, rfl, hP⟩ := hM.params
 obtain ⟨co, cc, cd, rfl, hC⟩ := hM.code
 obtain ⟨ho, hc, hd, rfl, hH⟩ := hM.hands
 have hlp : m.sig.1.length ≤ 9223372036854775807 := by have := hP.le; have := hP.max; omega
 have hlc : m.code.length ≤ 9223372036854775807 := by have := hC.le; have := hC.max; omega
 have hlh : m.hands.length ≤ 9223372036854775807 := by have := hH.le; have := hH.max; omega
 have o0 := (Only.refl [] w).alloc (.cells #[.int .i64 m.flags, .string (str m.name), .slice po m.sig.1.length pc, .bool m.sig.2.1, .int .i64 m.sig.2.2.1, .string (str m.sig.2.2.2), .int .i64 m.stack, .int .i64 m.locals, .slice co m.code.length cc, .slice ho m.hands.length hc] 41)
 have HI := hid (handedIn_any m (po := po) (pc := pc) (by omega) (.slice co m.code.length cc) (.slice ho m.hands.length hc))
 have HK := fun W (hW : Only [] w W) => icheck_any (cap := cc) (ecap := ec) (hC.rs.only0 hW) hC.le hC.max (ES.of_rs (hE.rs.only0 hW)) (by have := hE.le; have := hE.max; omega) hA m.locals
 have HB := fun W (hW : Only [] w W) (hs : m.code.length ≤ 1024) => checkHandlers_any (P := P) m hF (.slice po m.sig.1.length pc) (SlV.only hC0 hW (by simp)) (SlV.only hH0 hW (by simp)) hs
 have hsm := checkI_small (code := m.code) (l := l) (locals := m.locals)
 clear hM hC0 hH0 hP hC hH hE hA hF
 unfold bodyE
 unfold meV at HB HI ⊢
 generalize handlersE m = hE at *
 generalize handedE m = hI at *
 generalize checkI m.code l m.locals = cI at *
 obtain ⟨ca, ce⟩ := cI
 obtain ⟨fl, nm, ⟨ps, vo, td, tn⟩, st, lo, code, hs⟩ := m
 simp only at HI HK HB o0 hsm hlp hlc hlh ⊢
 replace HK := hid HK
 replace HB := hid HB
 by_cases f2 : fl = 2
 ·subst f2
  rw [if_pos rfl]
  clear HI HK HB
  by_cases h1 : st = 0
  ·subst h1
   by_cases h2 : lo = 0
   ·subst h2
    by_cases h3 : 0 < code.length
    ·rw [if_pos (by simp [h3])]
     have g3 : (0 : Int) < (code.length : Int) := by omega
     go_enter Tryz.func55, Tryz.ntmps55
     go_wp2_with fail
     go_ret
     exact ⟨_, rfl, .num (by decide), o0⟩
    ·have g3 : ¬ (0 : Int) < (code.length : Int) := by omega
     by_cases h4 : 0 < hs.length
     ·rw [if_pos (by simp [h4])]
      have g4 : (0 : Int) < (hs.length : Int) := by omega
      go_enter Tryz.func55, Tryz.ntmps55
      go_wp2_with fail
      go_ret
      exact ⟨_, rfl, .num (by decide), o0⟩
     ·rw [if_neg (by simp only [ne_eq, not_true_eq_false, false_or]; omega)]
      have g4 : ¬ (0 : Int) < (hs.length : Int) := by omega
      go_enter Tryz.func55, Tryz.ntmps55
      go_wp2_with fail
      go_ret
      exact ⟨_, rfl, .no rfl, o0⟩
   ·rw [if_pos (by simp [h2])]
    have g2 : (lo == 0) = false := by simpa using h2
    have g2n : (lo != 0) = true := by simpa using h2
    go_enter Tryz.func55, Tryz.ntmps55
    go_wp2_with fail
    go_ret
    exact ⟨_, rfl, .num (by decide), o0⟩
  ·rw [if_pos (by simp [h1])]
   have g1 : (st == 0) = false := by simpa using h1
   have g1n : (st != 0) = true := by simpa using h1
   go_enter Tryz.func55, Tryz.ntmps55
   go_wp2_with fail
   go_ret
   exact ⟨_, rfl, .num (by decide), o0⟩
 ·rw [if_neg f2]
  have f2' : (fl == 2) = false := by simpa using f2
  by_cases a1 : st < 0
  ·rw [if_pos (by omega)]
   go_enter Tryz.func55, Tryz.ntmps55
   go_wp2_with fail
   go_ret
   exact ⟨_, rfl, .num (by decide), o0⟩
  ·by_cases a2 : 64 < st
   ·rw [if_pos (by omega)]
    go_enter Tryz.func55, Tryz.ntmps55
    go_wp2_with fail
    go_ret
    exact ⟨_, rfl, .num (by decide), o0⟩
   ·by_cases a3 : lo < 0
    ·rw [if_pos (by omega)]
     go_enter Tryz.func55, Tryz.ntmps55
     go_wp2_with fail
     go_ret
     exact ⟨_, rfl, .num (by decide), o0⟩
    ·by_cases a4 : 64 < lo
     ·rw [if_pos (by omega)]
      go_enter Tryz.func55, Tryz.ntmps55
      go_wp2_with fail
      go_ret
      exact ⟨_, rfl, .num (by decide), o0⟩
     ·rw [if_neg (by omega)]
      by_cases a5 : lo < hI
      ·rw [if_pos a5]
       go_enter Tryz.func55, Tryz.ntmps55
       go_wp2_with fail
       go_region_held3 (fun w' => w'.cell? ⟨w.heap.size, 0, none⟩ = some (.int .i64 fl) ∧ w'.cell? ⟨w.heap.size, 1, none⟩ = some (.string (str nm)) ∧ w'.cell? ⟨w.heap.size, 2, none⟩ = some (.slice po ps.length pc) ∧ w'.cell? ⟨w.heap.size, 3, none⟩ = some (.bool vo) ∧ w'.cell? ⟨w.heap.size, 4, none⟩ = some (.int .i64 td) ∧ w'.cell? ⟨w.heap.size, 5, none⟩ = some (.string (str tn)) ∧ w'.cell? ⟨w.heap.size, 6, none⟩ = some (.int .i64 st) ∧ w'.cell? ⟨w.heap.size, 7, none⟩ = some (.int .i64 lo) ∧ w'.cell? ⟨w.heap.size, 8, none⟩ = some (.slice co code.length cc) ∧ w'.cell? ⟨w.heap.size, 9, none⟩ = some (.slice ho hs.length hc) ∧ Only [] w w') (first | assumption | exact keep_me (by assumption) (by assumption) | exact ⟨by rw [cell_new]; rfl, by rw [cell_new]; rfl, by rw [cell_new]; rfl, by rw [cell_new]; rfl, by rw [cell_new]; rfl, by rw [cell_new]; rfl, by rw [cell_new]; rfl, by rw [cell_new]; rfl, by rw [cell_new]; rfl, by rw [cell_new]; rfl, o0⟩ | exact ⟨by show (w.alloc _).cell? _ = _; rw [cell_new]; rfl, by show (w.alloc _).cell? _ = _; rw [cell_new]; rfl, by show (w.alloc _).cell? _ = _; rw [cell_new]; rfl, by show (w.alloc _).cell? _ = _; rw [cell_new]; rfl, by show (w.alloc _).cell? _ = _; rw [cell_new]; rfl, by show (w.alloc _).cell? _ = _; rw [cell_new]; rfl, by show (w.alloc _).cell? _ = _; rw [cell_new]; rfl, by show (w.alloc _).cell? _ = _; rw [cell_new]; rfl, by show (w.alloc _).cell? _ = _; rw [cell_new]; rfl, by show (w.alloc _).cell? _ = _; rw [cell_new]; rfl, o0.drew⟩)
        (first
         | (go_at_call 124; with_reducible refine (HI.out _).mono ?_; rintro e v1 ⟨rfl, hv1⟩))
       rename_i hS
       obtain ⟨k0, k1, k2, k3, k4, k5, k6, k7, k8, k9, oS⟩ := hS
       go_wp2_with fail
       go_ret
       exact ⟨_, rfl, .num (by decide), oS⟩
      ·rw [if_neg a5]
       by_cases he : ce = 0
       ·subst he
        rw [if_pos rfl]
        go_enter Tryz.func55, Tryz.ntmps55
        go_wp2_with fail
        go_region_held3 (fun w' => w'.cell? ⟨w.heap.size, 0, none⟩ = some (.int .i64 fl) ∧ w'.cell? ⟨w.heap.size, 1, none⟩ = some (.string (str nm)) ∧ w'.cell? ⟨w.heap.size, 2, none⟩ = some (.slice po ps.length pc) ∧ w'.cell? ⟨w.heap.size, 3, none⟩ = some (.bool vo) ∧ w'.cell? ⟨w.heap.size, 4, none⟩ = some (.int .i64 td) ∧ w'.cell? ⟨w.heap.size, 5, none⟩ = some (.string (str tn)) ∧ w'.cell? ⟨w.heap.size, 6, none⟩ = some (.int .i64 st) ∧ w'.cell? ⟨w.heap.size, 7, none⟩ = some (.int .i64 lo) ∧ w'.cell? ⟨w.heap.size, 8, none⟩ = some (.slice co code.length cc) ∧ w'.cell? ⟨w.heap.size, 9, none⟩ = some (.slice ho hs.length hc) ∧ Only [] w w') (first | assumption | exact keep_me (by assumption) (by assumption) | exact ⟨by rw [cell_new]; rfl, by rw [cell_new]; rfl, by rw [cell_new]; rfl, by rw [cell_new]; rfl, by rw [cell_new]; rfl, by rw [cell_new]; rfl, by rw [cell_new]; rfl, by rw [cell_new]; rfl, by rw [cell_new]; rfl, by rw [cell_new]; rfl, o0⟩ | exact ⟨by show (w.alloc _).cell? _ = _; rw [cell_new]; rfl, by show (w.alloc _).cell? _ = _; rw [cell_new]; rfl, by show (w.alloc _).cell? _ = _; rw [cell_new]; rfl, by show (w.alloc _).cell? _ = _; rw [cell_new]; rfl, by show (w.alloc _).cell? _ = _; rw [cell_new]; rfl, by show (w.alloc _).cell? _ = _; rw [cell_new]; rfl, by show (w.alloc _).cell? _ = _; rw [cell_new]; rfl, by show (w.alloc _).cell? _ = _; rw [cell_new]; rfl, by show (w.alloc _).cell? _ = _; rw [cell_new]; rfl, by show (w.alloc _).cell? _ = _; rw [cell_new]; rfl, o0.drew⟩)
         (first
          | (go_at_call 124; with_reducible refine (HI.out _).mono ?_; rintro e v1 ⟨rfl, hv1⟩))
        rename_i hS
        obtain ⟨k0, k1, k2, k3, k4, k5, k6, k7, k8, k9, oS⟩ := hS
        go_wp2_with fail
        refine (HK.out _ oS).mono ?_
        rintro e w2 ⟨rfl, ho2⟩
        obtain ⟨k0, k1, k2, k3, k4, k5, k6, k7, k8, k9, o2⟩ := keep_me (w := w) ho2 ⟨k0, k1, k2, k3, k4, k5, k6, k7, k8, k9, oS⟩
        go_wp2_with fail
        refine (HB.out _ o2 (hsm (by first | rfl | trivial))).mono ?_
        rintro e w3 ⟨v, rfl, hev, ho3⟩
        go_wp2_with fail
        go_ret
        exact ⟨v, rfl, hev.down o2.size, o2.next ho3 (by simp)⟩
       ·rw [if_neg he]
        have he' : (ce == 0) = false := by simpa using he
        go_enter Tryz.func55, Tryz.ntmps55
        go_wp2_with fail
        go_region_held3 (fun w' => w'.cell? ⟨w.heap.size, 0, none⟩ = some (.int .i64 fl) ∧ w'.cell? ⟨w.heap.size, 1, none⟩ = some (.string (str nm)) ∧ w'.cell? ⟨w.heap.size, 2, none⟩ = some (.slice po ps.length pc) ∧ w'.cell? ⟨w.heap.size, 3, none⟩ = some (.bool vo) ∧ w'.cell? ⟨w.heap.size, 4, none⟩ = some (.int .i64 td) ∧ w'.cell? ⟨w.heap.size, 5, none⟩ = some (.string (str tn)) ∧ w'.cell? ⟨w.heap.size, 6, none⟩ = some (.int .i64 st) ∧ w'.cell? ⟨w.heap.size, 7, none⟩ = some (.int .i64 lo) ∧ w'.cell? ⟨w.heap.size, 8, none⟩ = some (.slice co code.length cc) ∧ w'.cell? ⟨w.heap.size, 9, none⟩ = some (.slice ho hs.length hc) ∧ Only [] w w') (first | assumption | exact keep_me (by assumption) (by assumption) | exact ⟨by rw [cell_new]; rfl, by rw [cell_new]; rfl, by rw [cell_new]; rfl, by rw [cell_new]; rfl, by rw [cell_new]; rfl, by rw [cell_new]; rfl, by rw [cell_new]; rfl, by rw [cell_new]; rfl, by rw [cell_new]; rfl, by rw [cell_new]; rfl, o0⟩ | exact ⟨by show (w.alloc _).cell? _ = _; rw [cell_new]; rfl, by show (w.alloc _).cell? _ = _; rw [cell_new]; rfl, by show (w.alloc _).cell? _ = _; rw [cell_new]; rfl, by show (w.alloc _).cell? _ = _; rw [cell_new]; rfl, by show (w.alloc _).cell? _ = _; rw [cell_new]; rfl, by show (w.alloc _).cell? _ = _; rw [cell_new]; rfl, by show (w.alloc _).cell? _ = _; rw [cell_new]; rfl, by show (w.alloc _).cell? _ = _; rw [cell_new]; rfl, by show (w.alloc _).cell? _ = _; rw [cell_new]; rfl, by show (w.alloc _).cell? _ = _; rw [cell_new]; rfl, o0.drew⟩)
         (first
          | (go_at_call 124; with_reducible refine (HI.out _).mono ?_; rintro e v1 ⟨rfl, hv1⟩))
        rename_i hS
        obtain ⟨k0, k1, k2, k3, k4, k5, k6, k7, k8, k9, oS⟩ := hS
        go_wp2_with fail
        refine (HK.out _ oS).mono ?_
        rintro e w2 ⟨rfl, ho2⟩
        obtain ⟨k0, k1, k2, k3, k4, k5, k6, k7, k8, k9, o2⟩ := keep_me (w := w) ho2 ⟨k0, k1, k2, k3, k4, k5, k6, k7, k8, k9, oS⟩
        go_wp2_with fail
        go_ret
        exact ⟨_, rfl, .bad he o2.size (bad_new w2 0 0 ca ce), o2.alloc _⟩

set_option maxHeartbeats 4000000 in
set_option maxRecDepth 100000 in
theorem rbody_any {w : World} {P Q : Nat → Prop} (l : List En) {ve : Value} (hE0 : SlV w Q ve l.length (ecs l)) (hA : ∀ e ∈ l, e.2.1.length ≤ 1048576) (m : Me) (hF : MeFit m) (hps : m.sig.1.length ≤ 2000000) {vp vc vh : Value} (hM : MeAt (SlR w P) vp vc vh m) :
  Calls Tryz.prog 183 #[ve, meV vp vc vh m] w fun e w' => e = .returned (.tuple #[.int .i64 (bodyE l m).1, .int .i64 (bodyE l m).2]) ∧ Only [] w w' := by
 obtain ⟨eo, ec, ed, rfl, hE1⟩ := hE0
 have hM0 := hM
 obtain ⟨po, pc, pd, rfl, hP⟩ := hM.params
 obtain ⟨co, cc, cd, rfl, hC⟩ := hM.code
 obtain ⟨ho, hc, hd, rfl, hH⟩ := hM.hands
 have hlp : m.sig.1.length ≤ 9223372036854775807 := by have := hP.le; have := hP.max; omega
 have hlc : m.code.length ≤ 9223372036854775807 := by have := hC.le; have := hC.max; omega
 have hlh : m.hands.length ≤ 9223372036854775807 := by have := hH.le; have := hH.max; omega
 have hll : l.length ≤ 9223372036854775807 := by have := hE1.le; have := hE1.max; omega
 have HK := fun W (hW : Only [] w W) => rcheck4_any (cap := cc) (ecap := ec) (hC.rs.only0 hW) hC.le hC.max (ES.of_rs (hE1.rs.only0 hW)) hll hA m.locals
 have HB := fun W (hW : Only [] w W) (hs : m.code.length ≤ 100000) => rhandlers_any (P := P) m hF hs (hM0.only0 hW)
 have hsm := checkI_small (code := m.code) (l := l) (locals := m.locals)
 have hhI : handedE m = if m.flags = 4 then (m.sig.1.length : Int) else (m.sig.1.length : Int) + 1 := rfl
 obtain ⟨R, hR⟩ : ∃ R, R = bodyE l m := ⟨_, rfl⟩
 rw [← hR]
 unfold bodyE at hR
 clear hM hM0 hP hC hH hE1 hA hF
 unfold meV at HB ⊢
 generalize handlersE m = hE at *
 generalize handedE m = hI at *
 generalize checkI m.code l m.locals = cI at *
 obtain ⟨ca, ce⟩ := cI
 obtain ⟨fl, nm, ⟨ps, vo, td, tn⟩, st, lo, code, hs⟩ := m
 simp only at HK HB hsm hlp hlc hlh hR hhI hps ⊢
 replace HK := hid HK
 replace HB := hid HB
 replace hR := hid hR
 have o0 := (Only.refl [] w).alloc (.cells #[.int .i64 fl, .string (str nm), .slice po ps.length pc, .bool vo, .int .i64 td, .string (str tn), .int .i64 st, .int .i64 lo, .slice co code.length cc, .slice ho hs.length hc] 41)
 have S1 := hid (me10_new w (.int .i64 fl) (.string (str nm)) (.slice po ps.length pc) (.bool vo) (.int .i64 td) (.string (str tn)) (.int .i64 st) (.int .i64 lo) (.slice co code.length cc) (.slice ho hs.length hc) 41)
 by_cases f2 : fl = 2
 ·subst f2
  by_cases h1 : st = 0
  ·subst h1
   by_cases h2 : lo = 0
   ·subst h2
    by_cases h3 : 0 < code.length
    ·have g3 : (0 : Int) < (code.length : Int) := by omega
     have hRR : R = (0, 1) := by
      rw [hR.out]
      simp [h3]
     subst hRR
     clear hR
     go_enter Tryz.func183, Tryz.ntmps183
     go_wp2
     go_ret2
     exact ⟨rfl, o0⟩
    ·have g3 : ¬ (0 : Int) < (code.length : Int) := by omega
     by_cases h4 : 0 < hs.length
     ·have g4 : (0 : Int) < (hs.length : Int) := by omega
      have hRR : R = (0, 1) := by
       rw [hR.out]
       simp [h4]
      subst hRR
      clear hR
      go_enter Tryz.func183, Tryz.ntmps183
      go_wp2
      go_ret2
      exact ⟨rfl, o0⟩
     ·have g4 : ¬ (0 : Int) < (hs.length : Int) := by omega
      have hRR : R = (0, 0) := by
       rw [hR.out]
       simp [h3, h4]
      subst hRR
      clear hR
      go_enter Tryz.func183, Tryz.ntmps183
      go_wp2
      go_ret2
      exact ⟨rfl, o0⟩
   ·have n2 : (lo != 0) = true := by simpa using h2
    have m2 : (lo == 0) = false := by simpa using h2
    have hRR : R = (0, 1) := by
     rw [hR.out]
     simp [h2]
    subst hRR
    clear hR
    go_enter Tryz.func183, Tryz.ntmps183
    go_wp2
    go_ret2
    exact ⟨rfl, o0⟩
  ·have n1 : (st != 0) = true := by simpa using h1
   have m1 : (st == 0) = false := by simpa using h1
   have hRR : R = (0, 1) := by
    rw [hR.out]
    simp [h1]
   subst hRR
   clear hR
   go_enter Tryz.func183, Tryz.ntmps183
   go_wp2
   go_ret2
   exact ⟨rfl, o0⟩
 ·have f2' : (fl == 2) = false := by simpa using f2
  by_cases c0 : st < 0
  case pos =>
   have hRR : R = (0, 1) := by
    rw [hR.out]
    simp [f2, c0]
   subst hRR
   clear hR
   go_enter Tryz.func183, Tryz.ntmps183
   go_wp2
   go_ret2
   exact ⟨rfl, o0⟩
  by_cases c1 : 64 < st
  case pos =>
   have hRR : R = (0, 1) := by
    rw [hR.out]
    simp [f2, c1]
   subst hRR
   clear hR
   go_enter Tryz.func183, Tryz.ntmps183
   go_wp2
   go_ret2
   exact ⟨rfl, o0⟩
  by_cases c2 : lo < 0
  case pos =>
   have hRR : R = (0, 1) := by
    rw [hR.out]
    simp [f2, c2]
   subst hRR
   clear hR
   go_enter Tryz.func183, Tryz.ntmps183
   go_wp2
   go_ret2
   exact ⟨rfl, o0⟩
  by_cases c3 : 64 < lo
  case pos =>
   have hRR : R = (0, 1) := by
    rw [hR.out]
    simp [f2, c3]
   subst hRR
   clear hR
   go_enter Tryz.func183, Tryz.ntmps183
   go_wp2
   go_ret2
   exact ⟨rfl, o0⟩
  have hR4 : Hid (R = if lo < hI then (0, 43) else if ce = 0 then hE else (ca, ce)) := by
   unfold Hid
   rw [hR.out, if_neg f2, if_neg (by omega)]
  clear hR
  by_cases f4 : fl = 4
  ·subst f4
   obtain rfl : hI = (ps.length : Int) := by rw [hhI]; simp
   clear hhI
   by_cases c4 : lo < (ps.length : Int)
   ·have hRR : R = (0, 43) := by rw [hR4.out, if_pos c4]
    subst hRR
    clear hR4 HK HB
    have gl : lo < (ps.length : Int) := c4
    go_enter Tryz.func183, Tryz.ntmps183
    go_wp2
    go_ret2
    exact ⟨rfl, o0⟩
   ·have gl : ¬ lo < (ps.length : Int) := c4
    by_cases c5 : ce = 0
    ·have hRR : R = hE := by rw [hR4.out, if_neg c4, if_pos c5]
     have hsm2 := hsm c5
     subst hRR c5
     clear hR4
     go_enter Tryz.func183, Tryz.ntmps183
     go_wp2_with fail
     refine (HK.out _ o0).mono ?_
     rintro e w3 ⟨rfl, o3⟩
     have HB3 := hid (HB.out w3 (o0.trans o3 (by simp)) (by omega))
     obtain ⟨a0, a1, a2, a3, a4, a5, a6, a7, a8, a9, _, _, _, _, _, _, _, _, _, _⟩ := S1.out.only o3 (by simp)
     clear HB HK
     go_wp2_with fail
     refine HB3.out.mono ?_
     rintro e w4 ⟨rfl, o4⟩
     go_wp2_with fail
     go_ret2
     exact ⟨rfl, (o0.trans o3 (by simp)).trans o4 (by simp)⟩
    ·have n5 : (ce != 0) = true := by simpa using c5
     have m5 : (ce == 0) = false := by simpa using c5
     have hRR : R = (ca, ce) := by rw [hR4.out, if_neg c4, if_neg c5]
     subst hRR
     clear hR4 HB
     go_enter Tryz.func183, Tryz.ntmps183
     go_wp2_with fail
     refine (HK.out _ o0).mono ?_
     rintro e w3 ⟨rfl, o3⟩
     go_wp2_with fail
     go_ret2
     exact ⟨rfl, o0.trans o3 (by simp)⟩
  ·have n4 : (fl != 4) = true := by simpa using f4
   have m4 : (fl == 4) = false := by simpa using f4
   obtain rfl : hI = (ps.length : Int) + 1 := by rw [hhI, if_neg f4]
   clear hhI
   by_cases c4 : lo < (ps.length : Int) + 1
   ·have hRR : R = (0, 43) := by rw [hR4.out, if_pos c4]
    subst hRR
    clear hR4 HK HB
    have gl : lo < (ps.length : Int) + 1 := c4
    go_enter Tryz.func183, Tryz.ntmps183
    go_wp2
    go_ret2
    exact ⟨rfl, o0⟩
   ·have gl : ¬ lo < (ps.length : Int) + 1 := c4
    by_cases c5 : ce = 0
    ·have hRR : R = hE := by rw [hR4.out, if_neg c4, if_pos c5]
     have hsm2 := hsm c5
     subst hRR c5
     clear hR4
     go_enter Tryz.func183, Tryz.ntmps183
     go_wp2_with fail
     refine (HK.out _ o0).mono ?_
     rintro e w3 ⟨rfl, o3⟩
     have HB3 := hid (HB.out w3 (o0.trans o3 (by simp)) (by omega))
     obtain ⟨a0, a1, a2, a3, a4, a5, a6, a7, a8, a9, _, _, _, _, _, _, _, _, _, _⟩ := S1.out.only o3 (by simp)
     clear HB HK
     go_wp2_with fail
     refine HB3.out.mono ?_
     rintro e w4 ⟨rfl, o4⟩
     go_wp2_with fail
     go_ret2
     exact ⟨rfl, (o0.trans o3 (by simp)).trans o4 (by simp)⟩
    ·have n5 : (ce != 0) = true := by simpa using c5
     have m5 : (ce == 0) = false := by simpa using c5
     have hRR : R = (ca, ce) := by rw [hR4.out, if_neg c4, if_neg c5]
     subst hRR
     clear hR4 HB
     go_enter Tryz.func183, Tryz.ntmps183
     go_wp2_with fail
     refine (HK.out _ o0).mono ?_
     rintro e w3 ⟨rfl, o3⟩
     go_wp2_with fail
     go_ret2
     exact ⟨rfl, o0.trans o3 (by simp)⟩

set_option maxHeartbeats 4000000 in
theorem rhead_any (c : Cl) {fo dd : Option Addr} {fc dc : Nat} (vm : Value) (h1 : c.name.length ≤ 9223372036854775807) (h2 : c.super.length ≤ 9223372036854775807) (h3 : c.faces.length ≤ 9223372036854775807) (h4 : c.fields.length ≤ 9223372036854775807) (w : World) :
  Calls Tryz.prog 152 #[clV (.slice fo c.faces.length fc) (.slice dd c.fields.length dc) vm c] w fun e w' => e = .returned (.int .i64 (headE c)) ∧ Only [] w w' := by
 have N1 := fun W => rname_any c.name h1 W
 have N2 := fun W => rname_any c.super h2 W
 obtain ⟨fl, nm, su, fa, fi, me⟩ := c
 unfold clV headE
 simp only at N1 N2 h1 h2 h3 h4 ⊢
 generalize fa.length = nf at *
 generalize fi.length = nd at *
 have o0 := (Only.refl [] w).alloc (.cells #[.int .i64 fl, .string (str nm), .string (str su), .slice fo nf fc, .slice dd nd dc, vm] 28)
 by_cases hfl : fl ≠ 0 ∧ fl ≠ 1 ∧ fl ≠ 2
 ·rw [if_pos hfl]
  obtain ⟨g0, g1, g2⟩ := hfl
  have g0' : (fl == 0) = false := by simpa using g0
  have g1' : (fl == 1) = false := by simpa using g1
  have g2' : (fl == 2) = false := by simpa using g2
  have n0 : (fl != 0) = true := by simpa using g0
  have n1 : (fl != 1) = true := by simpa using g1
  have n2 : (fl != 2) = true := by simpa using g2
  clear N1 N2
  go_enter Tryz.func152, Tryz.ntmps152
  go_wp2
  go_ret
  exact ⟨rfl, o0⟩
 ·rw [if_neg hfl]
  have hfl' : fl = 0 ∨ fl = 1 ∨ fl = 2 := by omega
  clear hfl
  generalize nameOK nm = b1 at *
  generalize nameOK su = b2 at *
  replace N1 := hid N1
  replace N2 := hid N2
  rcases hfl' with rfl | rfl | rfl
  ·cases b1 with
   | false =>
    rw [if_pos (Or.inl rfl)]
    go_enter Tryz.func152, Tryz.ntmps152
    go_wp2_with fail
    refine (N1.out _).mono ?_
    rintro e w' ⟨rfl, rfl⟩
    go_wp2_with fail
    go_ret
    exact ⟨rfl, o0⟩
   | true =>
    cases b2 with
    | false =>
     rw [if_pos (Or.inr rfl)]
     go_enter Tryz.func152, Tryz.ntmps152
     go_wp2_with fail
     refine (N1.out _).mono ?_
     rintro e w' ⟨rfl, rfl⟩
     go_wp2_with fail
     refine (N2.out _).mono ?_
     rintro e w' ⟨rfl, rfl⟩
     go_wp2_with fail
     go_ret
     exact ⟨rfl, o0⟩
    | true =>
     rw [if_neg (by simp)]
     by_cases hm : 16 < nf
     ·rw [if_pos hm]
      have gm : (16 : Int) < (nf : Int) := by omega
      go_enter Tryz.func152, Tryz.ntmps152
      go_wp2_with fail
      refine (N1.out _).mono ?_
      rintro e w' ⟨rfl, rfl⟩
      go_wp2_with fail
      refine (N2.out _).mono ?_
      rintro e w' ⟨rfl, rfl⟩
      go_wp2_with fail
      go_ret
      exact ⟨rfl, o0⟩
     ·rw [if_neg hm]
      have gm : ¬ (16 : Int) < (nf : Int) := by omega
      rw [if_neg (by omega), if_neg (by omega)]
      go_enter Tryz.func152, Tryz.ntmps152
      go_wp2_with fail
      refine (N1.out _).mono ?_
      rintro e w' ⟨rfl, rfl⟩
      go_wp2_with fail
      refine (N2.out _).mono ?_
      rintro e w' ⟨rfl, rfl⟩
      go_wp2_with fail
      go_ret
      exact ⟨rfl, o0⟩

  ·cases b1 with
   | false =>
    rw [if_pos (Or.inl rfl)]
    go_enter Tryz.func152, Tryz.ntmps152
    go_wp2_with fail
    refine (N1.out _).mono ?_
    rintro e w' ⟨rfl, rfl⟩
    go_wp2_with fail
    go_ret
    exact ⟨rfl, o0⟩
   | true =>
    cases b2 with
    | false =>
     rw [if_pos (Or.inr rfl)]
     go_enter Tryz.func152, Tryz.ntmps152
     go_wp2_with fail
     refine (N1.out _).mono ?_
     rintro e w' ⟨rfl, rfl⟩
     go_wp2_with fail
     refine (N2.out _).mono ?_
     rintro e w' ⟨rfl, rfl⟩
     go_wp2_with fail
     go_ret
     exact ⟨rfl, o0⟩
    | true =>
     rw [if_neg (by simp)]
     by_cases hm : 16 < nf
     ·rw [if_pos hm]
      have gm : (16 : Int) < (nf : Int) := by omega
      go_enter Tryz.func152, Tryz.ntmps152
      go_wp2_with fail
      refine (N1.out _).mono ?_
      rintro e w' ⟨rfl, rfl⟩
      go_wp2_with fail
      refine (N2.out _).mono ?_
      rintro e w' ⟨rfl, rfl⟩
      go_wp2_with fail
      go_ret
      exact ⟨rfl, o0⟩
     ·rw [if_neg hm]
      have gm : ¬ (16 : Int) < (nf : Int) := by omega
      by_cases hs : su = objL
      ·rw [if_neg (by simp [hs])]
       subst hs
       have ht : (str objL).toList = [79, 98, 106, 101, 99, 116] := str_toList _
       by_cases hd : 0 < nd
       ·rw [if_pos ⟨rfl, hd⟩]
        have gd : (0 : Int) < (nd : Int) := by omega
        go_enter Tryz.func152, Tryz.ntmps152
        go_wp2_with fail
        refine (N1.out _).mono ?_
        rintro e w' ⟨rfl, rfl⟩
        go_wp2_with fail
        refine (N2.out _).mono ?_
        rintro e w' ⟨rfl, rfl⟩
        go_wp2_with fail
        go_ret
        exact ⟨rfl, o0⟩
       ·rw [if_neg (by omega)]
        have gd : ¬ (0 : Int) < (nd : Int) := by omega
        go_enter Tryz.func152, Tryz.ntmps152
        go_wp2_with fail
        refine (N1.out _).mono ?_
        rintro e w' ⟨rfl, rfl⟩
        go_wp2_with fail
        refine (N2.out _).mono ?_
        rintro e w' ⟨rfl, rfl⟩
        go_wp2_with fail
        go_ret
        exact ⟨rfl, o0⟩
      ·rw [if_pos ⟨rfl, hs⟩]
       have ht := str_toList su
       have hb2 : ¬ (su = [79, 98, 106, 101, 99, 116]) := hs
       have hb3 : (su == [79, 98, 106, 101, 99, 116]) = false := by simpa using hb2
       go_enter Tryz.func152, Tryz.ntmps152
       go_wp2_with fail
       refine (N1.out _).mono ?_
       rintro e w' ⟨rfl, rfl⟩
       go_wp2_with fail
       refine (N2.out _).mono ?_
       rintro e w' ⟨rfl, rfl⟩
       go_wp2_with fail
       go_ret
       exact ⟨rfl, o0⟩

  ·cases b1 with
   | false =>
    rw [if_pos (Or.inl rfl)]
    go_enter Tryz.func152, Tryz.ntmps152
    go_wp2_with fail
    refine (N1.out _).mono ?_
    rintro e w' ⟨rfl, rfl⟩
    go_wp2_with fail
    go_ret
    exact ⟨rfl, o0⟩
   | true =>
    cases b2 with
    | false =>
     rw [if_pos (Or.inr rfl)]
     go_enter Tryz.func152, Tryz.ntmps152
     go_wp2_with fail
     refine (N1.out _).mono ?_
     rintro e w' ⟨rfl, rfl⟩
     go_wp2_with fail
     refine (N2.out _).mono ?_
     rintro e w' ⟨rfl, rfl⟩
     go_wp2_with fail
     go_ret
     exact ⟨rfl, o0⟩
    | true =>
     rw [if_neg (by simp)]
     by_cases hm : 16 < nf
     ·rw [if_pos hm]
      have gm : (16 : Int) < (nf : Int) := by omega
      go_enter Tryz.func152, Tryz.ntmps152
      go_wp2_with fail
      refine (N1.out _).mono ?_
      rintro e w' ⟨rfl, rfl⟩
      go_wp2_with fail
      refine (N2.out _).mono ?_
      rintro e w' ⟨rfl, rfl⟩
      go_wp2_with fail
      go_ret
      exact ⟨rfl, o0⟩
     ·rw [if_neg hm]
      have gm : ¬ (16 : Int) < (nf : Int) := by omega
      rw [if_neg (by omega), if_neg (by omega)]
      go_enter Tryz.func152, Tryz.ntmps152
      go_wp2_with fail
      refine (N1.out _).mono ?_
      rintro e w' ⟨rfl, rfl⟩
      go_wp2_with fail
      refine (N2.out _).mono ?_
      rintro e w' ⟨rfl, rfl⟩
      go_wp2_with fail
      go_ret
      exact ⟨rfl, o0⟩

theorem any_false_take {α : Type} {p : α → Bool} {l : List α} {i : Nat} (h : ∀ k (hk : k < l.length), k < i → p l[k] = false) : (l.take i).any p = false := by
 rw [List.any_eq_false]
 intro x hx
 obtain ⟨k, hk, rfl⟩ := List.getElem_of_mem hx
 have hk' : k < l.length ∧ k < i := by simp at hk; omega
 rw [List.getElem_take]
 simp [h k hk'.1 hk'.2]

theorem any_true_take {α : Type} {p : α → Bool} {l : List α} {i k : Nat} (hk : k < l.length) (hi : k < i) (h : p l[k] = true) : (l.take i).any p = true :=
 List.any_eq_true.2 ⟨l[k], by rw [List.mem_take_iff_getElem]; exact ⟨k, by omega, rfl⟩, h⟩

set_option maxHeartbeats 2000000 in
set_option maxRecDepth 100000 in
theorem rface_any {w : World} {P : Nat → Prop} (c : Cl) (i : Nat) (hi : i < c.faces.length) (hF : ∀ s ∈ c.faces, s.length ≤ 9223372036854775807) {vf vd vm : Value} (hC : SlV w P vf c.faces.length (scs c.faces)) :
  Calls Tryz.prog 153 #[clV vf vd vm c, .int .i64 (i : Int)] w fun e w' => e = .returned (.int .i64 (faceE (c.faces.take i) c.faces[i])) ∧ Only [] w w' := by
 obtain ⟨fo, fc, rfl, hlen⟩ := hC.shape
 obtain ⟨d, hr⟩ := hC.rs
 have HN := fun W => rname_any c.faces[i] (hF _ (List.getElem_mem hi)) W
 have o0 := (Only.refl [] w).alloc (.cells #[.int .i64 c.flags, .string (str c.name), .string (str c.super), .slice fo c.faces.length fc, vd, vm] 28)
 have S0 := cl6_new w (.int .i64 c.flags) (.string (str c.name)) (.string (str c.super)) (.slice fo c.faces.length fc) vd vm 28
 obtain ⟨off, hao, y0⟩ := str_cells (hr.only0 o0) hi
 obtain ⟨R, hR⟩ : ∃ R, R = faceE (c.faces.take i) c.faces[i] := ⟨_, rfl⟩
 rw [← hR]
 unfold faceE at hR
 replace hR := hid hR
 have gi : ((i : Int) < (c.faces.length : Int)) := by omega
 cases hnm : nameOK c.faces[i] with
 | false =>
  simp only [hnm] at HN
  have hRR : R = 14 := by rw [hR.out, hnm]; simp
  subst hRR hao
  replace HN := hid HN
  obtain ⟨c0, c1, c2, c3, c4, c5, _, _, _, _, _, _⟩ := S0
  clear hR
  unfold clV
  go_enter Tryz.func153, Tryz.ntmps153
  go_wp2_with fail
  refine (HN.out _).mono ?_
  rintro e w' ⟨rfl, rfl⟩
  go_wp2_with fail
  go_ret
  exact ⟨rfl, o0⟩
 | true =>
  simp only [hnm] at HN
  replace HN := hid HN
  subst hao
  replace hr := hid hr
  replace o0 := hid o0
  obtain ⟨c0, c1, c2, c3, c4, c5, _, _, _, _, _, _⟩ := S0
  have S0 := hid (cl6_new w (.int .i64 c.flags) (.string (str c.name)) (.string (str c.super)) (.slice (some ⟨d, off, none⟩) c.faces.length fc) vd vm 28)
  unfold clV
  go_enter Tryz.func153, Tryz.ntmps153
  go_wp2_with fail
  refine (HN.out _).mono ?_
  rintro e w' ⟨rfl, rfl⟩
  go_wp2_with fail
  clear c0 c1 c2 c3 c4 c5 y0 HN
  go_loopw [5] (fun v wr => ∃ j : Nat, j ≤ i ∧ v = .int .i64 (j : Int) ∧ Hid (∀ k (hk : k < c.faces.length), k < j → decide (c.faces[k] = c.faces[i]) = false) ∧ Hid (Cl6 wr w.heap.size (.int .i64 c.flags) (.string (str c.name)) (.string (str c.super)) (.slice (some ⟨d, off, none⟩) c.faces.length fc) vd vm) ∧ Hid (Only [] w wr)) (fun v _ => i - (intOf v).toNat)
  case atStart => exact ⟨0, by omega, rfl, hid (fun k hk h => by omega), S0, o0⟩
  case round =>
   obtain ⟨j, hj, rfl, hno, hS, ho⟩ := hrel
   clear S0 o0
   obtain ⟨c0, c1, c2, c3, c4, c5, _, _, _, _, _, _⟩ := hS.out
   by_cases hlt : j < i
   ·have g1 : ((j : Int) < (i : Int)) := by omega
    have g2 : ((j : Int) < (c.faces.length : Int)) := by omega
    obtain ⟨off1, e1, y0⟩ := str_cells (hr.out.only0 ho.out) (j := j) (by omega)
    obtain ⟨off2, e2, y1⟩ := str_cells (hr.out.only0 ho.out) hi
    simp only [Option.some.injEq, Addr.mk.injEq, true_and, and_true] at e1 e2
    subst e1
    subst e2
    by_cases hq : c.faces[j] = c.faces[i]
    ·have hRR : R = 20 := by
      rw [hR.out, if_pos hnm, if_pos]
      rw [List.mem_take_iff_getElem]
      exact ⟨j, by omega, hq⟩
     subst hRR
     clear hR hno
     rw [hq] at y0
     go_wp2_with fail
     go_region
     go_wp2
     go_ret
     exact ⟨rfl, ho.out.drew⟩
    ·have p1 : ¬ ((str c.faces[j]).toList = (str c.faces[i]).toList) := by rw [str_toList, str_toList]; exact hq
     have q1 : ((str c.faces[j]).toList == (str c.faces[i]).toList) = false := by simpa using p1
     have hno2 : Hid (∀ k (hk : k < c.faces.length), k < j + 1 → decide (c.faces[k] = c.faces[i]) = false) := by
      intro k hk h
      by_cases e : k = j
      ·subst e; simpa using hq
      ·exact hno.out k hk (by omega)
     generalize c.faces[j] = s at *
     clear hno hq
     go_wp2_with fail
     go_region
     go_wp2
     exact ⟨⟨j + 1, by omega, by go_num, hno2, hid (hS.out.only (Only.refl [] _).drew (by simp)), hid ho.out.drew⟩, by simp [intOf]; omega⟩
   ·have g1 : ¬ ((j : Int) < (i : Int)) := by omega
    have hRR : R = 0 := by
     obtain rfl : j = i := by omega
     rw [hR.out, if_pos hnm, if_neg]
     rw [List.mem_take_iff_getElem]
     rintro ⟨k, hk, he⟩
     have := hno.out k (by omega) (by omega)
     simp [he] at this
    subst hRR
    clear hR
    go_wp2
    go_ret
    exact ⟨rfl, ho.out⟩

end Go.Proofs.YtildemmkhndhjaaGreatDoor
