/-
  The walk of DescBack: it answers true of whatever type, signature and text, and writes nothing that was there. No conditions.
-/
import Derived.Test.YtfpdgfgbonbpjabDSame
import Derived.Deep.DeepCutAuto
namespace Go.Proofs.Ytfpdgfgbonbpjab
open Go.RowKit

theorem keep_sig {a b z : World} {p : Nat} {x0 x1 x2 x3 : Value} (ho : Only [] a b)
    (h : a.cell? ⟨p, 0, none⟩ = some x0 ∧ a.cell? ⟨p, 1, none⟩ = some x1 ∧ a.cell? ⟨p, 2, none⟩ = some x2 ∧ a.cell? ⟨p, 3, none⟩ = some x3 ∧ Only [] z a) :
    b.cell? ⟨p, 0, none⟩ = some x0 ∧ b.cell? ⟨p, 1, none⟩ = some x1 ∧ b.cell? ⟨p, 2, none⟩ = some x2 ∧ b.cell? ⟨p, 3, none⟩ = some x3 ∧ Only [] z b := by
  obtain ⟨h0, h1, h2, h3, hz⟩ := h
  have hl := World.block_lt_of_cell? _ _ h0
  exact ⟨(ho.cell (p := ⟨p, 0, none⟩) hl (by simp)).trans h0, (ho.cell (p := ⟨p, 1, none⟩) hl (by simp)).trans h1, (ho.cell (p := ⟨p, 2, none⟩) hl (by simp)).trans h2, (ho.cell (p := ⟨p, 3, none⟩) hl (by simp)).trans h3, hz.next ho (by simp)⟩

theorem keep_ty {a b : World} {p : Nat} {x0 x1 : Value} (ho : Only [] a b) (h : a.cell? ⟨p, 0, none⟩ = some x0 ∧ a.cell? ⟨p, 1, none⟩ = some x1) :
    b.cell? ⟨p, 0, none⟩ = some x0 ∧ b.cell? ⟨p, 1, none⟩ = some x1 := by
  obtain ⟨h0, h1⟩ := h
  have hl := World.block_lt_of_cell? _ _ h0
  exact ⟨(ho.cell (p := ⟨p, 0, none⟩) hl (by simp)).trans h0, (ho.cell (p := ⟨p, 1, none⟩) hl (by simp)).trans h1⟩

theorem neq_self (t : Ty) (w : World) : (binOp .neq 24 (.agg #[.int .i64 t.1, .string (str t.2)]) (.agg #[.int .i64 t.1, .string (str t.2)])).run Try.prog w = .ok (.bool false) w := by
  have := neq_type t t w
  rw [decide_eq_true rfl] at this
  exact this

theorem sigText_len {l : List Ty} {v : Bool} {t : Ty} (h : sigCheck l v t = 0) : (sigText l v t).length ≤ 9223372036854775807 := by
  obtain ⟨h1, h2, h3, _⟩ := sigCheck_ok h
  have hl := fits_len l fun x hx => check_fit (h2 x hx)
  have ht := fit_len (check_fit h3)
  unfold sigText
  split
  · simp
    omega
  · simp
    omega

set_option maxHeartbeats 400000 in
set_option maxRecDepth 100000 in
theorem back_walk (t : Ty) (ht : t.2.length ≤ 9223372036854775807) {w : World} {ao : Option Addr} {cap : Nat} {l : List Ty} {k : Nat} (hT : TS w ao l k) (hz : l.length ≤ 9223372036854775807) (_ : ao = none → cap = 0) (hA : ∀ t ∈ l, t.2.length ≤ 9223372036854775807) (v : Bool) {s : Ty} (hs : s.2.length ≤ 9223372036854775807)
    (b : List UInt8) (hb : b.length ≤ 9223372036854775807) :
    Calls Try.prog 5 #[tyV t, sigV (.slice ao l.length cap) v s, .string (str b)] w fun e w' => e = .returned (.bool true) ∧ Below w.heap.size w w' := by
  obtain ⟨sd, sn⟩ := s
  obtain ⟨td, tn⟩ := t
  simp only [sigV, tyV]
  have o0 := ((Only.refl [] w).alloc (.cells #[.int .i64 td, .string (str tn)] 24)).alloc (.cells #[.slice ao l.length cap, .bool v, .int .i64 sd, .string (str sn)] 26)
  have SG := sig_new (w.alloc (.cells #[.int .i64 td, .string (str tn)] 24)) (.slice ao l.length cap) v sd sn
  rw [World.size_alloc] at SG
  have K0 := keep_sig (Only.refl [] _) ⟨SG.c0, SG.c1, SG.c2, SG.c3, o0⟩
  have T0 : ((w.alloc (.cells #[.int .i64 td, .string (str tn)] 24)).alloc (.cells #[.slice ao l.length cap, .bool v, .int .i64 sd, .string (str sn)] 26)).cell? ⟨w.heap.size, 0, none⟩ = some (.int .i64 td) ∧ ((w.alloc (.cells #[.int .i64 td, .string (str tn)] 24)).alloc (.cells #[.slice ao l.length cap, .bool v, .int .i64 sd, .string (str sn)] 26)).cell? ⟨w.heap.size, 1, none⟩ = some (.string (str tn)) :=
    ⟨cell_alloc _ (by rw [cell_new]; rfl), cell_alloc _ (by rw [cell_new]; rfl)⟩
  clear SG
  replace K0 := hid K0
  replace T0 := hid T0
  go_enter Try.func5, Try.ntmps5
  go_wp2_with fail
  refine (known_any _).mono ?_
  rintro e w1 ⟨rfl, ho1⟩
  obtain ⟨t0, t1⟩ := keep_ty ho1 T0.out
  obtain ⟨c0, c1, c2, c3, o1⟩ := keep_sig ho1 K0.out
  have HF := few_any ao l.length cap v (sd, sn) w1
  simp only [sigV] at HF
  by_cases hf1 : l.length < 100
  · rw [decide_eq_true hf1] at HF
    replace HF := hid HF
    go_wp2_with fail
    refine HF.out.mono ?_
    rintro e w2 ⟨rfl, ho2⟩
    obtain ⟨t0, t1⟩ := keep_ty ho2 ⟨t0, t1⟩
    obtain ⟨c0, c1, c2, c3, o2⟩ := keep_sig ho2 ⟨c0, c1, c2, c3, o1⟩
    have H1 := typeText_any (td, tn) ht w2
    simp only [tyV] at H1
    replace H1 := hid H1
    go_wp2_with fail
    refine H1.out.mono ?_
    rintro e w3 ⟨rfl, ho3⟩
    obtain ⟨t0, t1⟩ := keep_ty ho3 ⟨t0, t1⟩
    obtain ⟨c0, c1, c2, c3, o3⟩ := keep_sig ho3 ⟨c0, c1, c2, c3, o2⟩
    go_upto_if 31 with fail
    go_cut [] (fun wx => wx.cell? ⟨w.heap.size + 1, 0, none⟩ = some (.slice ao l.length cap) ∧ wx.cell? ⟨w.heap.size + 1, 1, none⟩ = some (.bool v) ∧ wx.cell? ⟨w.heap.size + 1, 2, none⟩ = some (.int .i64 sd) ∧ wx.cell? ⟨w.heap.size + 1, 3, none⟩ = some (.string (str sn)) ∧ Only [] w wx)
    case first =>
      by_cases h : tyCheck (td, tn) = 0
      · have e1 : ttR (td, tn) = tyText (td, tn) := by simp [ttR, h]
        have hl1 := fit_len (check_fit h)
        have H2 := type_any (ttR (td, tn)) (by rw [e1]; omega) w3
        rw [e1, type_text h, ← e1] at H2
        simp only [tyV] at H2
        replace H2 := hid H2
        replace h := hid h
        have g1 : (tyCheck (td, tn) == 0) = true := by rw [h.out]; rfl
        clear e1 hl1
        go_wp2_with fail
        refine H2.out.mono ?_
        rintro e w4 ⟨rfl, ho4⟩
        have K := fun o => keep_ty (((Only.refl [] w3).next ho4 (by simp)).alloc o) ⟨t0, t1⟩
        have a0 := fun o => (K o).1
        have a1 := fun o => (K o).2
        have hq := neq_self (td, tn)
        clear K
        go_wp2_with fail
        go_meet
        exact keep_sig (((Only.refl [] w3).next ho4 (by simp)).alloc _) ⟨c0, c1, c2, c3, o3⟩
      · have g1 : (tyCheck (td, tn) == 0) = false := by simpa using h
        go_wp2_with fail
        go_meet
        exact ⟨c0, c1, c2, c3, o3⟩
    case rest =>
      clear t0 t1 c0 c1 c2 c3 o1 o2 o3
      obtain ⟨c0, c1, c2, c3, o4⟩ := hcut
      have H3 := sigText_any (cap := cap) (hT.only o4 (by simp)) hz hA v (sd, sn) hs
      simp only [sigV] at H3
      replace H3 := hid H3
      go_wp2_with fail
      refine H3.out.mono ?_
      rintro e w5 ⟨rfl, ho5⟩
      obtain ⟨c0, c1, c2, c3, o5⟩ := keep_sig ho5 ⟨c0, c1, c2, c3, o4⟩
      go_upto_if 50 with fail
      go_cut [] (fun wx => Only [] w wx)
      case first =>
        by_cases h : sigCheck l v (sd, sn) = 0
        · have e1 : stR l v (sd, sn) = sigText l v (sd, sn) := by simp [stR, h]
          have H2 := sig_any (stR l v (sd, sn)) (by rw [e1]; exact sigText_len h) w5
          rw [e1, sig_text h, ← e1] at H2
          simp only [sigV] at H2
          replace H2 := hid H2
          replace h := hid h
          have g1 : (sigCheck l v (sd, sn) == 0) = true := by rw [h.out]; rfl
          clear e1
          go_wp2_with fail
          refine H2.out.mono ?_
          rintro e w6 ⟨vv, rfl, hown, ho6⟩
          obtain ⟨ao2, cap2, rfl⟩ := own_slice hown
          have K := fun o => keep_sig (((Only.refl [] w5).next ho6 (by simp)).alloc o) ⟨c0, c1, c2, c3, o5⟩
          have a0 := fun o => (K o).1
          have a1 := fun o => (K o).2.1
          have a2 := fun o => (K o).2.2.1
          have a3 := fun o => (K o).2.2.2.1
          have o7 := (K (.cells #[.slice ao2 l.length cap2, .bool v, .int .i64 sd, .string (str sn)] 26)).2.2.2.2
          clear K
          have HS := same_any (cap := cap2) (bap := cap) (TS.of_owns (own_only hown ((Only.refl [] w6).alloc (.cells #[.slice ao2 l.length cap2, .bool v, .int .i64 sd, .string (str sn)] 26)) (by simp))).1 (hT.only o7 (by simp)) hz v v (sd, sn) (sd, sn)
          rw [same_self] at HS
          simp only [sigV] at HS
          replace HS := hid HS
          replace o7 := hid o7
          clear hown
          go_wp2_with fail
          refine HS.out.mono ?_
          rintro e w7 ⟨rfl, ho7⟩
          go_wp2_with fail
          go_meet
          exact o7.out.next ho7 (by simp)
        · have g1 : (sigCheck l v (sd, sn) == 0) = false := by simpa using h
          go_wp2_with fail
          go_meet
          exact o5
      case rest =>
        clear c0 c1 c2 c3 o4 o5
        have o6 := hcut
        clear hcut
        have H4 := type_any b hb wc
        have hr := type_read b
        generalize typeR b = X at *
        obtain ⟨⟨xd, xn⟩, xe⟩ := X
        simp only [tyV] at H4 hr
        replace H4 := hid H4
        replace hr := hid hr
        go_wp2_with fail
        refine H4.out.mono ?_
        rintro e w7 ⟨rfl, ho7⟩
        have o7 := (o6.next ho7 (by simp)).alloc (.cells #[.int .i64 xd, .string (str xn)] 24)
        go_upto_if 70 with fail
        go_cut [] (fun wx => Only [] w wx)
        case first =>
          by_cases h : xe = 0
          · subst h
            obtain ⟨h1, h2⟩ := hr.out rfl
            have hl1 := (check_fit h1).2.2
            simp only [] at hl1
            have H5 := typeText_any (xd, xn) (by simp; omega) (w7.alloc (.cells #[.int .i64 xd, .string (str xn)] 24))
            have e2 : ttR (xd, xn) = b := by simp [ttR, h1, h2]
            rw [h1, e2] at H5
            simp only [tyV] at H5
            replace H5 := hid H5
            clear h1 h2 e2
            go_wp2_with fail
            refine H5.out.mono ?_
            rintro e w8 ⟨rfl, ho8⟩
            have htl := str_toList b
            go_wp2_with fail
            go_meet
            exact o7.next ho8 (by simp)
          · have g1 : (xe == 0) = false := by simpa using h
            go_wp2_with fail
            go_meet
            exact o7
        case rest =>
          clear o6 o7 hr H4
          have o8 := hcut
          clear hcut
          have H6 := sig_any b hb wc
          have hr := sig_read b
          generalize sigR b = X at *
          obtain ⟨⟨ps, pv, pd, pn⟩, pe⟩ := X
          simp only [sigV] at H6 hr
          replace H6 := hid H6
          replace hr := hid hr
          go_wp2_with fail
          refine H6.out.mono ?_
          rintro e w9 ⟨vv, rfl, hown, ho9⟩
          obtain ⟨ao2, cap2, rfl⟩ := own_slice hown
          have o9 := (o8.next ho9 (by simp)).alloc (.cells #[.slice ao2 ps.length cap2, .bool pv, .int .i64 pd, .string (str pn)] 26)
          by_cases h : pe = 0
          · subst h
            obtain ⟨h1, h2⟩ := hr.out rfl
            obtain ⟨h3, h4, h5, _⟩ := sigCheck_ok h1
            have hl1 := (check_fit h5).2.2
            simp only [] at hl1
            have H7 := sigText_any (cap := cap2) (TS.of_owns (own_only hown ((Only.refl [] w9).alloc (.cells #[.slice ao2 ps.length cap2, .bool pv, .int .i64 pd, .string (str pn)] 26)) (by simp))).1 (by omega) (fun t ht => by have := (check_fit (h4 t ht)).2.2; omega) pv (pd, pn) (by simp; omega)
            have e2 : stR ps pv (pd, pn) = b := by simp [stR, h1, h2]
            rw [h1, e2] at H7
            simp only [sigV] at H7
            replace H7 := hid H7
            clear h1 h2 e2 h4 h5 hown
            go_wp2_with fail
            refine H7.out.mono ?_
            rintro e w10 ⟨rfl, ho10⟩
            have htl := str_toList b
            go_wp2
            go_ret
            exact ⟨by simp, (o9.next ho10 (by simp)).below (Nat.le_refl _) (by simp)⟩
          · have g1 : (pe == 0) = false := by simpa using h
            clear hown
            go_wp2
            go_ret
            exact ⟨by simp, o9.below (Nat.le_refl _) (by simp)⟩
  · rw [decide_eq_false hf1] at HF
    replace HF := hid HF
    go_wp2_with fail
    refine HF.out.mono ?_
    rintro e w2 ⟨rfl, ho2⟩
    go_wp2
    go_ret
    exact ⟨by simp, (o1.next ho2 (by simp)).below (Nat.le_refl _) (by simp)⟩

end Go.Proofs.Ytfpdgfgbonbpjab
