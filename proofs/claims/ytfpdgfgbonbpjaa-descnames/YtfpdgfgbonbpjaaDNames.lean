/-
  The walk of DescNames: it answers true of whatever text and type, and writes nothing that was there. No conditions.
-/
import Derived.Test.YtfpdgfgbonbpjaaXName
import Derived.Deep.RegionHeld3
namespace Go.Proofs.Ytfpdgfgbonbpjaa
open Go.RowKit

theorem keep_tys {a b z : World} {p q r : Nat} {x0 x1 y0 y1 z0 z1 : Value} (ho : Only [] a b)
    (h : a.cell? ⟨p, 0, none⟩ = some x0 ∧ a.cell? ⟨p, 1, none⟩ = some x1 ∧ a.cell? ⟨q, 0, none⟩ = some y0 ∧ a.cell? ⟨q, 1, none⟩ = some y1 ∧ a.cell? ⟨r, 0, none⟩ = some z0 ∧ a.cell? ⟨r, 1, none⟩ = some z1 ∧ Only [] z a) :
    b.cell? ⟨p, 0, none⟩ = some x0 ∧ b.cell? ⟨p, 1, none⟩ = some x1 ∧ b.cell? ⟨q, 0, none⟩ = some y0 ∧ b.cell? ⟨q, 1, none⟩ = some y1 ∧ b.cell? ⟨r, 0, none⟩ = some z0 ∧ b.cell? ⟨r, 1, none⟩ = some z1 ∧ Only [] z b := by
  obtain ⟨h0, h1, g0, g1, k0, k1, hz⟩ := h
  have hl := World.block_lt_of_cell? _ _ h0
  have gl := World.block_lt_of_cell? _ _ g0
  have kl := World.block_lt_of_cell? _ _ k0
  exact ⟨(ho.cell (p := ⟨p, 0, none⟩) hl (by simp)).trans h0, (ho.cell (p := ⟨p, 1, none⟩) hl (by simp)).trans h1, (ho.cell (p := ⟨q, 0, none⟩) gl (by simp)).trans g0, (ho.cell (p := ⟨q, 1, none⟩) gl (by simp)).trans g1,
    (ho.cell (p := ⟨r, 0, none⟩) kl (by simp)).trans k0, (ho.cell (p := ⟨r, 1, none⟩) kl (by simp)).trans k1, hz.next ho (by simp)⟩

theorem keep_ty {a b : World} {p : Nat} {x0 x1 : Value} (ho : Only [] a b) (h : a.cell? ⟨p, 0, none⟩ = some x0 ∧ a.cell? ⟨p, 1, none⟩ = some x1) :
    b.cell? ⟨p, 0, none⟩ = some x0 ∧ b.cell? ⟨p, 1, none⟩ = some x1 := by
  obtain ⟨h0, h1⟩ := h
  have hl := World.block_lt_of_cell? _ _ h0
  exact ⟨(ho.cell (p := ⟨p, 0, none⟩) hl (by simp)).trans h0, (ho.cell (p := ⟨p, 1, none⟩) hl (by simp)).trans h1⟩

theorem ty_new (w : World) (d : Int) (n : List UInt8) : (w.alloc (.cells #[.int .i64 d, .string (str n)] 23)).cell? ⟨w.heap.size, 0, none⟩ = some (.int .i64 d) ∧ (w.alloc (.cells #[.int .i64 d, .string (str n)] 23)).cell? ⟨w.heap.size, 1, none⟩ = some (.string (str n)) :=
  ⟨by rw [cell_new]; rfl, by rw [cell_new]; rfl⟩

set_option maxHeartbeats 4000000 in
set_option maxRecDepth 100000 in
theorem names_walk (l : List UInt8) (hl : l.length ≤ 9223372036854775807) (t : Ty) (ht : t.2.length ≤ 9223372036854775807) (w : World) :
    Calls Try.prog 3 #[.string (str l), tyV t] w fun e w' => e = .returned (.bool true) ∧ Below w.heap.size w w' := by
  have HN := fun W => name_any l hl W
  have HNr := fun W => rname_any l hl W
  have HM := fun W => method_any l hl W
  have HMr := fun W => rmethod_any l hl W
  have HC := fun W => check_any t ht W
  have HCr := fun W => rcheck_any t ht W
  have HO := fun W => object_any t ht W
  have HOr := fun W => robject_any t ht W
  have HNu := fun W => number_any t W
  have HNur := fun W => rnumber_any t W
  have HE := fun W => element_any t ht W
  have HEr := fun W => relement_any t ht W
  have HK := fun W => known_any W
  have o0 := (Only.refl [] w).alloc (.cells #[.int .i64 t.1, .string (str t.2)] 23)
  have T0 := ty_new w t.1 t.2
  obtain ⟨td, tn⟩ := t
  generalize nameOK l = b1 at *
  generalize methodOK l = b2 at *
  generalize tyObject (td, tn) = b3 at *
  generalize decide ((td, tn) = ((0, []) : Ty)) = b4 at *
  generalize tyElement (td, tn) = el at *
  obtain ⟨⟨ed, en⟩, eb⟩ := el
  have hq := eq_type (ed, en) (ed, en)
  rw [decide_eq_true rfl] at hq
  simp only [tyV] at *
  replace HN := hid HN
  replace HNr := hid HNr
  replace HM := hid HM
  replace HMr := hid HMr
  replace HC := hid HC
  replace HCr := hid HCr
  replace HO := hid HO
  replace HOr := hid HOr
  replace HNu := hid HNu
  replace HNur := hid HNur
  replace HE := hid HE
  replace HEr := hid HEr
  replace HK := hid HK
  generalize tyCheck (td, tn) = c at *
  clear ht hl
  go_enter Try.func3, Try.ntmps3
  go_wp2_with fail
  refine (HE.out _).mono ?_
  rintro e w1 ⟨rfl, ho1⟩
  have T1 := keep_ty (ho1.alloc (.cells #[.int .i64 ed, .string (str en)] 23)) T0
  have X1 := ty_new w1 ed en
  have o1 := (o0.next ho1 (by simp)).alloc (.cells #[.int .i64 ed, .string (str en)] 23)
  obtain ⟨t0, t1⟩ := T1
  go_wp2_with fail
  refine (HEr.out _).mono ?_
  rintro e w2 ⟨rfl, ho2⟩
  have q2 := ho2.alloc (.cells #[.int .i64 ed, .string (str en)] 23)
  have T2 := keep_ty q2 ⟨t0, t1⟩
  have X2 := keep_ty q2 X1
  have Y2 := ty_new w2 ed en
  have o2 := o1.next q2 (by simp)
  clear t0 t1
  obtain ⟨t0, t1⟩ := T2
  go_wp2_with fail
  refine (HCr.out _).mono ?_
  rintro e w3 ⟨rfl, ho3⟩
  have K := keep_tys ho3 ⟨t0, t1, X2.1, X2.2, Y2.1, Y2.2, o2⟩
  clear t0 t1 X1 X2 Y2 T0
  obtain ⟨t0, t1, x0, x1, y0, y1, o3⟩ := K
  by_cases hc : c = 0
  · subst hc
    go_wp2_with fail
    go_region_held3 (fun w' => w'.cell? ⟨w.heap.size, 0, none⟩ = some (.int .i64 td) ∧ w'.cell? ⟨w.heap.size, 1, none⟩ = some (.string (str tn)) ∧ w'.cell? ⟨w1.heap.size, 0, none⟩ = some (.int .i64 ed) ∧ w'.cell? ⟨w1.heap.size, 1, none⟩ = some (.string (str en)) ∧ w'.cell? ⟨w2.heap.size, 0, none⟩ = some (.int .i64 ed) ∧ w'.cell? ⟨w2.heap.size, 1, none⟩ = some (.string (str en)) ∧ Only [] w w') (first | assumption | exact keep_tys (by assumption) (by assumption) | exact ⟨t0, t1, x0, x1, y0, y1, o3.drew⟩ | exact ⟨t0, t1, x0, x1, y0, y1, o3⟩)
      (first
        | (go_at_call 12; with_reducible refine (HK.out _).mono ?_; rintro e w4 ⟨rfl, ho4⟩)
        | (go_at_call 13; with_reducible refine (HN.out _).mono ?_; rintro e w5 ⟨rfl, rfl⟩)
        | (go_at_call 14; with_reducible refine (HNr.out _).mono ?_; rintro e w6 ⟨rfl, rfl⟩)
        | (go_at_call 15; with_reducible refine (HM.out _).mono ?_; rintro e w7 ⟨rfl, rfl⟩)
        | (go_at_call 16; with_reducible refine (HMr.out _).mono ?_; rintro e w8 ⟨rfl, rfl⟩)
        | (go_at_call 17; with_reducible refine (HC.out _).mono ?_; rintro e w9 ⟨rfl, ho9⟩)
        | (go_at_call 11; with_reducible refine (HCr.out _).mono ?_; rintro e w10 ⟨rfl, ho10⟩)
        | (go_at_call 18; with_reducible refine (HO.out _).mono ?_; rintro e w11 ⟨rfl, ho11⟩)
        | (go_at_call 19; with_reducible refine (HOr.out _).mono ?_; rintro e w12 ⟨rfl, ho12⟩)
        | (go_at_call 20; with_reducible refine (HNu.out _).mono ?_; rintro e w13 ⟨rfl, ho13⟩)
        | (go_at_call 21; with_reducible refine (HNur.out _).mono ?_; rintro e w14 ⟨rfl, ho14⟩))
    rename_i hS
    have oS := hS.2.2.2.2.2.2
    clear hS
    go_wp2
    go_ret
    exact ⟨by simp, oS.below (Nat.le_refl _) (by simp)⟩
  · have g1 : (c == 0) = false := by simpa using hc
    clear hc
    go_wp2_with fail
    refine wp_region_held_drew (S := (fun w' => w'.cell? ⟨w.heap.size, 0, none⟩ = some (.int .i64 td) ∧ w'.cell? ⟨w.heap.size, 1, none⟩ = some (.string (str tn)) ∧ w'.cell? ⟨w1.heap.size, 0, none⟩ = some (.int .i64 ed) ∧ w'.cell? ⟨w1.heap.size, 1, none⟩ = some (.string (str en)) ∧ w'.cell? ⟨w2.heap.size, 0, none⟩ = some (.int .i64 ed) ∧ w'.cell? ⟨w2.heap.size, 1, none⟩ = some (.string (str en)) ∧ Only [] w w')) (by kernel_rfl) ?hSb (fun hHeld => ?restb)
    case hSb => exact ⟨t0, t1, x0, x1, y0, y1, o3.drew⟩
    refine wpAnyH_ready (rs := [0]) (by kernel_rfl) (by simp) ?_
    refine AllReadyH.cons rfl (fun K hK => ?_) AllReadyH.nil
    go_simp
    go_at_call 12; with_reducible refine (HK.out _).mono ?_; rintro e v4 ⟨rfl, hv4⟩
    go_wp2_with fail
    refine hK.out _ _ ?hS0 (fun hHeld => ?rest0)
    case hS0 =>
      first | assumption | exact keep_tys (by assumption) (by assumption)
    clear hK K
    refine wpAnyH_take (i := 1) (v := ?v1) rfl (by kernel_rfl) (by kernel_rfl) (by kernel_rfl) (fun _ _ _ h => h) (Or.inl ⟨by kernel_rfl, ?hy1⟩) (by assumption) ?rest1
    case hy1 =>
      intro w hSw
      try dsimp only at hSw
      go_simp
      try with_reducible rfl
    refine wpAnyH_take (i := 2) (v := ?v2) rfl (by kernel_rfl) (by kernel_rfl) (by kernel_rfl) (fun _ _ _ h => h) (Or.inl ⟨by kernel_rfl, ?hy2⟩) (by assumption) ?rest2
    case hy2 =>
      intro w hSw
      try dsimp only at hSw
      go_simp
      try with_reducible rfl
    refine wpAnyH_take (i := 4) (v := ?v4) rfl (by kernel_rfl) (by kernel_rfl) (by kernel_rfl) (fun _ _ _ h => h) (Or.inl ⟨by kernel_rfl, ?hy4⟩) (by assumption) ?rest4
    case hy4 =>
      intro w hSw
      try dsimp only at hSw
      go_simp
      try with_reducible rfl
    refine wpAnyH_ready (rs := [3]) (by kernel_rfl) (by simp) ?_
    refine AllReadyH.cons rfl (fun K hK => ?_) AllReadyH.nil
    go_simp
    go_at_call 13; with_reducible refine (HN.out _).mono ?_; rintro e v5 ⟨rfl, rfl⟩
    go_wp2_with fail
    refine hK.out _ _ ?hS3 (fun hHeld => ?rest3)
    case hS3 =>
      first | assumption | exact keep_tys (by assumption) (by assumption)
    clear hK K
    refine wpAnyH_ready (rs := [5]) (by kernel_rfl) (by simp) ?_
    refine AllReadyH.cons rfl (fun K hK => ?_) AllReadyH.nil
    go_simp
    go_at_call 14; with_reducible refine (HNr.out _).mono ?_; rintro e v6 ⟨rfl, rfl⟩
    go_wp2_with fail
    refine hK.out _ _ ?hS5 (fun hHeld => ?rest5)
    case hS5 =>
      first | assumption | exact keep_tys (by assumption) (by assumption)
    clear hK K
    refine wpAnyH_take (i := 6) (v := ?v6) rfl (by kernel_rfl) (by kernel_rfl) (by kernel_rfl) (fun _ _ _ h => h) (Or.inl ⟨by kernel_rfl, ?hy6⟩) (by assumption) ?rest6
    case hy6 =>
      intro w hSw
      try dsimp only at hSw
      go_simp
      try with_reducible rfl
    refine wpAnyH_take (i := 7) (v := ?v7) rfl (by kernel_rfl) (by kernel_rfl) (by kernel_rfl) (fun _ _ _ h => h) (Or.inl ⟨by kernel_rfl, ?hy7⟩) (by assumption) ?rest7
    case hy7 =>
      intro w hSw
      try dsimp only at hSw
      go_simp
      try with_reducible rfl
    refine wpAnyH_take (i := 8) (v := ?v8) rfl (by kernel_rfl) (by kernel_rfl) (by kernel_rfl) (fun _ _ _ h => h) (Or.inl ⟨by kernel_rfl, ?hy8⟩) (by assumption) ?rest8
    case hy8 =>
      intro w hSw
      try dsimp only at hSw
      go_simp
      try with_reducible rfl
    refine wpAnyH_take (i := 9) (v := ?v9) rfl (by kernel_rfl) (by kernel_rfl) (by kernel_rfl) (fun _ _ _ h => h) (Or.inl ⟨by kernel_rfl, ?hy9⟩) (by assumption) ?rest9
    case hy9 =>
      intro w hSw
      try dsimp only at hSw
      go_simp
      try with_reducible rfl
    refine wpAnyH_take (i := 11) (v := ?v11) rfl (by kernel_rfl) (by kernel_rfl) (by kernel_rfl) (fun _ _ _ h => h) (Or.inl ⟨by kernel_rfl, ?hy11⟩) (by assumption) ?rest11
    case hy11 =>
      intro w hSw
      try dsimp only at hSw
      go_simp
      try with_reducible rfl
    refine wpAnyH_ready (rs := [10]) (by kernel_rfl) (by simp) ?_
    refine AllReadyH.cons rfl (fun K hK => ?_) AllReadyH.nil
    go_simp
    go_at_call 15; with_reducible refine (HM.out _).mono ?_; rintro e v7 ⟨rfl, rfl⟩
    go_wp2_with fail
    refine hK.out _ _ ?hS10 (fun hHeld => ?rest10)
    case hS10 =>
      first | assumption | exact keep_tys (by assumption) (by assumption)
    clear hK K
    refine wpAnyH_ready (rs := [12]) (by kernel_rfl) (by simp) ?_
    refine AllReadyH.cons rfl (fun K hK => ?_) AllReadyH.nil
    go_simp
    go_at_call 16; with_reducible refine (HMr.out _).mono ?_; rintro e v8 ⟨rfl, rfl⟩
    go_wp2_with fail
    refine hK.out _ _ ?hS12 (fun hHeld => ?rest12)
    case hS12 =>
      first | assumption | exact keep_tys (by assumption) (by assumption)
    clear hK K
    refine wpAnyH_take (i := 13) (v := ?v13) rfl (by kernel_rfl) (by kernel_rfl) (by kernel_rfl) (fun _ _ _ h => h) (Or.inl ⟨by kernel_rfl, ?hy13⟩) (by assumption) ?rest13
    case hy13 =>
      intro w hSw
      try dsimp only at hSw
      go_simp
      try with_reducible rfl
    refine wpAnyH_take (i := 14) (v := ?v14) rfl (by kernel_rfl) (by kernel_rfl) (by kernel_rfl) (fun _ _ _ h => h) (Or.inl ⟨by kernel_rfl, ?hy14⟩) (by assumption) ?rest14
    case hy14 =>
      intro w hSw
      try dsimp only at hSw
      go_simp
      try with_reducible rfl
    refine wpAnyH_take (i := 15) (v := ?v15) rfl (by kernel_rfl) (by kernel_rfl) (by kernel_rfl) (fun _ _ _ h => h) (Or.inl ⟨by kernel_rfl, ?hy15⟩) (by assumption) ?rest15
    case hy15 =>
      intro w hSw
      try dsimp only at hSw
      go_simp
      try with_reducible rfl
    refine wpAnyH_take (i := 16) (v := ?v16) rfl (by kernel_rfl) (by kernel_rfl) (by kernel_rfl) (fun _ _ _ h => h) (Or.inl ⟨by kernel_rfl, ?hy16⟩) (by assumption) ?rest16
    case hy16 =>
      intro w hSw
      try dsimp only at hSw
      go_simp
      try with_reducible rfl
    refine wpAnyH_take (i := 18) (v := ?v18) rfl (by kernel_rfl) (by kernel_rfl) (by kernel_rfl) (fun _ _ _ h => h) (Or.inl ⟨by kernel_rfl, ?hy18⟩) (by assumption) ?rest18
    case hy18 =>
      intro w hSw
      try dsimp only at hSw
      go_simp
      try with_reducible rfl
    refine wpAnyH_ready (rs := [17]) (by kernel_rfl) (by simp) ?_
    refine AllReadyH.cons rfl (fun K hK => ?_) AllReadyH.nil
    go_simp
    go_at_call 17; with_reducible refine (HC.out _).mono ?_; rintro e v9 ⟨rfl, hv9⟩
    go_wp2_with fail
    refine hK.out _ _ ?hS17 (fun hHeld => ?rest17)
    case hS17 =>
      first | assumption | exact keep_tys (by assumption) (by assumption)
    clear hK K
    refine wpAnyH_ready (rs := [19]) (by kernel_rfl) (by simp) ?_
    refine AllReadyH.cons rfl (fun K hK => ?_) AllReadyH.nil
    go_simp
    go_at_call 11; with_reducible refine (HCr.out _).mono ?_; rintro e v10 ⟨rfl, hv10⟩
    go_wp2_with fail
    refine hK.out _ _ ?hS19 (fun hHeld => ?rest19)
    case hS19 =>
      first | assumption | exact keep_tys (by assumption) (by assumption)
    clear hK K
    refine wpAnyH_take (i := 20) (v := ?v20) rfl (by kernel_rfl) (by kernel_rfl) (by kernel_rfl) (fun _ _ _ h => h) (Or.inl ⟨by kernel_rfl, ?hy20⟩) (by assumption) ?rest20
    case hy20 =>
      intro w hSw
      try dsimp only at hSw
      go_simp
      try with_reducible rfl
    refine wpAnyH_take (i := 21) (v := ?v21) rfl (by kernel_rfl) (by kernel_rfl) (by kernel_rfl) (fun _ _ _ h => h) (Or.inl ⟨by kernel_rfl, ?hy21⟩) (by assumption) ?rest21
    case hy21 =>
      intro w hSw
      try dsimp only at hSw
      go_simp
      try with_reducible rfl
    refine wpAnyH_take (i := 22) (v := ?v22) rfl (by kernel_rfl) (by kernel_rfl) (by kernel_rfl) (fun _ _ _ h => h) (Or.inl ⟨by kernel_rfl, ?hy22⟩) (by assumption) ?rest22
    case hy22 =>
      intro w hSw
      try dsimp only at hSw
      go_simp
      try with_reducible rfl
    refine wpAnyH_take (i := 23) (v := ?v23) rfl (by kernel_rfl) (by kernel_rfl) (by kernel_rfl) (fun _ _ _ h => h) (Or.inl ⟨by kernel_rfl, ?hy23⟩) (by assumption) ?rest23
    case hy23 =>
      intro w hSw
      try dsimp only at hSw
      go_simp
      try with_reducible rfl
    refine wpAnyH_take (i := 25) (v := ?v25) rfl (by kernel_rfl) (by kernel_rfl) (by kernel_rfl) (fun _ _ _ h => h) (Or.inl ⟨by kernel_rfl, ?hy25⟩) (by assumption) ?rest25
    case hy25 =>
      intro w hSw
      try dsimp only at hSw
      go_simp
      try with_reducible rfl
    refine wpAnyH_ready (rs := [24]) (by kernel_rfl) (by simp) ?_
    refine AllReadyH.cons rfl (fun K hK => ?_) AllReadyH.nil
    go_simp
    go_at_call 18; with_reducible refine (HO.out _).mono ?_; rintro e v11 ⟨rfl, hv11⟩
    go_wp2_with fail
    refine hK.out _ _ ?hS24 (fun hHeld => ?rest24)
    case hS24 =>
      first | assumption | exact keep_tys (by assumption) (by assumption)
    clear hK K
    refine wpAnyH_ready (rs := [26]) (by kernel_rfl) (by simp) ?_
    refine AllReadyH.cons rfl (fun K hK => ?_) AllReadyH.nil
    go_simp
    go_at_call 19; with_reducible refine (HOr.out _).mono ?_; rintro e v12 ⟨rfl, hv12⟩
    go_wp2_with fail
    refine hK.out _ _ ?hS26 (fun hHeld => ?rest26)
    case hS26 =>
      first | assumption | exact keep_tys (by assumption) (by assumption)
    clear hK K
    refine wpAnyH_take (i := 27) (v := ?v27) rfl (by kernel_rfl) (by kernel_rfl) (by kernel_rfl) (fun _ _ _ h => h) (Or.inl ⟨by kernel_rfl, ?hy27⟩) (by assumption) ?rest27
    case hy27 =>
      intro w hSw
      try dsimp only at hSw
      go_simp
      try with_reducible rfl
    refine wpAnyH_take (i := 28) (v := ?v28) rfl (by kernel_rfl) (by kernel_rfl) (by kernel_rfl) (fun _ _ _ h => h) (Or.inl ⟨by kernel_rfl, ?hy28⟩) (by assumption) ?rest28
    case hy28 =>
      intro w hSw
      try dsimp only at hSw
      go_simp
      try with_reducible rfl
    refine wpAnyH_take (i := 29) (v := ?v29) rfl (by kernel_rfl) (by kernel_rfl) (by kernel_rfl) (fun _ _ _ h => h) (Or.inl ⟨by kernel_rfl, ?hy29⟩) (by assumption) ?rest29
    case hy29 =>
      intro w hSw
      try dsimp only at hSw
      go_simp
      try with_reducible rfl
    refine wpAnyH_take (i := 30) (v := ?v30) rfl (by kernel_rfl) (by kernel_rfl) (by kernel_rfl) (fun _ _ _ h => h) (Or.inl ⟨by kernel_rfl, ?hy30⟩) (by assumption) ?rest30
    case hy30 =>
      intro w hSw
      try dsimp only at hSw
      go_simp
      try with_reducible rfl
    refine wpAnyH_take (i := 31) (v := ?v31) rfl (by kernel_rfl) (by kernel_rfl) (by kernel_rfl) (fun _ _ _ h => h) (Or.inl ⟨by kernel_rfl, ?hy31⟩) (by assumption) ?rest31
    case hy31 =>
      intro w hSw
      try dsimp only at hSw
      go_simp
      try with_reducible rfl
    refine wpAnyH_take (i := 32) (v := ?v32) rfl (by kernel_rfl) (by kernel_rfl) (by kernel_rfl) (fun _ _ _ h => h) (Or.inl ⟨by kernel_rfl, ?hy32⟩) (by assumption) ?rest32
    case hy32 =>
      intro w hSw
      try dsimp only at hSw
      go_simp
      try with_reducible rfl
    refine wpAnyH_take (i := 33) (v := undef) rfl (by kernel_rfl) (by kernel_rfl) (by kernel_rfl) (fun _ _ _ h => h) (Or.inr ⟨by kernel_rfl, rfl⟩) (by assumption) ?_
    refine wpAnyH_take (i := 35) (v := undef) rfl (by kernel_rfl) (by kernel_rfl) (by kernel_rfl) (fun _ _ _ h => h) (Or.inr ⟨by kernel_rfl, rfl⟩) (by assumption) ?_
    refine wpAnyH_ready (rs := [34]) (by kernel_rfl) (by simp) ?_
    refine AllReadyH.cons rfl (fun K hK => ?_) AllReadyH.nil
    go_simp
    refine hK.out _ _ ?hS34 (fun hHeld => ?rest34)
    case hS34 =>
      first | assumption | exact keep_tys (by assumption) (by assumption)
    clear hK K
    refine wpAnyH_ready (rs := [36]) (by kernel_rfl) (by simp) ?_
    refine AllReadyH.cons rfl (fun K hK => ?_) AllReadyH.nil
    go_simp
    refine hK.out _ _ ?hS36 (fun hHeld => ?rest36)
    case hS36 =>
      first | assumption | exact keep_tys (by assumption) (by assumption)
    clear hK K
    refine wpAnyH_take (i := 37) (v := undef) rfl (by kernel_rfl) (by kernel_rfl) (by kernel_rfl) (fun _ _ _ h => h) (Or.inr ⟨by kernel_rfl, rfl⟩) (by assumption) ?_
    refine wpAnyH_take (i := 38) (v := ?v38) rfl (by kernel_rfl) (by kernel_rfl) (by kernel_rfl) (fun _ _ _ h => h) (Or.inl ⟨by kernel_rfl, ?hy38⟩) (by assumption) ?rest38
    case hy38 =>
      intro w hSw
      try dsimp only at hSw
      go_simp
      try with_reducible rfl
    refine wpAnyH_take (i := 39) (v := ?v39) rfl (by kernel_rfl) (by kernel_rfl) (by kernel_rfl) (fun _ _ _ h => h) (Or.inl ⟨by kernel_rfl, ?hy39⟩) (by assumption) ?rest39
    case hy39 =>
      intro w hSw
      try dsimp only at hSw
      go_simp
      try with_reducible rfl
    refine wpAnyH_take (i := 40) (v := ?v40) rfl (by kernel_rfl) (by kernel_rfl) (by kernel_rfl) (fun _ _ _ h => h) (Or.inl ⟨by kernel_rfl, ?hy40⟩) (by assumption) ?rest40
    case hy40 =>
      intro w hSw
      try dsimp only at hSw
      go_simp
      try with_reducible rfl
    refine wpAnyH_take (i := 41) (v := ?v41) rfl (by kernel_rfl) (by kernel_rfl) (by kernel_rfl) (fun _ _ _ h => h) (Or.inl ⟨by kernel_rfl, ?hy41⟩) (by assumption) ?rest41
    case hy41 =>
      intro w hSw
      try dsimp only at hSw
      go_simp
      try with_reducible rfl
    refine wpAnyH_take (i := 42) (v := ?v42) rfl (by kernel_rfl) (by kernel_rfl) (by kernel_rfl) (fun _ _ _ h => h) (Or.inl ⟨by kernel_rfl, ?hy42⟩) (by assumption) ?rest42
    case hy42 =>
      intro w hSw
      try dsimp only at hSw
      go_simp
      try with_reducible rfl
    refine wpAnyH_take (i := 43) (v := ?v43) rfl (by kernel_rfl) (by kernel_rfl) (by kernel_rfl) (fun _ _ _ h => h) (Or.inl ⟨by kernel_rfl, ?hy43⟩) (by assumption) ?rest43
    case hy43 =>
      intro w hSw
      try dsimp only at hSw
      go_simp
      try with_reducible rfl
    refine wpAnyH_take (i := 44) (v := ?v44) rfl (by kernel_rfl) (by kernel_rfl) (by kernel_rfl) (fun _ _ _ h => h) (Or.inl ⟨by kernel_rfl, ?hy44⟩) (by assumption) ?rest44
    case hy44 =>
      intro w hSw
      try dsimp only at hSw
      go_simp
      try with_reducible rfl
    refine wpAnyH_take (i := 45) (v := ?v45) rfl (by kernel_rfl) (by kernel_rfl) (by kernel_rfl) (fun _ _ _ h => h) (Or.inl ⟨by kernel_rfl, ?hy45⟩) (by assumption) ?rest45
    case hy45 =>
      intro w hSw
      try dsimp only at hSw
      go_simp
      try with_reducible rfl
    refine wpAnyH_take (i := 46) (v := ?v46) rfl (by kernel_rfl) (by kernel_rfl) (by kernel_rfl) (fun _ _ _ h => h) (Or.inl ⟨by kernel_rfl, ?hy46⟩) (by assumption) ?rest46
    case hy46 =>
      intro w hSw
      try dsimp only at hSw
      go_simp
      try with_reducible rfl
    refine wpAnyH_take (i := 47) (v := ?v47) rfl (by kernel_rfl) (by kernel_rfl) (by kernel_rfl) (fun _ _ _ h => h) (Or.inl ⟨by kernel_rfl, ?hy47⟩) (by assumption) ?rest47
    case hy47 =>
      intro w hSw
      try dsimp only at hSw
      go_simp
      try with_reducible rfl
    refine wpAnyH_take (i := 48) (v := ?v48) rfl (by kernel_rfl) (by kernel_rfl) (by kernel_rfl) (fun _ _ _ h => h) (Or.inl ⟨by kernel_rfl, ?hy48⟩) (by assumption) ?rest48
    case hy48 =>
      intro w hSw
      try dsimp only at hSw
      go_simp
      try with_reducible rfl
    refine wpAnyH_take (i := 49) (v := ?v49) rfl (by kernel_rfl) (by kernel_rfl) (by kernel_rfl) (fun _ _ _ h => h) (Or.inl ⟨by kernel_rfl, ?hy49⟩) (by assumption) ?rest49
    case hy49 =>
      intro w hSw
      try dsimp only at hSw
      go_simp
      try with_reducible rfl
    refine wpAnyH_take (i := 50) (v := ?v50) rfl (by kernel_rfl) (by kernel_rfl) (by kernel_rfl) (fun _ _ _ h => h) (Or.inl ⟨by kernel_rfl, ?hy50⟩) (by assumption) ?rest50
    case hy50 =>
      intro w hSw
      try dsimp only at hSw
      go_simp
      try with_reducible rfl
    refine wpAnyH_done (by kernel_rfl) ?_ _
    have oS := hHeld.2.2.2.2.2.2
    go_wp2
    go_ret
    exact ⟨by first | kernel_rfl | rfl | simp [Act.put], oS.below (Nat.le_refl _) (by simp)⟩

end Go.Proofs.Ytfpdgfgbonbpjaa
