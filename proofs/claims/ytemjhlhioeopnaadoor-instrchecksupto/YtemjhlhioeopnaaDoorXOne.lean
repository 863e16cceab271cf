/-
  The contract of the second program's one: the type that begins at a place, and the place behind it. No conditions.
-/
import Derived.Test.YtemjhlhioeopnaaDoorXName
namespace Go.Proofs.YtemjhlhioeopnaaDoor
open Go.RowKit

theorem firstP_many (k : Nat) (h : 8 < k) (l : List UInt8) : firstP k l = none := by
  cases l with
  | nil => rfl
  | cons c t => simp [firstP, h]

theorem firstP_more (k : Nat) (t : List UInt8) : firstP k (91 :: t) = firstP (k + 1) t := by
  by_cases h : 8 < k
  · rw [firstP_many k h, firstP_many (k + 1) (by omega)]
  · rw [firstP, if_neg h, if_pos rfl]

theorem firstP_I (k : Nat) (h : ¬ 8 < k) (t : List UInt8) : firstP k (73 :: t) = some (((k : Int), []), t) := by
  rw [firstP, if_neg h, if_neg (by decide), if_pos rfl]

theorem firstP_other (k : Nat) (c : UInt8) (t : List UInt8) (h1 : c ≠ 91) (h2 : c ≠ 73) (h3 : c ≠ 76) : firstP k (c :: t) = none := by
  by_cases h : 8 < k
  · exact firstP_many k h _
  · rw [firstP, if_neg h, if_neg h1, if_neg h2, if_neg h3]

theorem firstP_L (k : Nat) (h : ¬ 8 < k) (t : List UInt8) : firstP k (76 :: t) = classP k t := by
  rw [firstP, if_neg h, if_neg (by decide), if_neg (by decide), if_pos rfl]

theorem while_take (t : List UInt8) (j : Nat) (h : ∀ x ∈ t.take j, x ≠ 59) (he : j = t.length ∨ ∃ q : j < t.length, t[j] = 59) : t.takeWhile (· != 59) = t.take j ∧ t.dropWhile (· != 59) = t.drop j := by
  have hs : t = t.take j ++ t.drop j := (List.take_append_drop j t).symm
  have hp : ∀ x ∈ t.take j, (x != 59) = true := fun x hx => by simpa using h x hx
  have e1 : (t.drop j).takeWhile (· != 59) = [] ∧ (t.drop j).dropWhile (· != 59) = t.drop j := by
    rcases he with e | ⟨q, e⟩
    · rw [List.drop_of_length_le (by omega)]
      exact ⟨rfl, rfl⟩
    · rw [List.drop_eq_getElem_cons q, e]
      exact ⟨rfl, rfl⟩
  refine ⟨?_, ?_⟩
  · conv => lhs; rw [hs]
    rw [List.takeWhile_append_of_pos hp, e1.1, List.append_nil]
  · conv => lhs; rw [hs]
    rw [List.dropWhile_append_of_pos hp, e1.2]

theorem byte_ne {c d : UInt8} (h : c ≠ d) : ((c.toNat : Int) == (d.toNat : Int)) = false := by
  rw [beq_eq_false_iff_ne]
  intro e
  apply h
  exact UInt8.toNat_inj.1 (by omega)

/-- What one answers. -/
def OneR (l : List UInt8) (p : Nat) (t : Ty) (n : Int) : Prop := match firstP 0 (l.drop p) with
  | some (t', r) => t = t' ∧ n = (l.length : Int) - r.length ∧ r = l.drop (l.length - r.length) ∧ r.length < l.length
  | none => n = -1

theorem one_result {w : World} {b : Nat} {x : Value} {t : Ty} (h : TyAt w b t) (tmps : Array Value) (h2 : tmps.getD 4 undef = .pointer (some ⟨b, 0, none⟩)) (h3 : tmps.getD 5 undef = x) :
    (results Tryd.f62 tmps).run Tryd.prog w = .ok (.tuple #[tyV t, x]) w := by
  obtain ⟨c0, c1, _, _⟩ := h
  rw [results_cell_tmp (p := 4) (u := 5) (ty := 78) Tryd.results62, h2, h3]
  simp [go_sem, c0, c1, tyV]

theorem tyAt_new (w : World) (d : Int) (n : List UInt8) : TyAt (w.alloc (.cells #[.int .i64 d, .string (str n)] 78)) w.heap.size (d, n) :=
  ⟨by rw [cell_new]; rfl, by rw [cell_new]; rfl, frozen_new _ _ _ _, frozen_new _ _ _ _⟩

theorem TyAt.put0 {w : World} {b : Nat} {t : Ty} (h : TyAt w b t) (d : Int) : TyAt (w.setCell ⟨b, 0, none⟩ (.int .i64 d)) b (d, t.2) :=
  ⟨cell_setCell_same _ _ h.c0, by rw [cell_setCell_ne _ _ (by simp)]; exact h.c1, by rw [frozen_setCell]; exact h.f0, by rw [frozen_setCell]; exact h.f1⟩

theorem TyAt.put1 {w : World} {b : Nat} {t : Ty} (h : TyAt w b t) (n : List UInt8) : TyAt (w.setCell ⟨b, 1, none⟩ (.string (str n))) b (t.1, n) :=
  ⟨by rw [cell_setCell_ne _ _ (by simp)]; exact h.c0, cell_setCell_same _ _ h.c1, by rw [frozen_setCell]; exact h.f0, by rw [frozen_setCell]; exact h.f1⟩

/-- How one ends. -/
def OnePost (l : List UInt8) (p : Nat) (w : World) (e : Ending) (w' : World) : Prop := ∃ t n, e = .returned (.tuple #[tyV t, .int .i64 n]) ∧ OneR l p t n ∧ Only [] w w'

/-- one, where it answers: a type and a place. -/
theorem one_end {w w2 : World} {t u : Ty} {n : Int} {l : List UInt8} {p : Nat} (hr : TyAt w2 w.heap.size u) (ho : Only [] w w2) (hR : OneR l p t n) (a : Act) (hd : a.defers = []) (h4 : a.tmps.getD 4 undef = .pointer (some ⟨w.heap.size, 0, none⟩)) (h5 : a.tmps.getD 5 undef = .int .i64 n) :
    bodyPost Tryd.prog Tryd.f62 (fun e w' => OnePost l p w e w') Exit.ret a ((w2.setCell ⟨w.heap.size, 0, none⟩ (.int .i64 t.1)).setCell ⟨w.heap.size, 1, none⟩ (.string (str t.2))) :=
  bodyPost_ret (one_result (hr.put t.1 t.2) _ h4 h5) hd ⟨t, n, rfl, hR, (ho.setCell (.inr (by simp)) _).setCell (.inr (by simp)) _⟩

set_option maxHeartbeats 400000 in
set_option maxRecDepth 100000 in
theorem one_any (l : List UInt8) (hl : l.length ≤ 9223372036854775807) (p : Nat) (hp : p ≤ l.length) (w : World) :
    Calls Tryd.prog 62 #[.string (str l), .int .i64 (p : Int)] w fun e w' => OnePost l p w e w' := by
  have hs := str_size l
  have R0 := (tyAt_new w 0 []).only ((Only.refl [] _).alloc (.cells #[.int .i64 0, .string ⟨#[]⟩] 78)) (by simp)
  have T0 := tyAt_new (w.alloc (.cells #[.int .i64 0, .string ⟨#[]⟩] 78)) 0 []
  rw [World.size_alloc] at T0
  have o0 := ((Only.refl [] w).alloc (.cells #[.int .i64 0, .string ⟨#[]⟩] 78)).alloc (.cells #[.int .i64 0, .string ⟨#[]⟩] 78)
  replace R0 := hid R0
  replace T0 := hid T0
  go_enter Tryd.func62, Tryd.ntmps62
  go_wp2
  go_loopw [1] (fun i wr => ∃ k q : Nat, Hid (p + k = q) ∧ k ≤ q ∧ q ≤ l.length ∧ i = .int .i64 (q : Int) ∧ Hid (firstP 0 (l.drop p) = firstP k (l.drop q)) ∧ TyAt wr w.heap.size (0, []) ∧ TyAt wr (w.heap.size + 1) ((k : Int), []) ∧ Only [] w wr) (fun i _ => l.length - (intOf i).toNat)
  case atStart => exact ⟨0, p, rfl, by omega, hp, rfl, rfl, R0.out, T0.out, o0⟩
  case round =>
    obtain ⟨k, q, hpk, hkq, hq, rfl, hF, hR, hTy, hor⟩ := hrel
    replace hR := hid hR
    replace hTy := hid hTy
    obtain ⟨r0, r1, rf0, rf1⟩ := hR.out
    obtain ⟨t0, t1, tf0, tf1⟩ := hTy.out
    clear R0 T0 o0
    by_cases hlt : q < l.length
    · have g1 : ((q : Int) < (l.length : Int)) := by omega
      have aq := run_at l q hlt
      have hdr := hid (List.drop_eq_getElem_cons hlt)
      generalize l[q] = c at *
      by_cases hc : c = 91
      · subst hc
        have hF2 : Hid (firstP 0 (l.drop p) = firstP (k + 1) (l.drop (q + 1))) := by
          unfold Hid
          rw [hF.out, hdr.out, firstP_more]
        go_wp2
        refine ⟨⟨k + 1, q + 1, by have := hpk.out; show p + (k + 1) = q + 1; omega, by omega, by omega, by go_num, hF2, ?_, ?_, ?_⟩, by simp [intOf]; omega⟩
        · exact hR.out.only ((Only.refl [w.heap.size + 1] _).setCell (.inl (by simp)) _) (by simp)
        · exact hTy.out.put0 _
        · exact hor.setCell (.inr (by simp)) _
      · have hc1 : ((c.toNat : Int) == 91) = false := byte_ne hc
        by_cases h8 : 8 < k
        · have g8 : (8 < (k : Int)) := by omega
          go_wp2
          exact one_end (t := ((k : Int), [])) (l := l) (p := p) hR.out hor (by unfold OneR; rw [hF.out, firstP_many k h8]) _ rfl rfl rfl
        · have g8 : ¬ (8 < (k : Int)) := by omega
          by_cases hI : c = 73
          · subst hI
            have hR2 : OneR l p ((k : Int), []) ((q : Int) + 1) := by
              unfold OneR
              rw [hF.out, hdr.out, firstP_I k h8]
              refine ⟨rfl, ?_, ?_, ?_⟩
              · simp
                omega
              · congr 1
                simp
                omega
              · simp
                omega
            replace hR2 := hid hR2
            go_wp2
            exact one_end (t := ((k : Int), [])) (l := l) (p := p) hR.out hor hR2.out _ rfl rfl rfl
          · have hc2 : ((c.toNat : Int) == 73) = false := byte_ne hI
            by_cases hL : c = 76
            · subst hL
              have hK : Hid (firstP 0 (l.drop p) = classP k (l.drop (q + 1))) := by
                unfold Hid
                rw [hF.out, hdr.out, firstP_L k h8]
              go_wp2
              clear hF hdr aq hc hI g8 hc1 hc2
              go_loopw [7] (fun i w2 => ∃ m : Nat, q + 1 ≤ m ∧ m ≤ l.length ∧ i = .int .i64 (m : Int) ∧ Hid (∀ x ∈ (l.drop (q + 1)).take (m - (q + 1)), x ≠ 59) ∧ w2 = wr) (fun i _ => l.length - (intOf i).toNat)
              case atStart => exact ⟨q + 1, by omega, by omega, by go_num, by simp [Hid], rfl⟩
              case round =>
                obtain ⟨m, hm1, hm2, rfl, hall, rfl⟩ := hrel
                by_cases hml : m < l.length
                · have g3 : ((m : Int) < (l.length : Int)) := by omega
                  have am := run_at l m hml
                  have hget : Hid (∃ z : m - (q + 1) < (l.drop (q + 1)).length, (l.drop (q + 1))[m - (q + 1)] = l[m]) := by
                    refine ⟨by simp; omega, ?_⟩
                    simp only [List.getElem_drop]
                    congr 1
                    omega
                  generalize l[m] = c at *
                  by_cases hsc : c = 59
                  · subst hsc
                    obtain ⟨z, hz⟩ := hget.out
                    obtain ⟨tw, dw⟩ := while_take (l.drop (q + 1)) (m - (q + 1)) hall.out (.inr ⟨z, hz⟩)
                    have hrp := fun w => run_part l (q + 1) m hm1 hm2 w
                    simp only [Int.natCast_add, Int.natCast_one] at hrp
                    have hd1 : (l.drop (q + 1)).drop (m - (q + 1)) = l.drop m := by
                      rw [List.drop_drop]
                      congr 1
                      omega
                    have hd2 : l.drop m = 59 :: l.drop (m + 1) := by
                      rw [List.drop_eq_getElem_cons hml]
                      congr 1
                      rw [← hz]
                      simp only [List.getElem_drop]
                      congr 1
                      omega
                    have hcl : classP k (l.drop (q + 1)) = if nameOK ((l.drop (q + 1)).take (m - (q + 1))) = false then none else some (((k : Int), (l.drop (q + 1)).take (m - (q + 1))), l.drop (m + 1)) := by
                      unfold classP
                      rw [tw, dw, hd1, hd2]
                      simp
                    have hlen : ((l.drop (q + 1)).take (m - (q + 1))).length ≤ 9223372036854775807 := by
                      simp
                      omega
                    have HN := fun W => rname_any ((l.drop (q + 1)).take (m - (q + 1))) hlen W
                    clear hd1 hd2 tw dw hz z hget hall hlen
                    generalize (l.drop (q + 1)).take (m - (q + 1)) = nm at *
                    have hw1 : ((q : Int) + 1 ≤ 9223372036854775807) := by omega
                    by_cases hnm : nameOK nm = false
                    · rw [hnm] at HN
                      rw [if_pos hnm] at hcl
                      have hE : OneR l p ((k : Int), []) (-1) := by
                        unfold OneR
                        rw [hK.out, hcl]
                      replace hE := hid hE
                      replace HN := hid HN
                      clear hcl hK hnm
                      go_wp2_with fail
                      refine (HN.out _).mono ?_
                      rintro e w3 ⟨rfl, rfl⟩
                      go_wp2
                      exact one_end (t := ((k : Int), [])) (l := l) (p := p) hR.out hor hE.out _ rfl rfl rfl
                    · have hnm1 : nameOK nm = true := by simpa using hnm
                      rw [hnm1] at HN
                      rw [if_neg hnm] at hcl
                      have hE : OneR l p ((k : Int), nm) ((m : Int) + 1) := by
                        unfold OneR
                        rw [hK.out, hcl]
                        refine ⟨rfl, ?_, ?_, ?_⟩
                        · simp
                          omega
                        · congr 1
                          simp
                          omega
                        · simp
                          omega
                      replace hE := hid hE
                      replace HN := hid HN
                      clear hcl hK hnm hnm1
                      go_wp2_with fail
                      refine (HN.out _).mono ?_
                      rintro e w3 ⟨rfl, rfl⟩
                      clear am hw1 HN
                      go_wp2
                      refine one_end (t := ((k : Int), nm)) (l := l) (p := p) (hR.out.only ((Only.refl [w.heap.size + 1] _).setCell (.inl (by simp)) _) (by simp)) (hor.setCell (.inr (by simp)) _) hE.out _ rfl rfl rfl
                  · have hsc1 : ((c.toNat : Int) == 59) = false := byte_ne hsc
                    have hall2 : Hid (∀ x ∈ (l.drop (q + 1)).take (m + 1 - (q + 1)), x ≠ 59) := by
                      obtain ⟨z, hz⟩ := hget.out
                      intro x hx
                      rw [show m + 1 - (q + 1) = (m - (q + 1)) + 1 by omega, List.take_succ_eq_append_getElem z] at hx
                      simp only [List.mem_append, List.mem_singleton] at hx
                      rcases hx with hx | hx
                      · exact hall.out x hx
                      · rw [hx, hz]
                        exact hsc
                    clear hall hget
                    go_wp2
                    exact ⟨⟨m + 1, by omega, by omega, by go_num, hall2, trivial⟩, by simp [intOf]; omega⟩
                · have g3 : ¬ ((m : Int) < (l.length : Int)) := by omega
                  obtain rfl : m = l.length := by omega
                  have hE : OneR l p ((k : Int), []) (-1) := by
                    obtain ⟨w1, w2⟩ := while_take (l.drop (q + 1)) (l.length - (q + 1)) hall.out (.inl (by simp))
                    unfold OneR
                    rw [hK.out]
                    unfold classP
                    rw [w2, List.drop_of_length_le (by simp)]
                    simp
                  replace hE := hid hE
                  clear hall
                  go_wp2
                  exact one_end (t := ((k : Int), [])) (l := l) (p := p) hR.out hor hE.out _ rfl rfl rfl
            · have hc3 : ((c.toNat : Int) == 76) = false := byte_ne hL
              go_wp2
              exact one_end (t := ((k : Int), [])) (l := l) (p := p) hR.out hor (by unfold OneR; rw [hF.out, hdr.out, firstP_other k c _ hc hI hL]) _ rfl rfl rfl
    · have g1 : ¬ ((q : Int) < (l.length : Int)) := by omega
      obtain rfl : q = l.length := by omega
      have hE : OneR l p ((k : Int), []) (-1) := by
        unfold OneR
        rw [hF.out, List.drop_of_length_le (Nat.le_refl _)]
        rfl
      replace hE := hid hE
      by_cases h8 : 8 < k
      · have g8 : (8 < (k : Int)) := by omega
        go_wp2
        exact one_end (t := ((k : Int), [])) (l := l) (p := p) hR.out hor hE.out _ rfl rfl rfl
      · have g8 : ¬ (8 < (k : Int)) := by omega
        go_wp2
        exact one_end (t := ((k : Int), [])) (l := l) (p := p) hR.out hor hE.out _ rfl rfl rfl

end Go.Proofs.YtemjhlhioeopnaaDoor
