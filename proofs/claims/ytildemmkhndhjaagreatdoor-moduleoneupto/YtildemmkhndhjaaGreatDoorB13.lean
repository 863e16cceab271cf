/-
  What the proof leans on, part 13 of 28. The conditions stand in each theorem.
-/
import Derived.Test.YtildemmkhndhjaaGreatDoorB12
import Derived.Test.YtildemmkhndhjaaGreatDoorB08
import Derived.Test.YtildemmkhndhjaaGreatDoorB09
import Derived.Test.YtildemmkhndhjaaGreatDoorB10
namespace Go.Proofs.YtildemmkhndhjaaGreatDoor
open Go.RowKit

theorem firstP_many (k : Nat) (h : 8 < k) (l : List UInt8) : firstP k l = none := by
 cases l with
 | nil => rfl
 | cons c t => simp [firstP, h]

theorem firstP_more (k : Nat) (t : List UInt8) : firstP k (91 :: t) = firstP (k + 1) t := by
 by_cases h : 8 < k
 ·rw [firstP_many k h, firstP_many (k + 1) (by omega)]
 ·rw [firstP, if_neg h, if_pos rfl]

theorem firstP_I (k : Nat) (h : ¬ 8 < k) (t : List UInt8) : firstP k (73 :: t) = some (((k : Int), []), t) := by
 rw [firstP, if_neg h, if_neg (by decide), if_pos rfl]

theorem firstP_other (k : Nat) (c : UInt8) (t : List UInt8) (h1 : c ≠ 91) (h2 : c ≠ 73) (h3 : c ≠ 76) : firstP k (c :: t) = none := by
 by_cases h : 8 < k
 ·exact firstP_many k h _
 ·rw [firstP, if_neg h, if_neg h1, if_neg h2, if_neg h3]

theorem firstP_L (k : Nat) (h : ¬ 8 < k) (t : List UInt8) : firstP k (76 :: t) = classP k t := by
 rw [firstP, if_neg h, if_neg (by decide), if_neg (by decide), if_pos rfl]

theorem while_take (t : List UInt8) (j : Nat) (h : ∀ x ∈ t.take j, x ≠ 59) (he : j = t.length ∨ ∃ q : j < t.length, t[j] = 59) : t.takeWhile (· != 59) = t.take j ∧ t.dropWhile (· != 59) = t.drop j := by
 have hs : t = t.take j ++ t.drop j := (List.take_append_drop j t).symm
 have hp : ∀ x ∈ t.take j, (x != 59) = true := fun x hx => by simpa using h x hx
 have e1 : (t.drop j).takeWhile (· != 59) = [] ∧ (t.drop j).dropWhile (· != 59) = t.drop j := by
  rcases he with e | ⟨q, e⟩
  ·rw [List.drop_of_length_le (by omega)]
   exact ⟨rfl, rfl⟩
  ·rw [List.drop_eq_getElem_cons q, e]
   exact ⟨rfl, rfl⟩
 refine ⟨?_, ?_⟩
 ·conv => lhs; rw [hs]
  rw [List.takeWhile_append_of_pos hp, e1.1, List.append_nil]
 ·conv => lhs; rw [hs]
  rw [List.dropWhile_append_of_pos hp, e1.2]

theorem byte_ne {c d : UInt8} (h : c ≠ d) : ((c.toNat : Int) == (d.toNat : Int)) = false := by
 rw [beq_eq_false_iff_ne]
 intro e
 apply h
 exact UInt8.toNat_inj.1 (by omega)

/-- What one answers. -/
def OneR (l : List UInt8) (p : Nat) (t : Ty) (n : Int) : Prop := match firstP 0 (l.drop p) with
 | some (t', r) => t = t' ∧ n = (l.length : Int) - r.length ∧ r = l.drop (l.length - r.length) ∧ r.length < l.length
 | none => n = -1

theorem one_result {w : World} {b : Nat} {x : Value} {t : Ty} (h : TyAt w b t) (tmps : Array Value) (h2 : tmps.getD 4 undef = .pointer (some ⟨b, 0, none⟩)) (h3 : tmps.getD 5 undef = x) :
  (results Tryz.f216 tmps).run Tryz.prog w = .ok (.tuple #[tyV t, x]) w := by
 obtain ⟨c0, c1, _, _⟩ := h
 rw [results_cell_tmp (p := 4) (u := 5) (ty := 35) Tryz.results216, h2, h3]
 simp [go_sem, c0, c1, tyV]

theorem tyAt_new (w : World) (d : Int) (n : List UInt8) : TyAt (w.alloc (.cells #[.int .i64 d, .string (str n)] 35)) w.heap.size (d, n) :=
 ⟨by rw [cell_new]; rfl, by rw [cell_new]; rfl, frozen_new _ _ _ _, frozen_new _ _ _ _⟩

theorem TyAt.put0 {w : World} {b : Nat} {t : Ty} (h : TyAt w b t) (d : Int) : TyAt (w.setCell ⟨b, 0, none⟩ (.int .i64 d)) b (d, t.2) :=
 ⟨cell_setCell_same _ _ h.c0, by rw [cell_setCell_ne _ _ (by simp)]; exact h.c1, by rw [frozen_setCell]; exact h.f0, by rw [frozen_setCell]; exact h.f1⟩

/-- How one ends. -/
def OnePost (l : List UInt8) (p : Nat) (w : World) (e : Ending) (w' : World) : Prop := ∃ t n, e = .returned (.tuple #[tyV t, .int .i64 n]) ∧ OneR l p t n ∧ Only [] w w'

/-- one, where it answers: a type and a place. -/
theorem one_end {w w2 : World} {t u : Ty} {n : Int} {l : List UInt8} {p : Nat} (hr : TyAt w2 w.heap.size u) (ho : Only [] w w2) (hR : OneR l p t n) (a : Act) (hd : a.defers = []) (h4 : a.tmps.getD 4 undef = .pointer (some ⟨w.heap.size, 0, none⟩)) (h5 : a.tmps.getD 5 undef = .int .i64 n) :
  bodyPost Tryz.prog Tryz.f216 (fun e w' => OnePost l p w e w') Exit.ret a ((w2.setCell ⟨w.heap.size, 0, none⟩ (.int .i64 t.1)).setCell ⟨w.heap.size, 1, none⟩ (.string (str t.2))) :=
 bodyPost_ret (one_result (hr.put t.1 t.2) _ h4 h5) hd ⟨t, n, rfl, hR, (ho.setCell (.inr (by simp)) _).setCell (.inr (by simp)) _⟩

set_option maxHeartbeats 400000 in
set_option maxRecDepth 100000 in
theorem one_any (l : List UInt8) (hl : l.length ≤ 9223372036854775807) (p : Nat) (hp : p ≤ l.length) (w : World) :
  Calls Tryz.prog 216 #[.string (str l), .int .i64 (p : Int)] w fun e w' => OnePost l p w e w' := by
 have hs := str_size l
 have R0 := (tyAt_new w 0 []).only ((Only.refl [] _).alloc (.cells #[.int .i64 0, .string ⟨#[]⟩] 35)) (by simp)
 have T0 := tyAt_new (w.alloc (.cells #[.int .i64 0, .string ⟨#[]⟩] 35)) 0 []
 rw [World.size_alloc] at T0
 have o0 := ((Only.refl [] w).alloc (.cells #[.int .i64 0, .string ⟨#[]⟩] 35)).alloc (.cells #[.int .i64 0, .string ⟨#[]⟩] 35)
 replace R0 := hid R0
 replace T0 := hid T0
 go_enter Tryz.func216, Tryz.ntmps216
 go_wp2
 go_loopw [1] (fun i wr => ∃ k q : Nat, Hid (p + k = q) ∧ k ≤ q ∧ q ≤ l.length ∧ i = .int .i64 (q : Int) ∧ Hid (firstP 0 (l.drop p) = firstP k (l.drop q)) ∧ TyAt wr w.heap.size (0, []) ∧ TyAt wr (w.heap.size + 1) ((k : Int), []) ∧ Only [] w wr) (fun i _ => l.length - (intOf i).toNat)
 case atStart => exact ⟨0, p, rfl, by omega, hp, rfl, rfl, R0.out, T0.out, o0⟩
 case round =>
  obtain ⟨k, q, hpk, hkq, hq, rfl, hF, hR, hTy, hor⟩ := hrel
  replace hR := hid hR
  replace hTy := hid hTy
  obtain ⟨r0, r1, rf0, rf1⟩ := hR.out
  obtain ⟨t0, t1, tf0, tf1⟩ := hTy.out
  clear R0 T0 o0
  by_cases hlt : q < l.length
  ·have g1 : ((q : Int) < (l.length : Int)) := by omega
   have aq := run_at l q hlt
   have hdr := hid (List.drop_eq_getElem_cons hlt)
   generalize l[q] = c at *
   by_cases hc : c = 91
   ·subst hc
    have hF2 : Hid (firstP 0 (l.drop p) = firstP (k + 1) (l.drop (q + 1))) := by
     unfold Hid
     rw [hF.out, hdr.out, firstP_more]
    go_wp2
    refine ⟨⟨k + 1, q + 1, by have := hpk.out; show p + (k + 1) = q + 1; omega, by omega, by omega, by go_num, hF2, ?_, ?_, ?_⟩, by simp [intOf]; omega⟩
    ·exact hR.out.only ((Only.refl [w.heap.size + 1] _).setCell (.inl (by simp)) _) (by simp)
    ·exact hTy.out.put0 _
    ·exact hor.setCell (.inr (by simp)) _
   ·have hc1 : ((c.toNat : Int) == 91) = false := byte_ne hc
    by_cases h8 : 8 < k
    ·have g8 : (8 < (k : Int)) := by omega
     go_wp2
     exact one_end (t := ((k : Int), [])) (l := l) (p := p) hR.out hor (by unfold OneR; rw [hF.out, firstP_many k h8]) _ rfl rfl rfl
    ·have g8 : ¬ (8 < (k : Int)) := by omega
     by_cases hI : c = 73
     ·subst hI
      have hR2 : OneR l p ((k : Int), []) ((q : Int) + 1) := by
       unfold OneR
       rw [hF.out, hdr.out, firstP_I k h8]
       refine ⟨rfl, ?_, ?_, ?_⟩
       ·simp
        omega
       ·congr 1
        simp
        omega
       ·simp
        omega
      replace hR2 := hid hR2
      go_wp2
      exact one_end (t := ((k : Int), [])) (l := l) (p := p) hR.out hor hR2.out _ rfl rfl rfl
     ·have hc2 : ((c.toNat : Int) == 73) = false := byte_ne hI
      by_cases hL : c = 76
      ·subst hL
       have hK : Hid (firstP 0 (l.drop p) = classP k (l.drop (q + 1))) := by
        unfold Hid
        rw [hF.out, hdr.out, firstP_L k h8]
       go_wp2
       clear hF hdr aq hc hI g8 hc1 hc2
       go_loopw [7] (fun i w2 => ∃ m : Nat, q + 1 ≤ m ∧ m ≤ l.length ∧ i = .int .i64 (m : Int) ∧ Hid (∀ x ∈ (l.drop (q + 1)).take (m - (q + 1)), x ≠ 59) ∧ w2 = wr) (fun i _ => l.length - (intOf i).toNat)
       case atStart => exact ⟨q + 1, by omega, by omega, by go_num, by simp [Hid], rfl⟩
       case round =>
        obtain ⟨m, hm1, hm2, rfl, hall, rfl⟩ := hrel
        by_cases hml : m < l.length
        ·have g3 : ((m : Int) < (l.length : Int)) := by omega
         have am := run_at l m hml
         have hget : Hid (∃ z : m - (q + 1) < (l.drop (q + 1)).length, (l.drop (q + 1))[m - (q + 1)] = l[m]) := by
          refine ⟨by simp; omega, ?_⟩
          simp only [List.getElem_drop]
          congr 1
          omega
         generalize l[m] = c at *
         by_cases hsc : c = 59
         ·subst hsc
          obtain ⟨z, hz⟩ := hget.out
          obtain ⟨tw, dw⟩ := while_take (l.drop (q + 1)) (m - (q + 1)) hall.out (.inr ⟨z, hz⟩)
          have hrp := fun w => run_part l (q + 1) m hm1 hm2 w
          simp only [Int.natCast_add, Int.natCast_one] at hrp
          have hd1 : (l.drop (q + 1)).drop (m - (q + 1)) = l.drop m := by
           rw [List.drop_drop]
           congr 1
           omega
          have hd2 : l.drop m = 59 :: l.drop (m + 1) := by
           rw [List.drop_eq_getElem_cons hml]
           congr 1
           rw [← hz]
           simp only [List.getElem_drop]
           congr 1
           omega
          have hcl : classP k (l.drop (q + 1)) = if nameOK ((l.drop (q + 1)).take (m - (q + 1))) = false then none else some (((k : Int), (l.drop (q + 1)).take (m - (q + 1))), l.drop (m + 1)) := by
           unfold classP
           rw [tw, dw, hd1, hd2]
           simp
          have hlen : ((l.drop (q + 1)).take (m - (q + 1))).length ≤ 9223372036854775807 := by
           simp
           omega
          have HN := fun W => rname_any ((l.drop (q + 1)).take (m - (q + 1))) hlen W
          clear hd1 hd2 tw dw hz z hget hall hlen
          generalize (l.drop (q + 1)).take (m - (q + 1)) = nm at *
          have hw1 : ((q : Int) + 1 ≤ 9223372036854775807) := by omega
          by_cases hnm : nameOK nm = false
          ·rw [hnm] at HN
           rw [if_pos hnm] at hcl
           have hE : OneR l p ((k : Int), []) (-1) := by
            unfold OneR
            rw [hK.out, hcl]
           replace hE := hid hE
           replace HN := hid HN
           clear hcl hK hnm
           go_wp2_with fail
           refine (HN.out _).mono ?_
           rintro e w3 ⟨rfl, rfl⟩
           go_wp2
           exact one_end (t := ((k : Int), [])) (l := l) (p := p) hR.out hor hE.out _ rfl rfl rfl
          ·have hnm1 : nameOK nm = true := by simpa using hnm
           rw [hnm1] at HN
           rw [if_neg hnm] at hcl
           have hE : OneR l p ((k : Int), nm) ((m : Int) + 1) := by
            unfold OneR
            rw [hK.out, hcl]
            refine ⟨rfl, ?_, ?_, ?_⟩
            ·simp
             omega
            ·congr 1
             simp
             omega
            ·simp
             omega
           replace hE := hid hE
           replace HN := hid HN
           clear hcl hK hnm hnm1
           go_wp2_with fail
           refine (HN.out _).mono ?_
           rintro e w3 ⟨rfl, rfl⟩
           clear am hw1 HN
           go_wp2
           refine one_end (t := ((k : Int), nm)) (l := l) (p := p) (hR.out.only ((Only.refl [w.heap.size + 1] _).setCell (.inl (by simp)) _) (by simp)) (hor.setCell (.inr (by simp)) _) hE.out _ rfl rfl rfl
         ·have hsc1 : ((c.toNat : Int) == 59) = false := byte_ne hsc
          have hall2 : Hid (∀ x ∈ (l.drop (q + 1)).take (m + 1 - (q + 1)), x ≠ 59) := by
           obtain ⟨z, hz⟩ := hget.out
           intro x hx
           rw [show m + 1 - (q + 1) = (m - (q + 1)) + 1 by omega, List.take_succ_eq_append_getElem z] at hx
           simp only [List.mem_append, List.mem_singleton] at hx
           rcases hx with hx | hx
           ·exact hall.out x hx
           ·rw [hx, hz]
            exact hsc
          clear hall hget
          go_wp2
          exact ⟨⟨m + 1, by omega, by omega, by go_num, hall2, trivial⟩, by simp [intOf]; omega⟩
        ·have g3 : ¬ ((m : Int) < (l.length : Int)) := by omega
         obtain rfl : m = l.length := by omega
         have hE : OneR l p ((k : Int), []) (-1) := by
          obtain ⟨w1, w2⟩ := while_take (l.drop (q + 1)) (l.length - (q + 1)) hall.out (.inl (by simp))
          unfold OneR
          rw [hK.out]
          unfold classP
          rw [w2, List.drop_of_length_le (by simp)]
          simp
         replace hE := hid hE
         clear hall
         go_wp2
         exact one_end (t := ((k : Int), [])) (l := l) (p := p) hR.out hor hE.out _ rfl rfl rfl
      ·have hc3 : ((c.toNat : Int) == 76) = false := byte_ne hL
       go_wp2
       exact one_end (t := ((k : Int), [])) (l := l) (p := p) hR.out hor (by unfold OneR; rw [hF.out, hdr.out, firstP_other k c _ hc hI hL]) _ rfl rfl rfl
  ·have g1 : ¬ ((q : Int) < (l.length : Int)) := by omega
   obtain rfl : q = l.length := by omega
   have hE : OneR l p ((k : Int), []) (-1) := by
    unfold OneR
    rw [hF.out, List.drop_of_length_le (Nat.le_refl _)]
    rfl
   replace hE := hid hE
   by_cases h8 : 8 < k
   ·have g8 : (8 < (k : Int)) := by omega
    go_wp2
    exact one_end (t := ((k : Int), [])) (l := l) (p := p) hR.out hor hE.out _ rfl rfl rfl
   ·have g8 : ¬ (8 < (k : Int)) := by omega
    go_wp2
    exact one_end (t := ((k : Int), [])) (l := l) (p := p) hR.out hor hE.out _ rfl rfl rfl

theorem rtype_result {w : World} {b : Nat} {x : Value} {t : Ty} (h : TyAt w b t) (tmps : Array Value) (h2 : tmps.getD 2 undef = .pointer (some ⟨b, 0, none⟩)) (h3 : tmps.getD 3 undef = x) :
  (results Tryz.f199 tmps).run Tryz.prog w = .ok (.tuple #[tyV t, x]) w := by
 obtain ⟨c0, c1, _, _⟩ := h
 rw [results_cell_tmp (p := 2) (u := 3) (ty := 35) Tryz.results199, h2, h3]
 simp [go_sem, c0, c1, tyV]

set_option maxHeartbeats 400000 in
set_option maxRecDepth 100000 in
theorem rtype_any (l : List UInt8) (hl : l.length ≤ 9223372036854775807) (w : World) : Calls Tryz.prog 199 #[.string (str l)] w fun e w' => e = .returned (.tuple #[tyV (typeR l).1, .int .i64 (typeR l).2]) ∧ Only [] w w' := by
 have hs := str_size l
 have R0 := hid (tyAt_new w 0 [])
 have o0 := (Only.refl [] w).alloc (.cells #[.int .i64 0, .string ⟨#[]⟩] 35)
 have HO := hid (one_any l hl 0 (Nat.zero_le _) (w.alloc (.cells #[.int .i64 0, .string ⟨#[]⟩] 35)))
 go_enter Tryz.func199, Tryz.ntmps199
 go_wp2_with fail
 refine HO.out.mono ?_
 rintro e w1 ⟨⟨td, tn⟩, n, rfl, hR, ho1⟩
 simp only [tyV]
 replace R0 := hid (R0.out.only (ho1.alloc (.cells #[.int .i64 td, .string (str tn)] 35)) (by simp))
 obtain ⟨r0, r1, rf0, rf1⟩ := R0.out
 have o1 := (o0.next ho1 (by simp)).alloc (.cells #[.int .i64 td, .string (str tn)] 35)
 unfold OneR at hR
 rw [List.drop_zero] at hR
 by_cases hq : n = (l.length : Int)
 ·subst hq
  have e1 : Hid (typeR l = ((td, tn), 0)) := by
   unfold Hid typeR
   cases hf : firstP 0 l with
   | none =>
    rw [hf] at hR
    simp at hR
   | some x =>
    obtain ⟨t', r⟩ := x
    rw [hf] at hR
    simp only [] at hR
    obtain ⟨h1, h2, h3, h4⟩ := hR
    have : r = [] := List.eq_nil_of_length_eq_zero (by omega)
    subst this
    rw [← h1]
  clear hR
  go_wp2
  refine bodyPost_ret (rtype_result (R0.out.put td tn) _ rfl rfl) rfl ⟨by rw [e1.out]; rfl, (o1.setCell (.inr (by simp)) _).setCell (.inr (by simp)) _⟩
 ·have hq2 : (n == (l.length : Int)) = false := by simpa using hq
  have e1 : Hid (typeR l = ((0, []), 15)) := by
   unfold Hid typeR
   cases hf : firstP 0 l with
   | none => rfl
   | some x =>
    obtain ⟨t', r⟩ := x
    rw [hf] at hR
    simp only [] at hR
    obtain ⟨h1, h2, h3, h4⟩ := hR
    cases r with
    | nil => simp at h2; exact absurd h2 hq
    | cons a b => rfl
  clear hR hq
  go_wp2
  refine bodyPost_ret (rtype_result (R0.out.put 0 []) _ rfl rfl) rfl ⟨by rw [e1.out]; rfl, (o1.setCell (.inr (by simp)) _).setCell (.inr (by simp)) _⟩

set_option maxHeartbeats 400000 in
set_option maxRecDepth 100000 in
theorem rtypeText_any (t : Ty) (hl : t.2.length ≤ 9223372036854775807) (w : World) : Calls Tryz.prog 92 #[tyV t] w fun e w' => e = .returned (.tuple #[.string (str (ttR t)), .int .i64 (tyCheck t)]) ∧ Only [] w w' := by
 obtain ⟨d, n⟩ := t
 have ho := (Only.refl [] w).alloc (.cells #[.int .i64 d, .string (str n)] 35)
 have HC := rcheck_any (d, n) hl (w.alloc (.cells #[.int .i64 d, .string (str n)] 35))
 have ht := str_toList n
 by_cases h : tyCheck (d, n) = 0
 ·have hf := check_fit h
  obtain ⟨f1, f2, f3⟩ := hf
  have e1 : ttR (d, n) = tyText (d, n) := by simp [ttR, h]
  rw [e1, h]
  rw [h] at HC
  obtain ⟨dn, rfl⟩ : ∃ dn : Nat, d = (dn : Int) := ⟨d.toNat, by simp at f1; omega⟩
  simp only [] at f1 f2 f3
  have e2 : Hid (∀ b, b = (if n = [] then [73] else 76 :: (n ++ [59])) → tyText ((dn : Int), n) = List.replicate dn 91 ++ b) := by
   intro b hb
   rw [hb]
   simp [tyText]
  simp only [tyV] at HC ⊢
  replace HC := hid HC
  clear h e1
  go_enter Tryz.func92, Tryz.ntmps92
  go_wp2_with fail
  refine HC.out.mono ?_
  rintro e w1 ⟨rfl, ho1⟩
  have c0 : w1.cell? ⟨w.heap.size, 0, none⟩ = some (.int .i64 (dn : Int)) := by rw [ho1.cell (by simp) (by simp), cell_new]; rfl
  have c1 : w1.cell? ⟨w.heap.size, 1, none⟩ = some (.string (str n)) := by rw [ho1.cell (by simp) (by simp), cell_new]; rfl
  have o1 := ho.next ho1 (by simp)
  have hk : ∀ (x : List UInt8), x.length ≤ 100 → ∀ w, (Op.stringOp .add ⟨#[91]⟩ (str x)).run Tryz.prog w = .ok (.string (str (91 :: x))) w := fun x hx w => run_cat [91] x (by simp; omega) w
  by_cases hz : n = []
  ·subst hz
   have e3 := e2.out [73] rfl
   replace e3 := hid e3
   go_wp2
   go_loopw [5, 6] (fun s i wr => ∃ k : Nat, k ≤ dn ∧ i = .int .i64 (k : Int) ∧ s = .string (str (List.replicate k 91 ++ [73])) ∧ wr = w1) (fun _ i _ => dn - (intOf i).toNat)
   case atStart => exact ⟨0, by omega, rfl, rfl, rfl⟩
   case round =>
    obtain ⟨k, hkd, rfl, rfl, rfl⟩ := hrel
    by_cases hlt : k < dn
    ·have g1 : ((k : Int) < (dn : Int)) := by omega
     have hk1 := hk (List.replicate k 91 ++ [73]) (by simp; omega)
     have hk2 : (91 : UInt8) :: (List.replicate k 91 ++ [73]) = List.replicate (k + 1) 91 ++ [73] := by rw [List.replicate_succ]; rfl
     rw [hk2] at hk1
     clear hk hk2
     generalize List.replicate k (91 : UInt8) ++ [73] = u at *
     generalize hv : List.replicate (k + 1) (91 : UInt8) ++ [73] = u2 at *
     replace hv := hid hv
     go_wp2
     refine ⟨⟨k + 1, by omega, by go_num, by rw [hv.out], trivial⟩, by simp [intOf]; omega⟩
    ·have g1 : ¬ ((k : Int) < (dn : Int)) := by omega
     obtain rfl : k = dn := by omega
     rw [← e3.out]
     go_wp2
     go_ret2
     exact ⟨rfl, o1⟩
  ·have hzi : n.isEmpty = false := by simpa using hz
   have e3 := e2.out (76 :: (n ++ [59])) (by rw [if_neg hz])
   replace e3 := hid e3
   have k1 : ∀ w, (Op.stringOp .add ⟨#[76]⟩ (str n)).run Tryz.prog w = .ok (.string (str (76 :: n))) w := fun w => run_cat [76] n (by simp; omega) w
   have k2 : ∀ w, (Op.stringOp .add (str (76 :: n)) ⟨#[59]⟩).run Tryz.prog w = .ok (.string (str (76 :: (n ++ [59])))) w := fun w => run_cat (76 :: n) [59] (by simp; omega) w
   go_wp2
   go_loopw [5, 6] (fun s i wr => ∃ k : Nat, k ≤ dn ∧ i = .int .i64 (k : Int) ∧ s = .string (str (List.replicate k 91 ++ 76 :: (n ++ [59]))) ∧ wr = w1) (fun _ i _ => dn - (intOf i).toNat)
   case atStart => exact ⟨0, by omega, rfl, rfl, rfl⟩
   case round =>
    obtain ⟨k, hkd, rfl, rfl, rfl⟩ := hrel
    by_cases hlt : k < dn
    ·have g1 : ((k : Int) < (dn : Int)) := by omega
     have hk1 := hk (List.replicate k 91 ++ 76 :: (n ++ [59])) (by simp; omega)
     have hk2 : (91 : UInt8) :: (List.replicate k 91 ++ 76 :: (n ++ [59])) = List.replicate (k + 1) 91 ++ 76 :: (n ++ [59]) := by rw [List.replicate_succ]; rfl
     rw [hk2] at hk1
     clear hk hk2 k1 k2
     generalize List.replicate k (91 : UInt8) ++ 76 :: (n ++ [59]) = u at *
     generalize hv : List.replicate (k + 1) (91 : UInt8) ++ 76 :: (n ++ [59]) = u2 at *
     replace hv := hid hv
     go_wp2
     refine ⟨⟨k + 1, by omega, by go_num, by rw [hv.out], trivial⟩, by simp [intOf]; omega⟩
    ·have g1 : ¬ ((k : Int) < (dn : Int)) := by omega
     obtain rfl : k = dn := by omega
     rw [← e3.out]
     go_wp2
     go_ret2
     exact ⟨rfl, o1⟩
 ·have e1 : ttR (d, n) = [] := by simp [ttR, h]
  rw [e1]
  generalize tyCheck (d, n) = c at *
  simp only [tyV] at HC ⊢
  replace HC := hid HC
  go_enter Tryz.func92, Tryz.ntmps92
  go_wp2_with fail
  refine HC.out.mono ?_
  rintro e w1 ⟨rfl, ho1⟩
  go_wp2
  go_ret2
  exact ⟨rfl, ho.next ho1 (by simp)⟩

/-- Two signatures made. -/
theorem sig_new2 (w : World) (v : Value) (void : Bool) (d : Int) (n : List UInt8) :
  SigAt ((w.alloc (.cells #[.slice none 0 0, .bool false, .int .i64 0, .string ⟨#[]⟩] 37)).alloc (.cells #[v, .bool void, .int .i64 d, .string (str n)] 37)) w.heap.size (.slice none 0 0) false (0, []) ∧
  SigAt ((w.alloc (.cells #[.slice none 0 0, .bool false, .int .i64 0, .string ⟨#[]⟩] 37)).alloc (.cells #[v, .bool void, .int .i64 d, .string (str n)] 37)) (w.heap.size + 1) v void (d, n) := by
 have s1 := sig_new w (.slice none 0 0) false 0 []
 have s2 := sig_new (w.alloc (.cells #[.slice none 0 0, .bool false, .int .i64 0, .string ⟨#[]⟩] 37)) v void d n
 rw [World.size_alloc] at s2
 exact ⟨s1.only ((Only.refl [] _).alloc _) (by simp), s2⟩

/-- How Sig ends. -/
def SigPost (l : List UInt8) (w : World) (e : Ending) (w' : World) : Prop := ∃ v, e = .returned (.tuple #[sigV v (sigR l).1.2.1 (sigR l).1.2.2, .int .i64 (sigR l).2]) ∧ Own w' w.heap.size v (sigR l).1.1 ∧ Only [] w w'

theorem rsig_result {w : World} {b : Nat} {v x : Value} {void : Bool} {t : Ty} (h : SigAt w b v void t) (tmps : Array Value) (h2 : tmps.getD 2 undef = .pointer (some ⟨b, 0, none⟩)) (h3 : tmps.getD 3 undef = x) :
  (results Tryz.f200 tmps).run Tryz.prog w = .ok (.tuple #[sigV v void t, x]) w := by
 obtain ⟨c0, c1, c2, c3, _, _, _, _⟩ := h
 rw [results_cell_tmp (p := 2) (u := 3) (ty := 37) Tryz.results200, h2, h3]
 simp [go_sem, c0, c1, c2, c3, sigV]

theorem rsig_end {w w2 : World} {v0 : Value} {x0 : Bool} {t0 : Ty} {l : List UInt8} {ao : Option Addr} {cap : Nat} {ps : List Ty} {void : Bool} {d : Int} {n : List UInt8} {c : Int} (sr : SigAt w2 w.heap.size v0 x0 t0) (ho : Only [] w w2) (hown : Own w2 (w.heap.size + 2) (.slice ao ps.length cap) ps) (hS : sigR l = ((ps, void, (d, n)), c)) (a : Act) (hd : a.defers = []) (h2 : a.tmps.getD 2 undef = .pointer (some ⟨w.heap.size, 0, none⟩)) (h3 : a.tmps.getD 3 undef = .int .i64 c) :
  bodyPost Tryz.prog Tryz.f200 (fun e w' => SigPost l w e w') Exit.ret a ((((w2.setCell ⟨w.heap.size, 0, none⟩ (.slice ao ps.length cap)).setCell ⟨w.heap.size, 1, none⟩ (.bool void)).setCell ⟨w.heap.size, 2, none⟩ (.int .i64 d)).setCell ⟨w.heap.size, 3, none⟩ (.string (str n))) := by
 refine bodyPost_ret (rsig_result ((((sr.put0 (.slice ao ps.length cap)).put1 void).put2 d).put3 n) _ h2 h3) hd ⟨.slice ao ps.length cap, by rw [hS], ?_, ?_⟩
 ·rw [hS]
  exact own_mono (own_set (own_set (own_set (own_set hown _ (by simp) _) _ (by simp) _) _ (by simp) _) _ (by simp) _) (by omega)
 ·exact (((ho.setCell (.inr (by simp)) _).setCell (.inr (by simp)) _).setCell (.inr (by simp)) _).setCell (.inr (by simp)) _

theorem params_paren (f : Nat) (t : List UInt8) : paramsP (f + 1) (41 :: t) = some ([], t) := rfl

theorem params_step {f : Nat} {l : List UInt8} (h : hasOne l 41 = false) : paramsP (f + 1) l = match firstP 0 l with
  | none => none
  | some (t, r) => (paramsP f r).map fun x => (t :: x.1, x.2) := by
 rw [paramsP, h]
 simp
 cases firstP 0 l <;> rfl

theorem result_type {r : List UInt8} (h : r ≠ [86]) : resultP r = if (typeR r).2 = 0 then some (some (typeR r).1) else none := by
 unfold resultP typeR
 rw [if_neg h]
 cases firstP 0 r with
 | none => rfl
 | some x =>
  obtain ⟨t, q⟩ := x
  cases q with
  | nil => rfl
  | cons a b => rfl

set_option maxHeartbeats 400000 in
set_option maxRecDepth 100000 in
theorem rsig_any (l : List UInt8) (hl : l.length ≤ 1099511627776) (w : World) : Calls Tryz.prog 200 #[.string (str l)] w fun e w' => SigPost l w e w' := by
 have hs := str_size l
 have htl := str_toList l
 obtain ⟨SR, SG⟩ := sig_new2 w (.slice none 0 0) false 0 []
 have o0 := ((Only.refl [] w).alloc (.cells #[.slice none 0 0, .bool false, .int .i64 0, .string ⟨#[]⟩] 37)).alloc (.cells #[.slice none 0 0, .bool false, .int .i64 0, .string ⟨#[]⟩] 37)
 replace SR := hid SR
 replace SG := hid SG
 by_cases hz : l = []
 ·subst hz
  go_enter Tryz.func200, Tryz.ntmps200
  go_wp2
  exact bodyPost_ret (rsig_result SR.out _ rfl rfl) rfl ⟨.slice none 0 0, rfl, own_nil _ _, o0⟩
 ·have hzi : l.isEmpty = false := by simpa using hz
  have hp : 0 < l.length := List.length_pos_iff.2 hz
  have a0 := run_at l 0 hp
  by_cases h40 : l[0] = 40
  ·have hh : hasOne l 40 = true := by
    cases l with
    | nil => simp at hp
    | cons a t => simpa [hasOne] using h40
   rw [h40] at a0
   simp only [Int.ofNat_zero] at a0
   replace hh := hid hh
   clear h40 hz
   go_enter Tryz.func200, Tryz.ntmps200
   go_wp2
   go_loopw [5] (fun i wr => ∃ (q : Nat) (ps : List Ty) (ao : Option Addr) (cap f : Nat), q ≤ l.length ∧ i = .int .i64 (q : Int) ∧ Hid ((paramsP f (l.drop q)).map (fun x => (ps ++ x.1, x.2)) = paramsP l.length (l.drop 1)) ∧ Hid (l.length - q < f) ∧ ps.length ≤ q ∧ SigAt wr w.heap.size (.slice none 0 0) false (0, []) ∧ SigAt wr (w.heap.size + 1) (.slice ao ps.length cap) false (0, []) ∧ Own wr (w.heap.size + 2) (.slice ao ps.length cap) ps ∧ Only [] w wr ∧ w.heap.size + 2 ≤ wr.heap.size) (fun i _ => l.length - (intOf i).toNat)
   case atStart =>
    refine ⟨1, [], none, 0, l.length, by omega, rfl, ?_, by show l.length - 1 < l.length; omega, by simp, SR.out, SG.out, own_nil _ _, o0, by simp⟩
    show _ = _
    cases paramsP l.length (l.drop 1) with
    | none => rfl
    | some x => simp
   case round =>
    obtain ⟨q, ps, ao, cap, f, hq, rfl, hP, hf, hpq, hSR, hSG, hown, hor, hsz⟩ := hrel
    clear SR SG o0 a0
    replace hSR := hid hSR
    replace hSG := hid hSG
    replace hown := hid hown
    obtain ⟨r0, r1, r2, r3, rf0, rf1, rf2, rf3⟩ := hSR.out
    obtain ⟨s0, s1, s2, s3, sf0, sf1, sf2, sf3⟩ := hSG.out
    obtain ⟨f, rfl⟩ : ∃ f', f = f' + 1 := ⟨f - 1, by have := hf.out; omega⟩
    by_cases hlt : q < l.length
    ·have g1 : ((q : Int) < (l.length : Int)) := by omega
     have aq := run_at l q hlt
     have hdr := hid (List.drop_eq_getElem_cons hlt)
     generalize l[q] = c at *
     by_cases hc : c = 41
     ·subst hc
      have hP2 : Hid (paramsP l.length (l.drop 1) = some (ps, l.drop (q + 1))) := by
       unfold Hid
       rw [← hP.out, hdr.out, params_paren]
       simp
      have hsp := hid (sigP_of hh.out hP2.out)
      have hrf := fun w => run_from l (q + 1) (by omega) w
      simp only [Int.natCast_add, Int.natCast_one] at hrf
      have hlr : (l.drop (q + 1)).length ≤ 9223372036854775807 := by simp; omega
      generalize l.drop (q + 1) = rest at *
      have hrt := str_toList rest
      clear hP hdr hf
      by_cases hV : rest = [86]
      ·have hsR : sigR l = if 16 < ps.length then (([], false, (0, [])), 4) else ((ps, true, (0, [])), 0) := by
        unfold sigR
        rw [hsp.out, hV]
        rfl
       subst hV
       clear hsp hP2
       by_cases h16 : 16 < ps.length
       ·have g16 : (16 < (ps.length : Int)) := by omega
        rw [if_pos h16] at hsR
        replace hsR := hid hsR
        clear h16
        go_wp2
        exact rsig_end (ps := []) (d := 0) (n := []) (hSR.out.only ((Only.refl [w.heap.size + 1] _).setCell (.inl (by simp)) _) (by simp)) (hor.setCell (.inr (by simp)) _) (own_nil _ _) hsR.out _ rfl rfl rfl
       ·have g16 : ¬ (16 < (ps.length : Int)) := by omega
        rw [if_neg h16] at hsR
        replace hsR := hid hsR
        clear h16
        go_wp2
        exact rsig_end (ps := ps) (d := 0) (n := []) (hSR.out.only ((Only.refl [w.heap.size + 1] _).setCell (.inl (by simp)) _) (by simp)) (hor.setCell (.inr (by simp)) _) (own_set hown.out ⟨w.heap.size + 1, 1, none⟩ (by simp) (.bool true)) hsR.out _ rfl rfl rfl
      ·have hV2 : (rest == [86]) = false := by simpa using hV
       have hrP := result_type hV
       have HT := rtype_any rest hlr wr
       generalize typeR rest = X at *
       obtain ⟨⟨xd, xn⟩, xe⟩ := X
       simp only [tyV] at HT hrP
       replace HT := hid HT
       clear hV
       replace hrP := hid hrP
       go_wp2_with fail
       refine HT.out.mono ?_
       rintro e w1 ⟨rfl, ho1⟩
       clear aq hrf hrt hV2
       have q1 := ho1.alloc (.cells #[.int .i64 xd, .string (str xn)] 35)
       have o1 := hor.next q1 (by simp)
       replace hSR := hid (hSR.out.only q1 (by simp))
       replace hSG := hid (hSG.out.only q1 (by simp))
       replace hown := hid (own_only hown.out q1 (by simp))
       clear r0 r1 r2 r3 rf0 rf1 rf2 rf3 s0 s1 s2 s3 sf0 sf1 sf2 sf3
       obtain ⟨r0, r1, r2, r3, rf0, rf1, rf2, rf3⟩ := hSR.out
       obtain ⟨s0, s1, s2, s3, sf0, sf1, sf2, sf3⟩ := hSG.out
       by_cases hxe : xe = 0
       ·have hsR : sigR l = if 16 < ps.length then (([], false, (0, [])), 4) else ((ps, false, (xd, xn)), 0) := by
         unfold sigR
         rw [hsp.out, hrP.out, if_pos hxe]
         rfl
        subst hxe
        clear hsp hP2 hrP
        by_cases h16 : 16 < ps.length
        ·have g16 : (16 < (ps.length : Int)) := by omega
         rw [if_pos h16] at hsR
         replace hsR := hid hsR
         clear h16
         go_wp2
         exact rsig_end (ps := []) (d := 0) (n := []) (hSR.out.only (((Only.refl [w.heap.size + 1] _).setCell (.inl (by simp)) _).setCell (.inl (by simp)) _) (by simp)) ((o1.setCell (.inr (by simp)) _).setCell (.inr (by simp)) _) (own_nil _ _) hsR.out _ rfl rfl rfl
        ·have g16 : ¬ (16 < (ps.length : Int)) := by omega
         rw [if_neg h16] at hsR
         replace hsR := hid hsR
         clear h16
         go_wp2
         exact rsig_end (ps := ps) (d := xd) (n := xn) (hSR.out.only (((Only.refl [w.heap.size + 1] _).setCell (.inl (by simp)) _).setCell (.inl (by simp)) _) (by simp)) ((o1.setCell (.inr (by simp)) _).setCell (.inr (by simp)) _) (own_set (own_set hown.out ⟨w.heap.size + 1, 2, none⟩ (by simp) (.int .i64 xd)) ⟨w.heap.size + 1, 3, none⟩ (by simp) (.string (str xn))) hsR.out _ rfl rfl rfl
       ·have e1 : Hid (sigR l = (([], false, (0, [])), 15)) := by
         unfold Hid sigR
         rw [hsp.out, hrP.out, if_neg hxe]
         rfl
        have hxe2 : (xe == 0) = false := by simpa using hxe
        clear hsp hP2 hrP hxe
        go_wp2
        exact rsig_end (ps := []) (d := 0) (n := []) hSR.out o1 (own_nil _ _) e1.out _ rfl rfl rfl
     ·have hc1 : ((c.toNat : Int) == 41) = false := byte_ne hc
      have hno : hasOne (l.drop q) 41 = false := by
       rw [hdr.out]
       simpa [hasOne] using hc
      have hst := hid (params_step (f := f) hno)
      have HO := hid (one_any l (by omega) q hq wr)
      clear hdr
      go_wp2_with fail
      refine HO.out.mono ?_
      rintro e w1 ⟨⟨td, tn⟩, n, rfl, hR, ho1⟩
      simp only [tyV]
      clear aq
      unfold OneR at hR
      have q1 := ho1.alloc (.cells #[.int .i64 td, .string (str tn)] 35)
      have o1 := hor.next q1 (by simp)
      replace hSR := hid (hSR.out.only q1 (by simp))
      replace hSG := hid (hSG.out.only q1 (by simp))
      clear r0 r1 r2 r3 rf0 rf1 rf2 rf3 s0 s1 s2 s3 sf0 sf1 sf2 sf3
      obtain ⟨r0, r1, r2, r3, rf0, rf1, rf2, rf3⟩ := hSR.out
      obtain ⟨s0, s1, s2, s3, sf0, sf1, sf2, sf3⟩ := hSG.out
      cases hF : firstP 0 (l.drop q) with
      | none =>
       rw [hF] at hR
       simp only [] at hR
       subst hR
       have e1 : Hid (sigR l = (([], false, (0, [])), 15)) := by
        have h1 : paramsP l.length (l.drop 1) = none := by
         rw [← hP.out, hst.out, hF]
         rfl
        unfold Hid sigR sigP
        rw [if_pos hh.out, h1]
        rfl
       clear hF hst hP
       go_wp2
       exact rsig_end (ps := []) (d := 0) (n := []) hSR.out o1 (own_nil _ _) e1.out _ rfl rfl rfl
      | some x =>
       obtain ⟨t', r⟩ := x
       rw [hF] at hR
       simp only [] at hR
       obtain ⟨rfl, hn, hrd, hrl⟩ := hR
       have hlt2 := firstP_lt _ _ _ _ hF
       have hP3 : Hid ((paramsP f r).map (fun x => ((ps ++ [(td, tn)]) ++ x.1, x.2)) = paramsP l.length (l.drop 1)) := by
        have h1 := hP.out
        rw [hst.out, hF] at h1
        simp only [Option.map_map] at h1
        unfold Hid
        rw [← h1]
        congr 1
        funext x
        simp
       simp at hlt2
       obtain ⟨q2, hq2⟩ : ∃ q2 : Nat, q2 = l.length - r.length := ⟨_, rfl⟩
       rw [← hq2] at hrd
       have hn2 : n = (q2 : Int) := by omega
       subst hn2
       rw [hrd] at hP3
       have hb1 : q + 1 ≤ q2 := by omega
       have hb2 : q2 ≤ l.length := by omega
       have hf2 : Hid (l.length - q2 < f) := by have := hf.out; show _ < _; omega
       clear hF hst hP hn hrd hq2 hlt2 hf
       have hownA := hid (own_only hown.out (q1.alloc (.cells #[.int .i64 td, .string (str tn)] 35)) (by simp))
       have htA := ts_one (w1.alloc (.cells #[.int .i64 td, .string (str tn)] 35)) (td, tn) 35
       rw [World.size_alloc] at htA
       replace htA := hid htA
       have hz1 := ho1.size
       go_wp2_with (at_builtin; refine wpList_append_types rfl (.tmp 38) (.tmp 40) rfl rfl rfl hownA.out htA.out (by simp) (by simp; omega) (by simp; omega) ?_)
       intro ao2 cap2 w2 hown2 hgrow2 hao2 _
       have qb := Only.of_grown hgrow2
       have hbl : ∀ x ∈ (Value.ownBlock (.slice ao ps.length cap)).toList, w.heap.size + 2 ≤ x := by
        intro x hx
        cases hv : Value.ownBlock (.slice ao ps.length cap) with
        | none => rw [hv] at hx; simp at hx
        | some y =>
         rw [hv] at hx
         simp at hx
         subst hx
         exact (hown.out.lt x hv).1
       have oa := (Only.refl [] (w1.alloc (.cells #[.int .i64 td, .string (str tn)] 35))).alloc (.cells #[.int .i64 td, .string (str tn)] 35)
       replace hSR := hid ((hSR.out.only oa (by simp)).only qb (fun h => by have := hbl _ h; omega))
       replace hSG := hid ((hSG.out.only oa (by simp)).only qb (fun h => by have := hbl _ h; omega))
       have o2 := (o1.alloc (.cells #[.int .i64 td, .string (str tn)] 35)).next qb (fun x hx => by have := hbl x hx; omega)
       have hz2 := qb.size
       simp only [World.size_alloc] at hz2
       clear r0 r1 r2 r3 rf0 rf1 rf2 rf3 s0 s1 s2 s3 sf0 sf1 sf2 sf3
       obtain ⟨s0, s1, s2, s3, sf0, sf1, sf2, sf3⟩ := hSG.out
       have hl1 : ps.length + 1 = (ps ++ [(td, tn)]).length := by simp
       rw [hl1] at hown2
       have hown3 := hid (own_set hown2 ⟨w.heap.size + 1, 0, none⟩ (by simp) (.slice ao2 (ps.length + 1) cap2))
       clear hown2 hgrow2 hao2 hl1 qb
       go_wp2
       refine ⟨⟨q2, ps ++ [(td, tn)], ao2, cap2, f, hb2, rfl, hP3, hf2, by simp; omega, ?_, ?_, ?_, ?_, ?_⟩, by simp [intOf]; omega⟩
       ·exact hSR.out.only ((Only.refl [w.heap.size + 1] _).setCell (.inl (by simp)) _) (by simp)
       ·rw [List.length_append]
        exact hSG.out.put0 _
       ·exact hown3.out
       ·exact o2.setCell (.inr (by simp)) _
       ·simp
        omega
    ·have g1 : ¬ ((q : Int) < (l.length : Int)) := by omega
     obtain rfl : q = l.length := by omega
     have e1 : Hid (sigR l = (([], false, (0, [])), 15)) := by
      have h1 : paramsP l.length (l.drop 1) = none := by
       rw [← hP.out, List.drop_of_length_le (Nat.le_refl _)]
       rfl
      unfold Hid sigR sigP
      rw [if_pos hh.out, h1]
      rfl
     clear hP hf
     go_wp2
     exact rsig_end (ps := []) (d := 0) (n := []) hSR.out hor (own_nil _ _) e1.out _ rfl rfl rfl
  ·have e1 : sigR l = (([], false, (0, [])), 15) := by
    have : hasOne l 40 = false := by
     cases l with
     | nil => simp at hp
     | cons a t => simpa [hasOne] using h40
    simp [sigR, sigP, this]
   have g1 : ((l[0].toNat : Int) == 40) = false := byte_ne h40
   generalize l[0] = c at *
   simp only [Int.ofNat_zero] at a0
   replace e1 := hid e1
   clear h40 hz
   go_enter Tryz.func200, Tryz.ntmps200
   go_wp2
   exact bodyPost_ret (rsig_result SR.out _ rfl rfl) rfl ⟨.slice none 0 0, by rw [e1.out]; rfl, by rw [e1.out]; exact own_nil _ _, o0⟩

set_option maxHeartbeats 400000 in
set_option maxRecDepth 100000 in
theorem rsigText_any {w : World} {ao : Option Addr} {l : List Ty} {d cap : Nat} (hT : TS w ao l d) (hl : l.length ≤ 9223372036854775807) (hA : ∀ t ∈ l, t.2.length ≤ 9223372036854775807) (void : Bool) (t : Ty) (ht : t.2.length ≤ 9223372036854775807) :
  Calls Tryz.prog 150 #[sigV (.slice ao l.length cap) void t] w fun e w' => e = .returned (.tuple #[.string (str (stR l void t)), .int .i64 (sigCheck l void t)]) ∧ Only [] w w' := by
 obtain ⟨td, tn⟩ := t
 have ho := (Only.refl [] w).alloc (.cells #[.slice ao l.length cap, .bool void, .int .i64 td, .string (str tn)] 37)
 have K0 := hid (sig_new w (.slice ao l.length cap) void td tn)
 simp only [sigV]
 by_cases h16 : 16 < l.length
 ·have g1 : (16 < (l.length : Int)) := by omega
  have e1 : sigCheck l void (td, tn) = 4 := by simp [sigCheck, h16]
  have e2 : stR l void (td, tn) = [] := by simp [stR, e1]
  rw [e1, e2]
  clear e1 e2 h16
  go_enter Tryz.func150, Tryz.ntmps150
  go_wp2
  go_ret2
  exact ⟨rfl, ho⟩
 ·have g1 : ¬ (16 < (l.length : Int)) := by omega
  go_enter Tryz.func150, Tryz.ntmps150
  go_wp2
  go_loopw [4, 5] (fun s i wr => ∃ k : Nat, k ≤ l.length ∧ i = .int .i64 (k : Int) ∧ s = .string (str (40 :: tyTexts (l.take k))) ∧ Hid (∀ j (hj : j < l.length), j < k → tyCheck l[j] = 0) ∧ SigAt wr w.heap.size (.slice ao l.length cap) void (td, tn) ∧ Only [] w wr) (fun _ i _ => l.length - (intOf i).toNat)
  case atStart => exact ⟨0, by omega, rfl, rfl, fun j _ h => by omega, K0.out, ho⟩
  case round =>
   obtain ⟨k, hk, rfl, rfl, hok, hS, hor⟩ := hrel
   clear K0
   replace hS := hid hS
   obtain ⟨c0, c1, c2, c3, _, _, _, _⟩ := hS.out
   by_cases hlt : k < l.length
   ·have g2 : ((k : Int) < (l.length : Int)) := by omega
    have hne : l ≠ [] := by intro e; simp [e] at hlt
    rcases hT.only hor (by simp) with h | ⟨off, rfl, hc⟩
    ·exact absurd h hne
    obtain ⟨y0, y1⟩ := hc k hlt
    clear hc
    have hat := fun (h : tyCheck l[k] ≠ 0) => checkAll_at l k hlt (fun j hj => hok.out j (by omega) hj) h
    have hnx : tyCheck l[k] = 0 → ∀ j (hj : j < l.length), j < k + 1 → tyCheck l[j] = 0 := by
     intro h0 j hj hjk
     by_cases e : j = k
     ·subst e
      exact h0
     ·exact hok.out j hj (by omega)
    have htk : tyTexts (l.take (k + 1)) = tyTexts (l.take k) ++ tyText l[k] := by
     rw [List.take_succ_eq_append_getElem hlt, tyTexts_append]
     simp [tyTexts]
    have hlen := fits_len (l.take k) fun t ht => by
     obtain ⟨j, hj, rfl⟩ := List.getElem_of_mem ht
     simp at hj
     rw [List.getElem_take]
     exact check_fit (hok.out j (by omega) (by omega))
    have hln := hA l[k] (List.getElem_mem hlt)
    generalize l[k] = t at *
    obtain ⟨d0, nm⟩ := t
    have HC := rtypeText_any (d0, nm) hln wr
    simp only [] at hln
    by_cases hz : tyCheck (d0, nm) = 0
    ·have e1 : ttR (d0, nm) = tyText (d0, nm) := by simp [ttR, hz]
     have hft := fit_len (check_fit hz)
     rw [hz, e1] at HC
     simp only [tyV] at HC y0 y1
     replace HC := hid HC
     have hnx := hid (hnx hz)
     have hlk : (l.take k).length ≤ 16 := by simp; omega
     have hcat : ∀ w, (Op.stringOp .add (str (40 :: tyTexts (l.take k))) (str (tyText (d0, nm)))).run Tryz.prog w = .ok (.string (str (40 :: tyTexts (l.take (k + 1))))) w := fun w => by
      have := run_cat (40 :: tyTexts (l.take k)) (tyText (d0, nm)) (by simp; omega) w
      rw [htk]
      exact this
     clear hat hz e1 hok htk hlk hlen hft
     generalize tyTexts (l.take k) = u at *
     generalize hv : tyTexts (l.take (k + 1)) = u2 at *
     generalize tyText (d0, nm) = u3 at *
     replace hv := hid hv
     go_wp2_with fail
     refine HC.out.mono ?_
     rintro e w2 ⟨rfl, ho2⟩
     go_wp2
     exact ⟨⟨k + 1, by omega, by go_num, by rw [hv.out], hnx, hS.out.only ho2 (by simp), hor.next ho2 (by simp)⟩, by simp [intOf]; omega⟩
    ·have hat := hat hz
     have e1 : sigCheck l void (td, tn) = tyCheck (d0, nm) := by
      unfold sigCheck
      rw [if_neg h16, hat, if_neg hz]
     have e2 : Hid (stR l void (td, tn) = []) := by
      unfold Hid stR
      rw [e1, if_neg hz]
     replace e1 := hid e1
     clear hat hnx hok htk hlen
     generalize tyCheck (d0, nm) = c at *
     simp only [tyV] at HC y0 y1
     replace HC := hid HC
     go_wp2_with fail
     refine HC.out.mono ?_
     rintro e w2 ⟨rfl, ho2⟩
     go_wp2
     go_ret2
     exact ⟨by rw [e1.out, e2.out]; rfl, hor.next ho2 (by simp)⟩
   ·have g2 : ¬ ((k : Int) < (l.length : Int)) := by omega
    obtain rfl : k = l.length := by omega
    have hall : checkAll l = 0 := (checkAll_ok l).2 fun t ht => by
     obtain ⟨j, hj, rfl⟩ := List.getElem_of_mem ht
     exact hok.out j hj hj
    have hlen := fits_len l fun t ht => check_fit ((checkAll_ok l).1 hall t ht)
    rw [List.take_of_length_le (Nat.le_refl _)]
    clear hok
    have hq := neq_type (td, tn) (0, [])
    rw [ty_zero] at hq
    simp only [tyV] at hq
    cases void with
    | true =>
     by_cases hz : (td, tn) = (((0 : Int), []) : Ty)
     ·have e1 : sigCheck l true (td, tn) = 0 := by
       unfold sigCheck
       rw [if_neg h16, if_pos hall, if_neg (by simp [hz]), hz]
       decide
      have e2 : Hid (stR l true (td, tn) = 40 :: (tyTexts l ++ [41, 86])) := by
       unfold Hid stR
       rw [if_pos e1]
       rfl
      have hcat : ∀ w, (Op.stringOp .add (str (40 :: tyTexts l)) ⟨#[41, 86]⟩).run Tryz.prog w = .ok (.string (str (40 :: (tyTexts l ++ [41, 86])))) w := fun w => run_cat (40 :: tyTexts l) [41, 86] (by simp; omega) w
      replace e1 := hid e1
      simp only [hz, decide_true, Bool.not_true] at hq
      clear hz hall hlen
      generalize tyTexts l = u at *
      go_wp2
      go_ret2
      exact ⟨by rw [e1.out, e2.out]; rfl, hor⟩
     ·have e1 : sigCheck l true (td, tn) = 1 := by
       unfold sigCheck
       rw [if_neg h16, if_pos hall]
       simp [hz]
      have e2 : Hid (stR l true (td, tn) = []) := by
       unfold Hid stR
       rw [e1]
       rfl
      replace e1 := hid e1
      simp only [hz, decide_false, Bool.not_false] at hq
      clear hz hall hlen
      go_wp2
      go_ret2
      exact ⟨by rw [e1.out, e2.out]; rfl, hor⟩
    | false =>
     have e1 : Hid (sigCheck l false (td, tn) = tyCheck (td, tn)) := by
      unfold Hid sigCheck
      rw [if_neg h16, if_pos hall]
      simp
     have HC := rtypeText_any (td, tn) ht wr
     clear hq
     by_cases hz : tyCheck (td, tn) = 0
     ·have hft := fit_len (check_fit hz)
      have e3 : ttR (td, tn) = tyText (td, tn) := by simp [ttR, hz]
      have e2 : Hid (stR l false (td, tn) = 40 :: (tyTexts l ++ 41 :: tyText (td, tn))) := by
       unfold Hid stR
       rw [e1.out, if_pos hz]
       simp [sigText]
      have e4 : Hid (sigCheck l false (td, tn) = 0) := by
       unfold Hid
       rw [e1.out, hz]
      rw [e3, hz] at HC
      simp only [tyV] at HC
      replace HC := hid HC
      have k2 : ∀ w, (Op.stringOp .add (str (40 :: tyTexts l)) ⟨#[41]⟩).run Tryz.prog w = .ok (.string (str (40 :: (tyTexts l ++ [41])))) w := fun w => run_cat (40 :: tyTexts l) [41] (by simp; omega) w
      have k3 : ∀ w, (Op.stringOp .add (str (40 :: (tyTexts l ++ [41]))) (str (tyText (td, tn)))).run Tryz.prog w = .ok (.string (str (40 :: (tyTexts l ++ 41 :: tyText (td, tn))))) w := fun w => by
       have := run_cat (40 :: (tyTexts l ++ [41])) (tyText (td, tn)) (by simp; omega) w
       simp only [List.cons_append, List.append_assoc, List.nil_append] at this
       exact this
      clear e1 e3 hz hall hlen hft
      generalize tyTexts l = u at *
      generalize tyText (td, tn) = v at *
      go_wp2_with fail
      refine HC.out.mono ?_
      rintro e w2 ⟨rfl, ho2⟩
      go_wp2
      go_ret2
      exact ⟨by rw [e4.out, e2.out]; rfl, hor.next ho2 (by simp)⟩
     ·have e2 : Hid (stR l false (td, tn) = []) := by
       unfold Hid stR
       rw [e1.out, if_neg hz]
      clear hall hlen
      generalize tyCheck (td, tn) = c at *
      simp only [tyV] at HC
      replace HC := hid HC
      go_wp2_with fail
      refine HC.out.mono ?_
      rintro e w2 ⟨rfl, ho2⟩
      go_wp2
      go_ret2
      exact ⟨by rw [e1.out, e2.out]; rfl, hor.next ho2 (by simp)⟩

set_option maxHeartbeats 2000000 in
theorem xs_entry {w : World} {B y K : Nat} {L : List Nat} (h : XS w B y K L) (e : En) (hl : e.2.1.length ≤ 9223372036854775807) (hK : K + 300 ≤ 211106232532992) :
  Calls Tryz.prog 89 #[.pointer (some ⟨y, 0, none⟩), enV e] w (XP w B y (K + 300) L) := by
 obtain ⟨k, t, n, a, b, c⟩ := e
 simp only [enV] at hl ⊢
 have hX1 := h.alloc (.cells #[.int .i64 k, .string (str t), .int .i64 n, .int .i64 a, .int .i64 b, .int .i64 c] 90)
 have l1 : Lo L B w (w.alloc (.cells #[.int .i64 k, .string (str t), .int .i64 n, .int .i64 a, .int .i64 b, .int .i64 c] 90)) := Lo.of0 ((Only.refl [] w).alloc _)
 have S1 := hid (cl6_new w (.int .i64 k) (.string (str t)) (.int .i64 n) (.int .i64 a) (.int .i64 b) (.int .i64 c) 90)
 have H1 := hid (xs_u1 hX1 k (by omega))
 clear h hX1
 replace l1 := hid l1
 obtain ⟨c0, c1, c2, c3, c4, c5, _, _, _, _, _, _⟩ := S1.out
 go_enter Tryz.func89, Tryz.ntmps89
 go_wp2_with fail
 refine H1.out.mono ?_
 rintro e w2 ⟨rfl, hX2, l2⟩
 have S2 := hid (S1.out.lo l2 (by simp))
 clear H1 S1 c0 c1 c2 c3 c4 c5
 obtain ⟨c0, c1, c2, c3, c4, c5, _, _, _, _, _, _⟩ := S2.out
 by_cases k1 : k = 1
 ·subst k1
  have H2 := hid (xs_text hX2 t hl (by omega))
  go_wp2_with fail
  refine H2.out.mono ?_
  rintro e w3 ⟨rfl, hX3, l3⟩
  clear H2
  go_wp2
  go_end0
  exact ⟨rfl, (hX3.tail).mono (by omega), l1.out.trans (l2.trans l3).tail⟩
 by_cases k2 : k = 2
 ·subst k2
  have H2 := hid (xs_n8 hX2 n (by omega))
  go_wp2_with fail
  refine H2.out.mono ?_
  rintro e w3 ⟨rfl, hX3, l3⟩
  clear H2
  go_wp2
  go_end0
  exact ⟨rfl, (hX3.tail).mono (by omega), l1.out.trans (l2.trans l3).tail⟩
 by_cases k3 : k = 3
 ·subst k3
  have H2 := hid (xs_u2 hX2 a (by omega))
  go_wp2_with fail
  refine H2.out.mono ?_
  rintro e w3 ⟨rfl, hX3, l3⟩
  clear H2
  go_wp2
  go_end0
  exact ⟨rfl, (hX3.tail).mono (by omega), l1.out.trans (l2.trans l3).tail⟩
 by_cases k4 : k = 4
 ·subst k4
  have H2 := hid (xs_u2 hX2 a (by omega))
  go_wp2_with fail
  refine H2.out.mono ?_
  rintro e w3 ⟨rfl, hX3, l3⟩
  clear H2
  go_wp2
  go_end0
  exact ⟨rfl, (hX3.tail).mono (by omega), l1.out.trans (l2.trans l3).tail⟩
 have k1' : (k == 1) = false := by simpa using k1
 have k2' : (k == 2) = false := by simpa using k2
 have k3' : (k == 3) = false := by simpa using k3
 have k4' : (k == 4) = false := by simpa using k4
 have H2 := hid (xs_u2 hX2 a (by omega))
 go_wp2_with fail
 refine H2.out.mono ?_
 rintro e w3 ⟨rfl, hX3, l3⟩
 clear H2
 have S3 := hid (S2.out.lo l3 (by simp))
 clear c0 c1 c2 c3 c4 c5
 obtain ⟨c0, c1, c2, c3, c4, c5, _, _, _, _, _, _⟩ := S3.out
 have H3 := hid (xs_u2 hX3 b (by omega))
 go_wp2_with fail
 refine H3.out.mono ?_
 rintro e w4 ⟨rfl, hX4, l4⟩
 clear H3
 have S4 := hid (S3.out.lo l4 (by simp))
 clear c0 c1 c2 c3 c4 c5
 obtain ⟨c0, c1, c2, c3, c4, c5, _, _, _, _, _, _⟩ := S4.out
 have H4 := hid (xs_u2 hX4 c (by omega))
 go_wp2_with fail
 refine H4.out.mono ?_
 rintro e w5 ⟨rfl, hX5, l5⟩
 clear H4
 go_wp2
 go_end0
 exact ⟨rfl, (hX5.tail).mono (by omega), l1.out.trans (((l2.trans l3).trans l4).trans l5).tail⟩

theorem stR_len (l : List Ty) (void : Bool) (t : Ty) : (stR l void t).length ≤ 9223372036854775807 := by
 unfold stR
 split
 ·rename_i h
  obtain ⟨h1, h2, h3, _⟩ := sigCheck_ok h
  have hl := fits_len l fun x hx => check_fit (h2 x hx)
  have ht := fit_len (check_fit h3)
  unfold sigText
  split
  ·simp
   omega
  ·simp
   omega
 ·simp

set_option maxHeartbeats 4000000 in
set_option maxRecDepth 100000 in
theorem xs_written {w : World} {B y K : Nat} {L : List Nat} (h : XS w B y K L) (m : Me) (hF : MeFit m) (hcl : m.code.length ≤ 1024) (hhl : m.hands.length ≤ 32) {vp vc vh : Value} (hM : MeAt (SlR w (· < B)) vp vc vh m) (hK : K + 12000 ≤ 211106232532992) :
  Calls Tryz.prog 93 #[.pointer (some ⟨y, 0, none⟩), meV vp vc vh m] w (XP w B y (K + 12000) L) := by
 obtain ⟨fl, nm, ⟨ps, vo, td, tn⟩, st, lo, code, hs⟩ := m
 obtain ⟨hM1, hM2, hM3⟩ := hM
 obtain ⟨po, pc, rfl, pl⟩ := SlV.shape hM1
 obtain ⟨co, cc, rfl, cl⟩ := SlV.shape hM2
 obtain ⟨ho, hc, rfl, hl⟩ := SlV.shape hM3
 have hF1 := hF.name
 have hF4 := hid hF.hands
 simp only [meV] at hM1 hM2 hM3 pl cl hl hF1 hF4 hcl hhl ⊢
 have HT := hid (fun W (hW : SlV W (· < B) (.slice po ps.length pc) ps.length (tcs ps)) => by
  obtain ⟨d, hr⟩ := SlV.rs hW
  exact rsigText_any (cap := pc) (TS.of_rs hr) pl hF.params vo (td, tn) hF.res)
 have hsl := stR_len ps vo (td, tn)
 clear hF
 generalize stR ps vo (td, tn) = sx at *
 have hno : Hid (co = none → cc = 0) := by
  obtain ⟨co', cc', d', ev, hS⟩ := hM2
  simp only [Value.slice.injEq] at ev
  obtain ⟨rfl, _, rfl⟩ := ev
  exact hS.no
 simp only [sigV] at HT
 replace hM1 := hid hM1
 replace hM2 := hid hM2
 replace hM3 := hid hM3
 have hX1 := h.alloc (.cells #[.int .i64 fl, .string (str nm), .slice po ps.length pc, .bool vo, .int .i64 td, .string (str tn), .int .i64 st, .int .i64 lo, .slice co code.length cc, .slice ho hs.length hc] 41)
 have l1 : Hid (Lo L B w (w.alloc (.cells #[.int .i64 fl, .string (str nm), .slice po ps.length pc, .bool vo, .int .i64 td, .string (str tn), .int .i64 st, .int .i64 lo, .slice co code.length cc, .slice ho hs.length hc] 41))) := Lo.of0 ((Only.refl [] w).alloc _)
 have S1 := hid (me10_new w (.int .i64 fl) (.string (str nm)) (.slice po ps.length pc) (.bool vo) (.int .i64 td) (.string (str tn)) (.int .i64 st) (.int .i64 lo) (.slice co code.length cc) (.slice ho hs.length hc) 41)
 have H1 := hid (xs_u1 hX1 fl (by omega))
 clear h hX1
 obtain ⟨a0, a1, a2, a3, a4, a5, a6, a7, a8, a9, _, _, _, _, _, _, _, _, _, _⟩ := S1.out
 go_enter Tryz.func93, Tryz.ntmps93
 go_wp2_with fail
 refine H1.out.mono ?_
 rintro e w2 ⟨rfl, hX2, l2⟩
 have S2 := hid (S1.out.lo l2 (by simp))
 have L2 := hid (l1.out.trans l2.tail)
 clear H1 S1 l1 l2
 clear a0 a1 a2 a3 a4 a5 a6 a7 a8 a9
 obtain ⟨a0, a1, a2, a3, a4, a5, a6, a7, a8, a9, _, _, _, _, _, _, _, _, _, _⟩ := S2.out
 have H2 := hid (xs_text hX2 nm hF1 (by omega))
 go_wp2_with fail
 refine H2.out.mono ?_
 rintro e w3 ⟨rfl, hX3, l3⟩
 have S3 := hid (S2.out.lo l3 (by simp))
 have L3 := hid (L2.out.trans l3.tail)
 clear H2 S2 L2 l3 hX2
 clear a0 a1 a2 a3 a4 a5 a6 a7 a8 a9
 obtain ⟨a0, a1, a2, a3, a4, a5, a6, a7, a8, a9, _, _, _, _, _, _, _, _, _, _⟩ := S3.out
 go_wp2_with fail
 refine (HT.out _ (hM1.out.lo L3.out)).mono ?_
 rintro e w4 ⟨rfl, o4⟩
 have hX4 := hX3.only0 o4
 have S4 := hid (S3.out.only o4 (by simp))
 have L4 := hid (L3.out.trans (Lo.of0 o4))
 clear HT S3 L3 o4 hX3
 clear a0 a1 a2 a3 a4 a5 a6 a7 a8 a9
 obtain ⟨a0, a1, a2, a3, a4, a5, a6, a7, a8, a9, _, _, _, _, _, _, _, _, _, _⟩ := S4.out
 have H4 := hid (xs_text hX4 sx hsl (by omega))
 go_wp2_with fail
 refine H4.out.mono ?_
 rintro e w5 ⟨rfl, hX5, l5⟩
 have S5 := hid (S4.out.lo l5 (by simp))
 have L5 := hid (L4.out.trans l5.tail)
 clear H4 S4 L4 l5 hX4
 clear a0 a1 a2 a3 a4 a5 a6 a7 a8 a9
 obtain ⟨a0, a1, a2, a3, a4, a5, a6, a7, a8, a9, _, _, _, _, _, _, _, _, _, _⟩ := S5.out
 by_cases f2 : fl = 2
 ·subst f2
  go_wp2
  go_end0
  exact ⟨rfl, (hX5.tail).mono (by omega), L5.out⟩
 have f2' : (fl == 2) = false := by simpa using f2
 have H5 := hid (xs_u1 hX5 st (by omega))
 go_wp2_with fail
 refine H5.out.mono ?_
 rintro e w6 ⟨rfl, hX6, l6⟩
 have S6 := hid (S5.out.lo l6 (by simp))
 have L6 := hid (L5.out.trans l6.tail)
 clear H5 S5 L5 l6 hX5
 clear a0 a1 a2 a3 a4 a5 a6 a7 a8 a9
 obtain ⟨a0, a1, a2, a3, a4, a5, a6, a7, a8, a9, _, _, _, _, _, _, _, _, _, _⟩ := S6.out
 have H6 := hid (xs_u1 hX6 lo (by omega))
 go_wp2_with fail
 refine H6.out.mono ?_
 rintro e w7 ⟨rfl, hX7, l7⟩
 have S7 := hid (S6.out.lo l7 (by simp))
 have L7 := hid (L6.out.trans l7.tail)
 clear H6 S6 L6 l7 hX6
 clear a0 a1 a2 a3 a4 a5 a6 a7 a8 a9
 obtain ⟨a0, a1, a2, a3, a4, a5, a6, a7, a8, a9, _, _, _, _, _, _, _, _, _, _⟩ := S7.out
 have H7 := hid (xs_u2 hX7 (code.length : Int) (by omega))
 go_wp2_with fail
 refine H7.out.mono ?_
 rintro e w8 ⟨rfl, hX8, l8⟩
 have S8 := hid (S7.out.lo l8 (by simp))
 have L8 := hid (L7.out.trans l8.tail)
 clear H7 S7 L7 l8 hX7
 clear a0 a1 a2 a3 a4 a5 a6 a7 a8 a9
 obtain ⟨a0, a1, a2, a3, a4, a5, a6, a7, a8, a9, _, _, _, _, _, _, _, _, _, _⟩ := S8.out
 obtain ⟨dC, rC⟩ := SlV.rs (hM2.out.lo L8.out)
 have H8 := hid (xs_bytes hX8 rC hno.out (by omega))
 go_wp2_with fail
 refine H8.out.mono ?_
 rintro e w9 ⟨rfl, hX9, l9⟩
 have S9 := hid (S8.out.lo l9 (by simp))
 have L9 := hid (L8.out.trans l9.tail)
 clear H8 S8 L8 l9 hX8
 clear a0 a1 a2 a3 a4 a5 a6 a7 a8 a9
 obtain ⟨a0, a1, a2, a3, a4, a5, a6, a7, a8, a9, _, _, _, _, _, _, _, _, _, _⟩ := S9.out
 clear rC
 have H9 := hid (xs_u1 hX9 (hs.length : Int) (by omega))
 go_wp2_with fail
 refine H9.out.mono ?_
 rintro e w10 ⟨rfl, hX10, l10⟩
 have S10 := hid (S9.out.lo l10 (by simp))
 have L10 := hid (L9.out.trans l10.tail)
 clear H9 S9 L9 l10 hX9
 clear a0 a1 a2 a3 a4 a5 a6 a7 a8 a9
 obtain ⟨a0, a1, a2, a3, a4, a5, a6, a7, a8, a9, _, _, _, _, _, _, _, _, _, _⟩ := S10.out
 go_wp2_with fail
 have X10 := hid (hX10.mono (show _ ≤ K + 2000 + 0 * 262 by omega))
 clear a0 a1 a2 a3 a4 a5 a6 a7 a8 a9
 clear hX10
 go_loopw [6] (fun v wr => ∃ j : Nat, j ≤ hs.length ∧ v = .int .i64 (j : Int) ∧ Hid (XS wr B y (K + 2000 + j * 262) (w.heap.size :: L)) ∧ Hid (Me10 wr w.heap.size (.int .i64 fl) (.string (str nm)) (.slice po ps.length pc) (.bool vo) (.int .i64 td) (.string (str tn)) (.int .i64 st) (.int .i64 lo) (.slice co code.length cc) (.slice ho hs.length hc)) ∧ Hid (Lo L B w wr)) (fun v _ => hs.length - (intOf v).toNat)
 case atStart => exact ⟨0, by omega, rfl, X10, S10, L10⟩
 case round =>
  obtain ⟨j, hj, rfl, hX, hS, hL⟩ := hrel
  clear X10 S10 L10
  obtain ⟨a0, a1, a2, a3, a4, a5, a6, a7, a8, a9, _, _, _, _, _, _, _, _, _, _⟩ := hS.out
  by_cases hlt : j < hs.length
  ·have g1 : ((j : Int) < (hs.length : Int)) := by omega
   obtain ⟨dH, rH⟩ := SlV.rs (hM3.out.lo hL.out)
   obtain ⟨off, rfl, y0, y1, y2, y3⟩ := hd_cells rH hlt
   have hfit := hF4.out _ (List.getElem_mem hlt)
   clear rH
   generalize hs[j] = x at *
   obtain ⟨xf, xt, xa, xn⟩ := x
   simp only at y0 y1 y2 y3 hfit
   have X1 := hX.out.alloc (.cells #[.int .i64 xf, .int .i64 xt, .int .i64 xa, .string (str xn)] 46)
   have q1 : Hid (Lo (w.heap.size :: L) B wr (wr.alloc (.cells #[.int .i64 xf, .int .i64 xt, .int .i64 xa, .string (str xn)] 46))) := Lo.of0 ((Only.refl [] wr).alloc _)
   have T1 := hid (b4_new wr (.int .i64 xf) (.int .i64 xt) (.int .i64 xa) (.string (str xn)) 46)
   obtain ⟨d0, d1, d2, d3, _, _, _, _⟩ := T1.out
   have H1 := hid (xs_u2 X1 xf (by omega))
   go_wp2_with fail
   refine H1.out.mono ?_
   rintro e v2 ⟨rfl, X2, l2⟩
   have T2 := hid (T1.out.lo l2 (by simp))
   have q2 := hid (q1.out.trans l2.tail)
   clear H1 T1 q1 l2 X1
   clear d0 d1 d2 d3
   obtain ⟨d0, d1, d2, d3, _, _, _, _⟩ := T2.out
   have H2 := hid (xs_u2 X2 xt (by omega))
   go_wp2_with fail
   refine H2.out.mono ?_
   rintro e v3 ⟨rfl, X3, l3⟩
   have T3 := hid (T2.out.lo l3 (by simp))
   have q3 := hid (q2.out.trans l3.tail)
   clear H2 T2 q2 l3 X2
   clear d0 d1 d2 d3
   obtain ⟨d0, d1, d2, d3, _, _, _, _⟩ := T3.out
   have H3 := hid (xs_u2 X3 xa (by omega))
   go_wp2_with fail
   refine H3.out.mono ?_
   rintro e v4 ⟨rfl, X4, l4⟩
   have T4 := hid (T3.out.lo l4 (by simp))
   have q4 := hid (q3.out.trans l4.tail)
   clear H3 T3 q3 l4 X3
   clear d0 d1 d2 d3
   obtain ⟨d0, d1, d2, d3, _, _, _, _⟩ := T4.out
   have H4 := hid (xs_text X4 xn hfit (by omega))
   go_wp2_with fail
   refine H4.out.mono ?_
   rintro e v5 ⟨rfl, X5, l5⟩
   have T5 := hid (T4.out.lo l5 (by simp))
   have q5 := hid (q4.out.trans l5.tail)
   clear H4 T4 q4 l5 X4
   clear d0 d1 d2 d3
   obtain ⟨d0, d1, d2, d3, _, _, _, _⟩ := T5.out
   go_wp2_with fail
   exact ⟨⟨j + 1, by omega, by go_num, hid ((X5.tail).mono (by omega)), hid (hS.out.lo q5.out (by simp)), hid (hL.out.trans q5.out.tail)⟩, by simp [intOf]; omega⟩
  ·have g1 : ¬ ((j : Int) < (hs.length : Int)) := by omega
   go_wp2
   go_end0
   exact ⟨rfl, (hX.out.tail).mono (by omega), hL.out⟩

end Go.Proofs.YtildemmkhndhjaaGreatDoor
