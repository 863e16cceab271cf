/-
  The contract of first: the type with which a text begins, and what stands behind it. No conditions.
-/
import Derived.Test.YtemjhlhioeopnabDoorDScope
namespace Go.Proofs.YtemjhlhioeopnabDoor
open Go.RowKit

/-- A class's name, and what stands behind it. -/
def classP (n : Nat) (t : List UInt8) : Option (Ty × List UInt8) :=
  if t.dropWhile (· != 59) = [] ∨ nameOK (t.takeWhile (· != 59)) = false then none else some (((n : Int), t.takeWhile (· != 59)), (t.dropWhile (· != 59)).drop 1)

/-- The type with which a text begins behind n opening brackets. -/
def firstP : Nat → List UInt8 → Option (Ty × List UInt8)
  | _, [] => none
  | n, c :: t => if 8 < n then none else if c = 91 then firstP (n + 1) t else if c = 73 then some (((n : Int), []), t) else if c = 76 then classP n t else none

def firstR (l : List UInt8) : Ty × List UInt8 × Bool := match firstP 0 l with | some (t, rest) => (t, rest, true) | none => ((0, []), [], false)

theorem index_semi (t : List UInt8) : Lib.indexByte t 59 = if t.dropWhile (· != 59) = [] then -1 else ((t.takeWhile (· != 59)).length : Int) := by
  induction t with
  | nil => rfl
  | cons a t ih =>
    unfold Lib.indexByte
    by_cases h : a = 59
    · simp [h]
    · have h1 : (a == 59) = false := by simpa using h
      have h2 : (a != 59) = true := by simpa using h
      rw [h1, ih, List.dropWhile_cons_of_pos (by simpa using h2), List.takeWhile_cons_of_pos (by simpa using h2)]
      by_cases h3 : t.dropWhile (· != 59) = []
      · simp [h3]
      · simp only [h3, if_false, Bool.false_eq_true, List.length_cons]
        have : (((t.takeWhile (· != 59)).length : Int) == -1) = false := by rw [beq_eq_false_iff_ne]; omega
        rw [this]
        simp

theorem take_while (t : List UInt8) : t.take (t.takeWhile (· != 59)).length = t.takeWhile (· != 59) := by
  have h := List.takeWhile_append_dropWhile (p := (· != 59)) (l := t)
  generalize t.takeWhile (· != 59) = a at *
  generalize t.dropWhile (· != 59) = b at *
  rw [← h]
  simp

theorem drop_while (t : List UInt8) : t.drop (t.takeWhile (· != 59)).length = t.dropWhile (· != 59) := by
  have h := List.takeWhile_append_dropWhile (p := (· != 59)) (l := t)
  generalize t.takeWhile (· != 59) = a at *
  generalize t.dropWhile (· != 59) = b at *
  rw [← h]
  simp

theorem while_le (t : List UInt8) : (t.takeWhile (· != 59)).length + (t.dropWhile (· != 59)).length = t.length := by
  have h := List.takeWhile_append_dropWhile (p := (· != 59)) (l := t)
  generalize t.takeWhile (· != 59) = a at *
  generalize t.dropWhile (· != 59) = b at *
  rw [← h]
  simp

/-- A type in block b. -/
structure TyAt (w : World) (b : Nat) (t : Ty) : Prop where
  c0 : w.cell? ⟨b, 0, none⟩ = some (.int .i64 t.1)
  c1 : w.cell? ⟨b, 1, none⟩ = some (.string (str t.2))
  f0 : w.frozen? ⟨b, 0, none⟩ = false
  f1 : w.frozen? ⟨b, 1, none⟩ = false

def strLen : Value → Nat | .string s => s.size | _ => 0

/-- What holds at each label. -/
def FJ (w : World) (l : List UInt8) : Nat → Act → World → Prop
  | 1, a, w' => ∃ (n : Nat) (l' : List UInt8) (u1 u5 u6 u7 u8 u9 u10 u11 u12 u13 u14 u15 u16 u17 u18 u19 u20 u21 u22 u23 u24 u25 u26 u27 u28 u29 u30 u31 u32 u33 u34 u35 u36 u37 u38 u39 u40 u41 u42 u43 u44 u45 u46 u47 u48 u49 u50 : Value), a = { tmps := #[.string (str l'), u1, .pointer (some ⟨w.heap.size, 0, none⟩), .string ⟨#[]⟩, .bool false, u5, u6, u7, u8, u9, u10, u11, u12, u13, u14, u15, u16, u17, u18, u19, u20, u21, u22, u23, u24, u25, u26, u27, u28, u29, u30, u31, u32, u33, u34, u35, u36, u37, u38, u39, u40, u41, u42, u43, u44, u45, u46, u47, u48, u49, u50], defers := [] } ∧ TyAt w' w.heap.size ((n : Int), []) ∧ Only [] w w' ∧ firstP n l' = firstP 0 l ∧ n ≤ 9 ∧ l'.length ≤ l.length
  | 2, a, w' => ∃ (n : Nat) (l' : List UInt8) (u1 u5 u6 u7 u8 u9 u10 u11 u12 u13 u14 u15 u16 u17 u18 u19 u20 u21 u22 u23 u24 u25 u26 u27 u28 u29 u30 u31 u32 u33 u34 u35 u36 u37 u38 u39 u40 u41 u42 u43 u44 u45 u46 u47 u48 u49 u50 : Value), a = { tmps := #[.string (str (76 :: l')), u1, .pointer (some ⟨w.heap.size, 0, none⟩), .string ⟨#[]⟩, .bool false, u5, u6, u7, u8, u9, u10, u11, u12, u13, u14, u15, u16, u17, u18, u19, u20, u21, u22, u23, u24, u25, u26, u27, u28, u29, u30, u31, u32, u33, u34, u35, u36, u37, u38, u39, u40, u41, u42, u43, u44, u45, u46, u47, u48, u49, u50], defers := [] } ∧ TyAt w' w.heap.size ((n : Int), []) ∧ Only [] w w' ∧ classP n l' = firstP 0 l ∧ n ≤ 8 ∧ l'.length + 1 ≤ l.length
  | 0, a, w' => ∃ (t : Ty) (u0 u1 u3 u4 u5 u6 u7 u8 u9 u10 u11 u12 u13 u14 u15 u16 u17 u18 u19 u20 u21 u22 u23 u24 u25 u26 u27 u28 u29 u30 u31 u32 u33 u34 u35 u36 u37 u38 u39 u40 u41 u42 u43 u44 u45 u46 u47 u48 u49 u50 : Value), a = { tmps := #[u0, u1, .pointer (some ⟨w.heap.size, 0, none⟩), u3, u4, u5, u6, u7, u8, u9, u10, u11, u12, u13, u14, u15, u16, u17, u18, u19, u20, u21, u22, u23, u24, u25, u26, u27, u28, u29, u30, u31, u32, u33, u34, u35, u36, u37, u38, u39, u40, u41, u42, u43, u44, u45, u46, u47, u48, u49, u50], defers := [] } ∧ TyAt w' w.heap.size t ∧ Only [] w w' ∧ firstP 0 l = none
  | _, _, _ => False

def Fμ : Nat → Act → World → Nat
  | 1, a, _ => 2 + strLen (a.tmps.getD 0 undef)
  | 2, _, _ => 1
  | _, _, _ => 0

set_option maxHeartbeats 1000000 in
set_option maxRecDepth 100000 in
theorem first_any (l : List UInt8) (hl : l.length ≤ 9223372036854775807) (w : World) : Calls Tryd.prog 34 #[.string (str l)] w fun e w' => e = .returned (.tuple #[tyV (firstR l).1, .string (str (firstR l).2.1), .bool (firstR l).2.2]) ∧ Only [] w w' := by
  go_enter Tryd.func34, Tryd.ntmps34
  go_wp2
  refine wp_scope_multi (FJ w l) Fμ ?_ ?_
  · intro lb a w' hJ
    obtain _ | _ | _ | lb := lb
    ·
      obtain ⟨t, u0, u1, u3, u4, u5, u6, u7, u8, u9, u10, u11, u12, u13, u14, u15, u16, u17, u18, u19, u20, u21, u22, u23, u24, u25, u26, u27, u28, u29, u30, u31, u32, u33, u34, u35, u36, u37, u38, u39, u40, u41, u42, u43, u44, u45, u46, u47, u48, u49, u50, rfl, hT, hO, hR⟩ := hJ
      refine ⟨_, rfl, ?_⟩
      obtain ⟨c0, c1, f0, f1⟩ := hT
      go_wp2
      obtain ⟨d0, d1⟩ := put2 (.int .i64 0) (.string ⟨#[]⟩) c0 c1 (by omega)
      simp only [Exit.jumps]
      refine bodyPost_ret (v := .tuple #[.agg #[.int .i64 0, .string ⟨#[]⟩], .string ⟨#[]⟩, .bool false]) (by simp [results, Tryd.results34, go_sem, d0, d1]) rfl ⟨?_, (hO.setCell (.inr (by simp)) _).setCell (.inr (by simp)) _⟩
      simp [firstR, hR, tyV, str]
    ·
      obtain ⟨n, l', u1, u5, u6, u7, u8, u9, u10, u11, u12, u13, u14, u15, u16, u17, u18, u19, u20, u21, u22, u23, u24, u25, u26, u27, u28, u29, u30, u31, u32, u33, u34, u35, u36, u37, u38, u39, u40, u41, u42, u43, u44, u45, u46, u47, u48, u49, u50, rfl, hT, hO, hR, hn, hlen⟩ := hJ
      refine ⟨_, rfl, ?_⟩
      have HT := hid hT
      obtain ⟨c0, c1, f0, f1⟩ := hT
      have HR := hid hR
      clear hR
      have ht := str_toList l'
      cases l' with
      | nil =>
        go_wp2
        apply wp_goto
        refine ⟨⟨((n : Int), []), _, _, _, _, _, _, _, _, _, _, _, _, _, _, _, _, _, _, _, _, _, _, _, _, _, _, _, _, _, _, _, _, _, _, _, _, _, _, _, _, _, _, _, _, _, _, _, _, _, _, rfl, HT.out, hO, ?_⟩, ?_⟩
        · rw [← HR.out]
          rfl
        · show 0 < 2 + _
          omega
      | cons c t =>
        have hcz : ¬ ((c :: t) = []) := by simp
        by_cases hn8 : 8 < n
        · have g8 : (8 < (n : Int)) := by omega
          go_wp2
          apply wp_goto
          refine ⟨⟨((n : Int), []), _, _, _, _, _, _, _, _, _, _, _, _, _, _, _, _, _, _, _, _, _, _, _, _, _, _, _, _, _, _, _, _, _, _, _, _, _, _, _, _, _, _, _, _, _, _, _, _, _, _, rfl, HT.out, hO, ?_⟩, ?_⟩
          · rw [← HR.out]
            simp [firstP, hn8]
          · show 0 < 2 + _
            omega
        have g8 : ¬ (8 < (n : Int)) := by omega
        have ha := run_at (c :: t) 0 (by simp)
        rw [show ((0 : Nat) : Int) = 0 from rfl, List.getElem_cons_zero] at ha
        have hr := run_from (c :: t) 1 (by simp)
        rw [show ((1 : Nat) : Int) = 1 from rfl, List.drop_one, List.tail_cons] at hr
        by_cases h91 : c = 91
        · subst h91
          have e1 : (91 : UInt8).toNat = 91 := rfl
          go_wp2
          apply wp_goto
          refine ⟨⟨n + 1, t, _, _, _, _, _, _, _, _, _, _, _, _, _, _, _, _, _, _, _, _, _, _, _, _, _, _, _, _, _, _, _, _, _, _, _, _, _, _, _, _, _, _, _, _, _, _, _, rfl, ⟨?_, ?_, ?_, ?_⟩, hO.setCell (.inr (by simp)) _, ?_, by omega, ?_⟩, ?_⟩
          · rw [cell_setCell_same _ _ c0]
            rfl
          · rw [cell_setCell_ne _ _ (by simp)]
            exact c1
          · rw [frozen_setCell]
            exact f0
          · rw [frozen_setCell]
            exact f1
          · rw [← HR.out]
            simp [firstP, hn8]
          · simp at hlen
            omega
          · show 2 + strLen (.string (str t)) < 2 + strLen (.string (str (91 :: t)))
            simp [strLen, str_size]
        have k91 : ¬ ((c.toNat : Int) = 91) := fun e => h91 (UInt8.toNat_inj.1 (by simpa using Int.ofNat_inj.1 e))
        by_cases h73 : c = 73
        · subst h73
          have e1 : (73 : UInt8).toNat = 73 := rfl
          go_wp2
          go_region
          all_goals
            go_wp2
            obtain ⟨d0, d1⟩ := put2 (.int .i64 (n : Int)) (.string (str [])) c0 c1 (by omega)
            simp only [Exit.jumps]
            refine bodyPost_ret (v := .tuple #[.agg #[.int .i64 (n : Int), .string (str [])], .string (str t), .bool true]) (by simp [results, Tryd.results34, go_sem, d0, d1]) rfl ⟨?_, ((hO.setCell (.inr (by simp)) _).setCell (.inr (by simp)) _).drew⟩
            have hq : firstP 0 l = some (((n : Int), []), t) := by
              rw [← HR.out]
              simp [firstP, hn8]
            simp [firstR, hq, tyV]
        have k73 : ¬ ((c.toNat : Int) = 73) := fun e => h73 (UInt8.toNat_inj.1 (by simpa using Int.ofNat_inj.1 e))
        by_cases h76 : c = 76
        · subst h76
          have e1 : (76 : UInt8).toNat = 76 := rfl
          go_wp2
          apply wp_goto
          refine ⟨⟨n, t, _, _, _, _, _, _, _, _, _, _, _, _, _, _, _, _, _, _, _, _, _, _, _, _, _, _, _, _, _, _, _, _, _, _, _, _, _, _, _, _, _, _, _, _, _, _, _, rfl, HT.out, hO, ?_, by omega, ?_⟩, ?_⟩
          · rw [← HR.out]
            simp [firstP, hn8]
          · simpa using hlen
          · show 1 < 2 + _
            omega
        have k76 : ¬ ((c.toNat : Int) = 76) := fun e => h76 (UInt8.toNat_inj.1 (by simpa using Int.ofNat_inj.1 e))
        go_wp2
        apply wp_goto
        refine ⟨⟨((n : Int), []), _, _, _, _, _, _, _, _, _, _, _, _, _, _, _, _, _, _, _, _, _, _, _, _, _, _, _, _, _, _, _, _, _, _, _, _, _, _, _, _, _, _, _, _, _, _, _, _, _, _, rfl, HT.out, hO, ?_⟩, ?_⟩
        · rw [← HR.out]
          simp [firstP, h91, h73, h76]
        · show 0 < 2 + _
          omega
    ·
      obtain ⟨n, l', u1, u5, u6, u7, u8, u9, u10, u11, u12, u13, u14, u15, u16, u17, u18, u19, u20, u21, u22, u23, u24, u25, u26, u27, u28, u29, u30, u31, u32, u33, u34, u35, u36, u37, u38, u39, u40, u41, u42, u43, u44, u45, u46, u47, u48, u49, u50, rfl, hT, hO, hR, hn, hlen⟩ := hJ
      refine ⟨_, rfl, ?_⟩
      have HT := hid hT
      obtain ⟨c0, c1, f0, f1⟩ := hT
      have HR := hid hR
      clear hR
      have HI := hid (index_any (76 :: l') 59 w')
      have hix : Lib.indexByte (76 :: l') 59 = if l'.dropWhile (· != 59) = [] then -1 else (((l'.takeWhile (· != 59)).length : Int) + 1) := by
        unfold Lib.indexByte
        rw [index_semi]
        by_cases hz : l'.dropWhile (· != 59) = []
        · rw [if_pos hz, if_pos hz]
          rfl
        · rw [if_neg hz, if_neg hz]
          have : (((l'.takeWhile (· != 59)).length : Int) == -1) = false := by rw [beq_eq_false_iff_ne]; omega
          rw [this]
          rfl
      have hwl := while_le l'
      have htw := take_while l'
      have hdw := drop_while l'
      rw [hix] at HI
      by_cases hz : l'.dropWhile (· != 59) = []
      · rw [if_pos hz] at HI
        go_wp2_with (go_at_call 45; refine HI.out.mono ?_; rintro e w2 ⟨rfl, rfl⟩)
        apply wp_goto
        refine ⟨⟨((n : Int), []), _, _, _, _, _, _, _, _, _, _, _, _, _, _, _, _, _, _, _, _, _, _, _, _, _, _, _, _, _, _, _, _, _, _, _, _, _, _, _, _, _, _, _, _, _, _, _, _, _, _, rfl, HT.out, hO, ?_⟩, ?_⟩
        · rw [← HR.out]
          simp only [classP, hz]
          simp
        · exact Nat.one_pos
      · rw [if_neg hz] at HI
        have hzl : 0 < (l'.dropWhile (· != 59)).length := List.length_pos_iff.2 hz
        have hk1 := run_part (76 :: l') 1 ((l'.takeWhile (· != 59)).length + 1) (by omega) (by simp; omega)
        have hk2 := run_from (76 :: l') ((l'.takeWhile (· != 59)).length + 2) (by simp; omega)
        have e1 : (76 :: l').drop ((l'.takeWhile (· != 59)).length + 2) = (l'.dropWhile (· != 59)).drop 1 := by
          rw [← hdw, List.drop_drop]
          rfl
        have HN := hid (name_any (l'.takeWhile (· != 59)) (by omega) w')
        have HC : Hid (nameOK (l'.takeWhile (· != 59)) = false → classP n l' = none) := fun h => by simp [classP, h]
        have HD : Hid (nameOK (l'.takeWhile (· != 59)) = true → classP n l' = some (((n : Int), l'.takeWhile (· != 59)), (l'.dropWhile (· != 59)).drop 1)) := fun h => by simp [classP, h, hz]
        rw [e1] at hk2
        rw [List.drop_one, List.tail_cons, Nat.add_sub_cancel, htw] at hk1
        clear htw hdw e1 hix
        generalize (l'.dropWhile (· != 59)) = R at *
        generalize (l'.takeWhile (· != 59)) = T at *
        have g0 : ¬ ((T.length : Int) + 1 < 0) := by omega
        simp only [Int.natCast_add, Int.cast_ofNat_Int] at hk1 hk2
        cases hN : nameOK T with
        | false =>
          rw [hN] at HN
          go_wp2_with (first | (go_at_call 45; refine HI.out.mono ?_; rintro e w2 ⟨rfl, rfl⟩) | (go_at_call 39; refine HN.out.mono ?_; rintro e w2 ⟨rfl, rfl⟩))
          apply wp_goto
          refine ⟨⟨((n : Int), []), _, _, _, _, _, _, _, _, _, _, _, _, _, _, _, _, _, _, _, _, _, _, _, _, _, _, _, _, _, _, _, _, _, _, _, _, _, _, _, _, _, _, _, _, _, _, _, _, _, _, rfl, HT.out, hO, ?_⟩, ?_⟩
          · rw [← HR.out]
            exact HC.out hN
          · exact Nat.one_pos
        | true =>
          rw [hN] at HN
          go_wp2_with (first | (go_at_call 45; refine HI.out.mono ?_; rintro e w2 ⟨rfl, rfl⟩) | (go_at_call 39; refine HN.out.mono ?_; rintro e w2 ⟨rfl, rfl⟩))
          have hk3 := hk2
          rw [show (T.length : Int) + 2 = (T.length : Int) + 1 + 1 by omega] at hk3
          go_region
          all_goals
            go_wp2
            have z0 : (w2.setCell ⟨w.heap.size, 1, none⟩ (.string (str T))).cell? ⟨w.heap.size, 0, none⟩ = some (.int .i64 (n : Int)) := by rw [cell_setCell_ne _ _ (by simp)]; exact c0
            have z1 : (w2.setCell ⟨w.heap.size, 1, none⟩ (.string (str T))).cell? ⟨w.heap.size, 1, none⟩ = some (.string (str T)) := cell_setCell_same _ _ c1
            obtain ⟨d0, d1⟩ := put2 (.int .i64 (n : Int)) (.string (str T)) z0 z1 (by omega)
            simp only [Exit.jumps]
            refine bodyPost_ret (v := .tuple #[.agg #[.int .i64 (n : Int), .string (str T)], .string (str (R.drop 1)), .bool true]) (by simp [results, Tryd.results34, go_sem, d0, d1]) rfl ⟨?_, (((hO.setCell (.inr (by simp)) _).setCell (.inr (by simp)) _).setCell (.inr (by simp)) _).drew⟩
            have hq : firstP 0 l = some (((n : Int), T), R.drop 1) := by
              rw [← HR.out]
              exact HD.out hN
            simp [firstR, hq, tyV]
    · exact hJ.elim
  · intro hj
    go_wp2
    apply wp_label
    rename_i hK
    refine hK _ _ (hj 1 _ _ _ rfl ⟨0, l, _, _, _, _, _, _, _, _, _, _, _, _, _, _, _, _, _, _, _, _, _, _, _, _, _, _, _, _, _, _, _, _, _, _, _, _, _, _, _, _, _, _, _, _, _, _, _, rfl, ⟨by simp, by simp; rfl, by simp, by simp⟩, (Only.refl [] w).alloc _, rfl, by omega, Nat.le_refl _⟩)

end Go.Proofs.YtemjhlhioeopnabDoor
