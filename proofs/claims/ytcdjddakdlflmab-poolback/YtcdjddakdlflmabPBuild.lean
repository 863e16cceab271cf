/-
  The contracts of a builder's calls, of New and Pool. What is begun with has less than 10000 entries.
-/
import Derived.Test.YtcdjddakdlflmabPFit
import Derived.Test.YtcdjddakdlflmabQPlain
import Derived.Test.YtcdjddakdlflmabPReads
namespace Go.Proofs.Ytcdjddakdlflmab
open Go.RowKit

theorem eql_nilE (st : TypeId) (hst : Try.prog.underlying st = some (.slice 43)) (ao : Option Addr) (n c : Nat) (w : World) : (binOp .eql st (.slice ao n c) (.slice none 0 0)).run Try.prog w = .ok (.bool ao.isNone) w := Lib.run_eql_slice_nil w st 43 ao n c 0 0 hst

theorem owe_made (w : World) : OwE (w.alloc (.cells #[] 43)) w.heap.size (.slice (some ⟨w.heap.size, 0, none⟩) ([] : List En).length 0) [] := World.ownsRow_made w #[] 0 (Nat.le_refl _) (by decide) rfl

set_option maxHeartbeats 400000 in
theorem cloneE_any {w : World} {ao : Option Addr} {l : List En} {cap d : Nat} (hb : ES w ao l d) (hn : ao = none → cap = 0) (hsz : l.length < 1000000) :
    Calls Try.prog 14 #[.slice ao l.length cap] w fun e w' => ∃ ao' cap', e = .returned (.slice ao' l.length cap') ∧ OwE w' w.heap.size (.slice ao' l.length cap') l ∧ Only [] w w' := by
  cases ao with
  | none =>
    have := hb.none_nil
    subst this
    have := hn rfl
    subst this
    have k0 := eql_nilE 37 Try.underlying37 none 0 0
    go_enter Try.func14, Try.ntmps14
    go_wp2
    go_ret
    exact ⟨none, 0, rfl, World.ownsRow_nil _ _ _ _, Only.refl _ _⟩
  | some a =>
    have k0 := eql_nilE 37 Try.underlying37 (some a) l.length cap
    go_enter Try.func14, Try.ntmps14
    go_wp2_with (at_builtin; refine wpList_append_entries rfl (.tmp 5) (.tmp 6) Try.underlying37 rfl rfl rfl (owe_made w) (hb.only ((Only.refl [] w).alloc _) (by simp)) (by simp) (by simp; omega) (by simp) ?_)
    intro ao' cap' w' hown hgrow _ _ _
    go_wp2
    go_ret
    exact ⟨ao', cap', rfl, hown, ((Only.refl [] w).alloc _).trans (Only.of_grown hgrow) (by simp [Value.ownBlock])⟩

set_option maxHeartbeats 400000 in
theorem cloneL_any {w : World} {ao : Option Addr} {l : List En} {cap d : Nat} (hb : ES w ao l d) (hn : ao = none → cap = 0) (hsz : l.length < 1000000) :
    Calls Try.prog 19 #[.slice ao l.length cap] w fun e w' => ∃ ao' cap', e = .returned (.slice ao' l.length cap') ∧ OwE w' w.heap.size (.slice ao' l.length cap') l ∧ Only [] w w' := by
  cases ao with
  | none =>
    have := hb.none_nil
    subst this
    have := hn rfl
    subst this
    have k0 := eql_nilE 48 Try.underlying48 none 0 0
    go_enter Try.func19, Try.ntmps19
    go_wp2
    go_ret
    exact ⟨none, 0, rfl, World.ownsRow_nil _ _ _ _, Only.refl _ _⟩
  | some a =>
    have k0 := eql_nilE 48 Try.underlying48 (some a) l.length cap
    go_enter Try.func19, Try.ntmps19
    go_wp2_with (at_builtin; refine wpList_append_entries rfl (.tmp 5) (.tmp 6) Try.underlying48 rfl rfl rfl (owe_made w) (hb.only ((Only.refl [] w).alloc _) (by simp)) (by simp) (by simp; omega) (by simp) ?_)
    intro ao' cap' w' hown hgrow _ _ _
    go_wp2
    go_ret
    exact ⟨ao', cap', rfl, hown, ((Only.refl [] w).alloc _).trans (Only.of_grown hgrow) (by simp [Value.ownBlock])⟩

set_option maxHeartbeats 400000 in
set_option maxRecDepth 100000 in
theorem pool_any {w : World} {b : Nat} {R : Option Nat} {l : List En} (hB : Bd w b R l) (hl : l.length < 1000000) :
    Calls Try.prog 8 #[.pointer (some ⟨b, 0, none⟩)] w fun r w' => ∃ ao' cap', r = .returned (.slice ao' l.length cap') ∧ OwE w' w.heap.size (.slice ao' l.length cap') l ∧ Only [] w w' := by
  obtain ⟨ao, cap, hc, how, hR⟩ := hB.ex
  obtain ⟨hE, _, _, hnn, _⟩ := ES.of_owns how
  have HK := hid (cloneL_any (cap := cap) hE hnn hl)
  clear hE hnn how hR hB
  go_enter Try.func8, Try.ntmps8
  go_wp2_with fail
  refine HK.out.mono ?_
  rintro e w1 ⟨ao', cap', rfl, hown, ho1⟩
  replace hown := hid hown
  go_wp2
  go_ret
  exact ⟨ao', cap', rfl, hown.out, ho1⟩

/-- What a builder begins with. -/
def newE (l : List En) : List En := if (checkE l).2 = 0 then l else []

/-- What New makes. -/
def NewPost (l : List En) (w : World) (r : Ending) (w' : World) : Prop := ∃ b R, r = .returned (.pointer (some ⟨b, 0, none⟩)) ∧ w.heap.size ≤ b ∧ Bd w' b R (newE l) ∧ (∀ g, R = some g → w.heap.size ≤ g) ∧ Only [] w w'

theorem bd_new (w : World) (ao : Option Addr) (cap : Nat) (l : List En) (u : TypeId) (hown : OwE w 0 (.slice ao l.length cap) l) : Bd (w.alloc (.cells #[.slice ao l.length cap] u)) w.heap.size (ao.map (·.block)) l := by
  refine ⟨⟨ao, cap, by rw [cell_new]; rfl, owe_only hown ((Only.refl [] w).alloc _) (by simp), rfl⟩, frozen_new _ _ _ _, ?_⟩
  cases ao with
  | none => simp
  | some a =>
    have := ((ES.of_owns hown).2.2.2.2 a rfl).2.1
    simp
    omega

set_option maxHeartbeats 400000 in
set_option maxRecDepth 100000 in
theorem new_any {w : World} {ao : Option Addr} {l : List En} {d cap : Nat} (hE : ES w ao l d) (hn : ao = none → cap = 0) (hl : l.length ≤ 9223372036854775807) (hA : ∀ e ∈ l, e.2.1.length ≤ 9223372036854775807) :
    Calls Try.prog 6 #[.slice ao l.length cap] w fun r w' => NewPost l w r w' := by
  have HC := pcheck_any (cap := cap) hE hl hA
  have hne : newE l = if (checkE l).2 = 0 then l else [] := rfl
  have hsm : (checkE l).2 = 0 → l.length ≤ 4096 := by
    intro h
    unfold checkE at h
    split at h
    · cases h
    · omega
  generalize checkE l = X at *
  obtain ⟨xi, xe⟩ := X
  simp only at *
  replace HC := hid HC
  replace hne := hid hne
  by_cases hx : xe = 0
  · subst hx
    have hs := hsm rfl
    clear hsm
    have HK := fun W (hW : Only [] w W) => cloneE_any (cap := cap) (hE.only hW (by simp)) hn (by omega)
    replace HK := hid HK
    clear hE hA hn
    go_enter Try.func6, Try.ntmps6
    go_wp2_with fail
    refine HC.out.mono ?_
    rintro e w1 ⟨rfl, ho1⟩
    replace HK := hid (HK.out w1 ho1)
    go_wp2_with fail
    refine HK.out.mono ?_
    rintro e w2 ⟨ao', cap', rfl, hown, ho2⟩
    have hz := ho1.size
    have hb := hid (bd_new w2 ao' cap' l 50 (owe_mono hown (Nat.zero_le _)))
    have hr : Hid (∀ g, ao'.map (·.block) = some g → w.heap.size ≤ g) := by
      intro g hg
      cases ao' with
      | none => cases hg
      | some a =>
        simp at hg
        subst hg
        have := ((ES.of_owns hown).2.2.2.2 a rfl).1
        omega
    have hz2 := ho2.size
    have o2 := hid (ho1.next ho2 (by simp))
    clear hown
    go_wp2
    go_ret
    refine ⟨_, _, rfl, by omega, ?_, hr.out, o2.out.alloc _⟩
    rw [hne.out]
    exact hb.out
  · have g3 : (xe == 0) = false := by simpa using hx
    simp only [hx, if_false] at hne
    clear hsm hx hE hA
    go_enter Try.func6, Try.ntmps6
    go_wp2_with fail
    refine HC.out.mono ?_
    rintro e w1 ⟨rfl, ho1⟩
    have hz := ho1.size
    have hb := hid (bd_new w1 none 0 [] 50 (owe_nil _ _))
    go_wp2
    go_ret
    refine ⟨_, none, rfl, by omega, ?_, by simp, ho1.alloc _⟩
    rw [hne.out]
    exact hb.out

/-- What a builder's calls do to its list, and answer. -/
def textB (l : List En) (s : List UInt8) : List En × Int × Int := if longE s = 0 then fitE l.length (putE l (txE s)) else (l, 0, longE s)
def numberB (l : List En) (n : Int) : List En × Int × Int := fitE l.length (putE l (2, [], n, 0, 0, 0))
def classB (l : List En) (s : List UInt8) : List En × Int × Int := if nameOK s = true then fitE l.length (pClass l s) else (l, 0, 14)
def pType (l : List En) (s : List UInt8) : List En × Int := putE (putE l (txE s)).1 (4, [], 0, (putE l (txE s)).2, 0, 0)
def typeB (l : List En) (t : Ty) : List En × Int × Int := if tyCheck t = 0 then fitE l.length (pType l (ttR t)) else (l, 0, tyCheck t)
def fieldB (l : List En) (c n : List UInt8) (t : Ty) : List En × Int × Int := if nameOK c = true ∧ nameOK n = true then (if tyCheck t = 0 then fitE l.length (pMember l 5 c n (ttR t)) else (l, 0, tyCheck t)) else (l, 0, 14)
def methodB (l : List En) (c n : List UInt8) (g : List Ty × Bool × Ty) : List En × Int × Int :=
  if nameOK c = true ∧ methodOK n = true then
    (if sigCheck g.1 g.2.1 g.2.2 = 0 then (if longE (stR g.1 g.2.1 g.2.2) = 0 then fitE l.length (pMember l 6 c n (stR g.1 g.2.1 g.2.2)) else (l, 0, longE (stR g.1 g.2.1 g.2.2))) else (l, 0, sigCheck g.1 g.2.1 g.2.2))
  else (l, 0, 14)

theorem str_nil : str [] = ⟨#[]⟩ := rfl

/-- What a builder's call does. -/
def BPost (x : List En × Int × Int) (w : World) (b : Nat) (R : Option Nat) (r : Ending) (w' : World) : Prop := r = .returned (.tuple #[.int .i64 x.2.1, .int .i64 x.2.2]) ∧ ∃ R', Bt w w' b R R' x.1

set_option maxHeartbeats 400000 in
set_option maxRecDepth 100000 in
theorem btext_any {w : World} {b : Nat} {R : Option Nat} {l : List En} (hB : Bd w b R l) (hl : l.length < 10000) (s : List UInt8) (hs : s.length ≤ 9223372036854775807) :
    Calls Try.prog 15 #[.pointer (some ⟨b, 0, none⟩), .string (str s)] w fun r w' => BPost (textB l s) w b R r w' := by
  have HL := hid (tooLong_any s hs w)
  have hlen := putE_len l (txE s)
  have HP := fun W (hW : Only [] w W) => putText_any (hB.only hW (by simp) (by simp)) (by omega) s
  have hx : textB l s = if longE s = 0 then fitE l.length (putE l (txE s)) else (l, 0, longE s) := rfl
  obtain ⟨ao, cap, hc, how, hR⟩ := hB.ex
  generalize putE l (txE s) = X at *
  obtain ⟨xl, xi⟩ := X
  simp only at *
  generalize textB l s = Y at *
  replace HP := hid HP
  clear how hR
  by_cases h : longE s = 0
  · rw [h] at HL hx
    simp only [if_true] at hx
    subst hx
    clear h hB
    go_enter Try.func15, Try.ntmps15
    go_wp2_with (first | (go_at_call 33; refine HL.out.mono ?_; rintro e w' ⟨rfl, rfl⟩) | fail)
    go_wp2_with fail
    go_region_with (first | (go_at_call 34; with_reducible refine (HP.out _ (Only.refl [] _).drew).mono ?_; rintro e w2 ⟨rfl, R2, hb2⟩; have HF := hid (fit_any hb2.bd l.length (by omega) (by omega) xi)) | (go_at_call 29; with_reducible refine HF.out.mono ?_; rintro e w3 ⟨rfl, R3, hb3⟩))
    all_goals
      go_wp2
      go_ret2
      exact ⟨rfl, R3, (Bt.first (Only.refl [] _).drew (hb2.trans hb3))⟩
  · simp only [h, if_false] at hx
    generalize longE s = c at *
    have g3 : (c == 0) = false := by simpa using h
    subst hx
    clear h
    replace hB := hid hB
    go_enter Try.func15, Try.ntmps15
    go_wp2_with (go_at_call 33; refine HL.out.mono ?_; rintro e w' ⟨rfl, rfl⟩)
    go_ret2
    exact ⟨rfl, R, Bt.refl hB.out⟩

set_option maxHeartbeats 400000 in
set_option maxRecDepth 100000 in
theorem bnumber_any {w : World} {b : Nat} {R : Option Nat} {l : List En} (hB : Bd w b R l) (hl : l.length < 10000) (n : Int) :
    Calls Try.prog 16 #[.pointer (some ⟨b, 0, none⟩), .int .i64 n] w fun r w' => BPost (numberB l n) w b R r w' := by
  have hlen := putE_len l (2, [], n, 0, 0, 0)
  have HP := fun W (hW : Only [] w W) => put_any (hB.only hW (by simp) (by simp)) (by omega) (2, [], n, 0, 0, 0)
  have hx : numberB l n = fitE l.length (putE l (2, [], n, 0, 0, 0)) := rfl
  obtain ⟨ao, cap, hc, how, hR⟩ := hB.ex
  generalize putE l (2, [], n, 0, 0, 0) = X at *
  obtain ⟨xl, xi⟩ := X
  simp only [enV, str_nil] at *
  generalize numberB l n = Y at *
  replace HP := hid HP
  clear how hR
  · subst hx
    clear hB
    go_enter Try.func16, Try.ntmps16
    go_wp2_with fail
    go_region_with (first | (go_at_call 35; with_reducible refine (HP.out _ (Only.refl [] _).drew).mono ?_; rintro e w2 ⟨rfl, R2, hb2⟩; have HF := hid (fit_any hb2.bd l.length (by omega) (by omega) xi)) | (go_at_call 29; with_reducible refine HF.out.mono ?_; rintro e w3 ⟨rfl, R3, hb3⟩))
    all_goals
      go_wp2
      go_ret2
      exact ⟨rfl, R3, (Bt.first (Only.refl [] _).drew (hb2.trans hb3))⟩

set_option maxHeartbeats 400000 in
set_option maxRecDepth 100000 in
theorem bclass_any {w : World} {b : Nat} {R : Option Nat} {l : List En} (hB : Bd w b R l) (hl : l.length < 10000) (s : List UInt8) (hs : s.length ≤ 9223372036854775807) :
    Calls Try.prog 12 #[.pointer (some ⟨b, 0, none⟩), .string (str s)] w fun r w' => BPost (classB l s) w b R r w' := by
  have HL := name_any s hs w
  have hlen := pClass_len l s
  have HP := fun W (hW : Only [] w W) => putClass_any (hB.only hW (by simp) (by simp)) (by omega) s
  have hx : classB l s = if nameOK s = true then fitE l.length (pClass l s) else (l, 0, 14) := rfl
  obtain ⟨ao, cap, hc, how, hR⟩ := hB.ex
  generalize pClass l s = X at *
  obtain ⟨xl, xi⟩ := X
  simp only at *
  generalize classB l s = Y at *
  replace HP := hid HP
  clear how hR
  cases h : nameOK s with
  | true =>
    rw [h] at HL hx
    simp only [if_true] at hx
    subst hx
    clear h hB
    replace HL := hid HL
    go_enter Try.func12, Try.ntmps12
    go_wp2_with (first | (go_at_call 28; refine HL.out.mono ?_; rintro e w' ⟨rfl, rfl⟩) | fail)
    go_wp2_with fail
    go_region_with (first | (go_at_call 30; with_reducible refine (HP.out _ (Only.refl [] _).drew).mono ?_; rintro e w2 ⟨rfl, R2, hb2⟩; have HF := hid (fit_any hb2.bd l.length (by omega) (by omega) xi)) | (go_at_call 29; with_reducible refine HF.out.mono ?_; rintro e w3 ⟨rfl, R3, hb3⟩))
    all_goals
      go_wp2
      go_ret2
      exact ⟨rfl, R3, (Bt.first (Only.refl [] _).drew (hb2.trans hb3))⟩
  | false =>
    rw [h] at HL hx
    simp only [Bool.false_eq_true, if_false] at hx
    subst hx
    clear h
    replace HL := hid HL
    replace hB := hid hB
    go_enter Try.func12, Try.ntmps12
    go_wp2_with (go_at_call 28; refine HL.out.mono ?_; rintro e w' ⟨rfl, rfl⟩)
    go_ret2
    exact ⟨rfl, R, Bt.refl hB.out⟩

end Go.Proofs.Ytcdjddakdlflmab
