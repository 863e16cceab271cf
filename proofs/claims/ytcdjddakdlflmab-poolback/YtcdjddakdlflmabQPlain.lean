/-
  Texts and what is read of them: a type's, a signature's text is read as it; what is read is written as the text. No conditions.
-/
import Derived.Test.YtcdjddakdlflmabDSText
import Derived.Test.YtcdjddakdlflmabDApp
namespace Go.Proofs.Ytcdjddakdlflmab
open Go.RowKit

/-- Are two signatures the same? -/
def sameR (a b : List Ty × Bool × Ty) : Bool := decide (a = b)

theorem sig_new (w : World) (v : Value) (void : Bool) (d : Int) (n : List UInt8) : SigAt (w.alloc (.cells #[v, .bool void, .int .i64 d, .string (str n)] 34)) w.heap.size v void (d, n) :=
  ⟨by rw [cell_new]; rfl, by rw [cell_new]; rfl, by rw [cell_new]; rfl, by rw [cell_new]; rfl, frozen_new _ _ _ _, frozen_new _ _ _ _, frozen_new _ _ _ _, frozen_new _ _ _ _⟩

/-- A text that is a type's of no dimensions, named so. -/
structure One (s nm : List UInt8) : Prop where
  read : ∀ n r, n ≤ 8 → firstP n (s ++ r) = some (((n : Int), nm), r)
  many : ∀ n r, 8 < n → firstP n (s ++ r) = none
  ne : hasOne s 41 = false
  pos : 0 < s.length
  len : s.length ≤ 34

theorem one_number : One [73] [] := by
  refine ⟨fun n r h => ?_, fun n r h => ?_, rfl, by simp, by simp⟩
  · simp [firstP]
    omega
  · simp [firstP, h]

theorem sign_semi {c : UInt8} (h : sign c = true) : (c != 59) = true := by
  rw [bne_iff_ne]
  intro e
  subst e
  revert h
  decide

theorem one_class (n : List UInt8) (h : nameOK n = true) : One (76 :: (n ++ [59])) n := by
  have ha : n.all sign = true := by
    unfold nameOK at h
    simp only [Bool.and_eq_true] at h
    exact h.2
  have hl : n.length ≤ 32 := by
    unfold nameOK at h
    simp only [Bool.and_eq_true, decide_eq_true_eq] at h
    exact h.1.1.2
  have hc : ∀ c ∈ n, (c != 59) = true := fun c hc => sign_semi (List.all_eq_true.1 ha c hc)
  have ht : ∀ r, (n ++ 59 :: r).takeWhile (· != 59) = n := by
    intro r
    rw [List.takeWhile_append_of_pos (by simpa using hc)]
    simp
  have hd : ∀ r, (n ++ 59 :: r).dropWhile (· != 59) = 59 :: r := by
    intro r
    rw [List.dropWhile_append_of_pos (by simpa using hc)]
    simp
  refine ⟨fun k r hk => ?_, fun k r hk => ?_, rfl, by simp, by simp; omega⟩
  · have e : 76 :: (n ++ [59]) ++ r = 76 :: (n ++ 59 :: r) := by simp
    rw [e]
    simp only [firstP]
    rw [if_neg (by omega), if_neg (by decide), if_neg (by decide), if_pos trivial]
    unfold classP
    rw [ht, hd, h]
    simp
  · simp [firstP, hk]

theorem one_dims {s nm : List UInt8} (h : One s nm) (d k : Nat) (r : List UInt8) : firstP k (List.replicate d 91 ++ s ++ r) = if k + d ≤ 8 then some (((k + d : Nat) : Int), nm, r) |>.map (fun x => ((x.1, x.2.1), x.2.2)) else none := by
  induction d generalizing k with
  | zero =>
    by_cases hk : k ≤ 8
    · simp [h.read k r hk, hk]
    · simp [h.many k r (by omega), hk]
  | succ d ih =>
    rw [List.replicate_succ, List.cons_append, List.cons_append, firstP]
    by_cases hk : 8 < k
    · rw [if_pos hk, if_neg (by omega)]
    · rw [if_neg hk, if_pos rfl, ih (k + 1)]
      have e : k + 1 + d = k + (d + 1) := by omega
      rw [e]

theorem has_append {s : List UInt8} (hp : 0 < s.length) (hs : hasOne s 41 = false) (r : List UInt8) : hasOne (s ++ r) 41 = false := by
  cases s with
  | nil => simp at hp
  | cons a t => exact hs

theorem check_name {t : Ty} (h : tyCheck t = 0) : t.2 = [] ∨ nameOK t.2 = true := by
  obtain ⟨d, n⟩ := t
  simp only [tyCheck] at h
  split at h
  · omega
  · split at h
    · omega
    · rename_i h4
      by_cases hz : n = []
      · exact .inl hz
      · right
        cases hn : nameOK n with
        | true => rfl
        | false => exact absurd ⟨hz, hn⟩ h4

theorem check_of {d : Int} {n : List UInt8} (h0 : 0 ≤ d) (h8 : d ≤ 8) (hn : n = [] ∨ nameOK n = true) : tyCheck (d, n) = 0 := by
  simp only [tyCheck]
  rw [if_neg (by omega), if_neg]
  rintro ⟨h1, h2⟩
  rcases hn with h | h
  · exact h1 h
  · rw [h] at h2
    cases h2

theorem name_ne {n : List UInt8} (h : nameOK n = true) : n ≠ [] := by
  intro e
  subst e
  revert h
  decide

theorem one_of {t : Ty} (h : tyCheck t = 0) : One (if t.2 = [] then [73] else 76 :: (t.2 ++ [59])) t.2 := by
  rcases check_name h with e | e
  · rw [if_pos e, e]
    exact one_number
  · rw [if_neg (name_ne e)]
    exact one_class t.2 e

theorem first_text {t : Ty} (h : tyCheck t = 0) (r : List UInt8) : firstP 0 (tyText t ++ r) = some (t, r) := by
  obtain ⟨d, n⟩ := t
  have hb := check_bounds h
  have := one_dims (one_of h) d.toNat 0 r
  unfold tyText
  rw [this, if_pos (by omega)]
  simp
  omega

theorem text_has {t : Ty} (h : tyCheck t = 0) (r : List UInt8) : hasOne (tyText t ++ r) 41 = false := by
  have ho := one_of h
  unfold tyText
  cases t.1.toNat with
  | zero =>
    rw [List.replicate_zero, List.nil_append]
    exact has_append ho.pos ho.ne r
  | succ k =>
    rw [List.replicate_succ]
    rfl

theorem text_pos {t : Ty} (h : tyCheck t = 0) : 0 < (tyText t).length := by
  have ho := one_of h
  unfold tyText
  rw [List.length_append]
  have := ho.pos
  omega

theorem texts_len (l : List Ty) (h : ∀ t ∈ l, tyCheck t = 0) : l.length ≤ (tyTexts l).length := by
  induction l with
  | nil => simp
  | cons t l ih =>
    have h1 := text_pos (h t (by simp))
    have h2 := ih fun x hx => h x (by simp [hx])
    simp [tyTexts]
    omega

theorem params_text (l : List Ty) (h : ∀ t ∈ l, tyCheck t = 0) (f : Nat) (hf : l.length < f) (r : List UInt8) : paramsP f (tyTexts l ++ 41 :: r) = some (l, r) := by
  induction l generalizing f with
  | nil =>
    obtain ⟨f, rfl⟩ : ∃ k, f = k + 1 := ⟨f - 1, by omega⟩
    rfl
  | cons t l ih =>
    obtain ⟨f, rfl⟩ : ∃ k, f = k + 1 := ⟨f - 1, by omega⟩
    have ht := h t (by simp)
    rw [tyTexts, List.append_assoc, paramsP, text_has ht, first_text ht]
    simp only [Bool.false_eq_true, if_false]
    rw [ih (fun x hx => h x (by simp [hx])) f (by simp at hf; omega)]
    rfl

theorem text_void {t : Ty} (h : tyCheck t = 0) : tyText t ≠ [86] := by
  intro e
  have := first_text h []
  rw [List.append_nil, e] at this
  simp [firstP] at this

theorem sig_text {l : List Ty} {v : Bool} {t : Ty} (h : sigCheck l v t = 0) : sigR (sigText l v t) = ((l, v, t), 0) := by
  obtain ⟨h1, h2, h3, h4⟩ := sigCheck_ok h
  have hp := params_text l h2 (sigText l v t).length (by
    have := texts_len l h2
    simp [sigText]
    omega) (if v = true then [86] else tyText t)
  have hs := sigP_of (l := sigText l v t) (all := l) (rest := if v = true then [86] else tyText t) rfl hp
  have hr : resultP (if v = true then [86] else tyText t) = some (if v = true then none else some t) := by
    cases v with
    | true => rfl
    | false =>
      have := first_text h3 []
      rw [List.append_nil] at this
      simp only [Bool.false_eq_true, if_false]
      unfold resultP
      rw [if_neg (text_void h3), this]
  rw [hr] at hs
  unfold sigR
  rw [hs]
  simp only [Option.map_some]
  rw [if_neg (by omega)]
  cases v with
  | true =>
    rw [h4 rfl]
    rfl
  | false => rfl

theorem type_text {t : Ty} (h : tyCheck t = 0) : typeR (tyText t) = (t, 0) := by
  have := first_text h []
  rw [List.append_nil] at this
  unfold typeR
  rw [this]

theorem while_split (t : List UInt8) (h : t.dropWhile (· != 59) ≠ []) : t = t.takeWhile (· != 59) ++ 59 :: (t.dropWhile (· != 59)).drop 1 := by
  have h1 := List.takeWhile_append_dropWhile (p := (· != 59)) (l := t)
  have h2 : t.dropWhile (· != 59) = 59 :: (t.dropWhile (· != 59)).drop 1 := by
    cases hd : t.dropWhile (· != 59) with
    | nil => exact absurd hd h
    | cons a s =>
      have := List.head_dropWhile_not (p := (· != (59 : UInt8))) (l := t) h
      simp [hd] at this
      simp [this]
  rw [← h2]
  exact h1.symm

theorem first_back : ∀ (l : List UInt8) (n : Nat) (t : Ty) (r : List UInt8), firstP n l = some (t, r) → (n : Int) ≤ t.1 ∧ t.1 ≤ 8 ∧ (t.2 = [] ∨ nameOK t.2 = true) ∧ l = tyText (t.1 - n, t.2) ++ r := by
  intro l
  induction l with
  | nil => intro n t r h; simp [firstP] at h
  | cons c l ih =>
    intro n t r h
    unfold firstP at h
    split at h
    · cases h
    · rename_i hn
      split at h
      · rename_i hc
        obtain ⟨h1, h2, h3, h4⟩ := ih _ _ _ h
        refine ⟨by omega, h2, h3, ?_⟩
        rw [h4, hc]
        unfold tyText
        rw [show (t.1 - (n : Int)).toNat = (t.1 - ((n + 1 : Nat) : Int)).toNat + 1 by omega, List.replicate_succ]
        rfl
      · split at h
        · rename_i hc
          simp only [Option.some.injEq, Prod.mk.injEq] at h
          obtain ⟨rfl, rfl⟩ := h
          refine ⟨by simp, by simp; omega, .inl rfl, ?_⟩
          simp [tyText, hc]
        · split at h
          · rename_i hc
            unfold classP at h
            split at h
            · cases h
            · rename_i hx
              simp only [not_or] at hx
              simp only [Option.some.injEq, Prod.mk.injEq] at h
              obtain ⟨rfl, rfl⟩ := h
              have hk : nameOK (l.takeWhile (· != 59)) = true := by
                cases hq : nameOK (l.takeWhile (· != 59)) with
                | true => rfl
                | false => exact absurd hq hx.2
              refine ⟨by simp, by simp; omega, .inr hk, ?_⟩
              have hs := while_split l hx.1
              unfold tyText
              simp only [Int.sub_self, Int.toNat_zero, List.replicate_zero, List.nil_append]
              rw [if_neg (name_ne hk), hc]
              simp only [List.cons_append, List.append_assoc, List.nil_append]
              rw [← hs]
          · cases h

theorem first_read {l : List UInt8} {t : Ty} {r : List UInt8} (h : firstP 0 l = some (t, r)) : tyCheck t = 0 ∧ l = tyText t ++ r := by
  obtain ⟨h1, h2, h3, h4⟩ := first_back l 0 t r h
  obtain ⟨d, n⟩ := t
  refine ⟨check_of (by simpa using h1) h2 h3, ?_⟩
  simpa using h4

theorem type_read (s : List UInt8) (h : (typeR s).2 = 0) : tyCheck (typeR s).1 = 0 ∧ tyText (typeR s).1 = s := by
  unfold typeR at h ⊢
  split at h
  · rename_i t hf
    obtain ⟨h1, h2⟩ := first_read hf
    simp only []
    rw [List.append_nil] at h2
    exact ⟨h1, h2.symm⟩
  · simp at h

theorem params_read : ∀ (f : Nat) (l : List UInt8) (ps : List Ty) (r : List UInt8), paramsP f l = some (ps, r) → (∀ t ∈ ps, tyCheck t = 0) ∧ l = tyTexts ps ++ 41 :: r := by
  intro f
  induction f with
  | zero => intro l ps r h; simp [paramsP] at h
  | succ f ih =>
    intro l ps r h
    unfold paramsP at h
    split at h
    · rename_i hh
      simp only [Option.some.injEq, Prod.mk.injEq] at h
      obtain ⟨rfl, rfl⟩ := h
      refine ⟨by simp, ?_⟩
      cases l with
      | nil => simp [hasOne] at hh
      | cons a t =>
        simp [hasOne] at hh
        rw [hh]
        rfl
    · split at h
      · cases h
      · rename_i t q hf
        obtain ⟨h1, h2⟩ := first_read hf
        cases hp : paramsP f q with
        | none => rw [hp] at h; cases h
        | some x =>
          obtain ⟨ps', r'⟩ := x
          rw [hp] at h
          simp only [Option.map_some, Option.some.injEq, Prod.mk.injEq] at h
          obtain ⟨rfl, rfl⟩ := h
          obtain ⟨h3, h4⟩ := ih q ps' r' hp
          refine ⟨fun x hx => ?_, ?_⟩
          · simp at hx
            rcases hx with rfl | hx
            · exact h1
            · exact h3 x hx
          · rw [h2, h4, tyTexts, List.append_assoc]

theorem sig_read (s : List UInt8) (h : (sigR s).2 = 0) : sigCheck (sigR s).1.1 (sigR s).1.2.1 (sigR s).1.2.2 = 0 ∧ sigText (sigR s).1.1 (sigR s).1.2.1 (sigR s).1.2.2 = s := by
  unfold sigR at h ⊢
  cases hp : sigP s with
  | none => rw [hp] at h; simp at h
  | some x =>
    obtain ⟨ps, r⟩ := x
    rw [hp] at h
    simp only [] at h ⊢
    split at h
    · simp at h
    · rename_i h16
      rw [if_neg h16]
      unfold sigP at hp
      split at hp
      · rename_i hh
        cases hq : paramsP s.length (s.drop 1) with
        | none => rw [hq] at hp; cases hp
        | some y =>
          obtain ⟨ps', q⟩ := y
          rw [hq] at hp
          simp only [Option.bind_some] at hp
          cases hr : resultP q with
          | none => rw [hr] at hp; cases hp
          | some z =>
            rw [hr] at hp
            simp only [Option.map_some, Option.some.injEq, Prod.mk.injEq] at hp
            obtain ⟨rfl, rfl⟩ := hp
            obtain ⟨h1, h2⟩ := params_read _ _ _ _ hq
            have hs : s = 40 :: s.drop 1 := by
              cases s with
              | nil => simp [hasOne] at hh
              | cons a t =>
                simp [hasOne] at hh
                rw [hh]
                rfl
            unfold resultP at hr
            have hca := (checkAll_ok ps').2 h1
            split at hr
            · rename_i hv
              simp only [Option.some.injEq] at hr
              subst hr
              refine ⟨?_, ?_⟩
              · simp [sigCheck, h16, hca]
                decide
              · simp only [sigText, Option.isNone_none, if_true]
                rw [← hv, ← h2]
                exact hs.symm
            · split at hr
              · rename_i t hf
                simp only [Option.some.injEq] at hr
                subst hr
                obtain ⟨h3, h4⟩ := first_read hf
                rw [List.append_nil] at h4
                refine ⟨?_, ?_⟩
                · simp [sigCheck, h16, hca, h3]
                · simp only [sigText, Option.isNone_some, Bool.false_eq_true, if_false, Option.getD_some]
                  rw [← h4, ← h2]
                  exact hs.symm
              · cases hr
      · cases hp

theorem text_inj {l m : List Ty} {v u : Bool} {s t : Ty} (h : sigCheck l v s = 0) (k : sigCheck m u t = 0) : sameR (l, v, s) (m, u, t) = decide (sigText l v s = sigText m u t) := by
  unfold sameR
  refine decide_eq_decide.2 ⟨fun e => ?_, fun e => ?_⟩
  · simp only [Prod.mk.injEq] at e
    obtain ⟨rfl, rfl, rfl⟩ := e
    rfl
  · have h1 := sig_text h
    have h2 := sig_text k
    rw [e, h2] at h1
    simp only [Prod.mk.injEq, and_true] at h1
    simp only [Prod.mk.injEq]
    exact ⟨h1.1.symm, h1.2.1.symm, h1.2.2.symm⟩

theorem same_self (a : List Ty × Bool × Ty) : sameR a a = true := by simp [sameR]
theorem same_turn (a b : List Ty × Bool × Ty) : sameR b a = sameR a b := by
  unfold sameR
  exact decide_eq_decide.2 ⟨fun e => e.symm, fun e => e.symm⟩


end Go.Proofs.Ytcdjddakdlflmab
