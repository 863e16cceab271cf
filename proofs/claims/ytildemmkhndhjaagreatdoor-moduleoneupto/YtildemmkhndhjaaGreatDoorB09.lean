/-
  What the proof leans on, part 9 of 28. The conditions stand in each theorem.
-/
import Derived.Test.YtildemmkhndhjaaGreatDoorB02
import Derived.Laws.AppendOwnNone
import Derived.Test.YtildemmkhndhjaaGreatDoorB08
namespace Go.Proofs.YtildemmkhndhjaaGreatDoor
open Go.RowKit

/-- How much room an append asks for that grows. -/
theorem grow_le (need : Nat) : ∀ (k old : Nat), old ≤ need + need / 4 + 192 → Builtin.growBy need k old ≤ need + need / 4 + 192 := by
 intro k
 induction k with
 | zero =>
  intro old h
  exact h
 | succ k ih =>
  intro old h
  simp only [Builtin.growBy]
  split
  ·exact h
  ·exact ih _ (by omega)

theorem cap_fits {need old : Nat} (h : old < need) (hn : need ≤ 4398046511104) : Builtin.nextslicecap need old * 24 ≤ 281474976710656 := by
 have := grow_le need 4 old (by omega)
 unfold Builtin.nextslicecap
 split
 ·omega
 ·split
  ·omega
  ·omega

theorem info_typeT : ∃ i0, Tryz.prog.info? 35 = some i0 ∧ i0.zero = some (.agg #[.int .i64 0, .string ⟨#[]⟩]) ∧ i0.size = 2 ∧ i0.bytes = 24 := by
 have h := infoT
 cases hi : Tryz.prog.info? 35 with
 | none => rw [hi] at h; cases h
 | some i =>
  rw [hi] at h
  simp at h
  exact ⟨i, rfl, h.1, h.2.1, h.2.2⟩

/-- A new row that an append has made. -/
theorem own_fresh (w : World) (l : List Ty) (cap : Nat) (hc : l.length ≤ cap) (hm : cap ≤ maxLen) :
  (w.drew.alloc (.cells ((tcs l).toArray ++ Builtin.zeroCells (Value.agg #[.int .i64 0, .string ⟨#[]⟩]).cells (cap - l.length)) 35)).ownsRow w.heap.size 35 2 (.slice (some ⟨w.heap.size, 0, none⟩) l.length cap) l.length (tcs l) ∧
  w.grownBy (w.drew.alloc (.cells ((tcs l).toArray ++ Builtin.zeroCells (Value.agg #[.int .i64 0, .string ⟨#[]⟩]).cells (cap - l.length)) 35)) none := by
 refine ⟨⟨by rw [tcs_length], .inr ⟨w.heap.size, cap, _, rfl, Nat.le_refl _, Go.heap_alloc_new w.drew _, hc, hm, ?_, ?_⟩⟩, ⟨rfl, rfl, rfl, by simp, fun k hk _ => Below.heap_alloc w.drew _ k hk⟩⟩
 ·rw [Array.size_append, size_zeroCells]
  have : (Value.agg #[.int .i64 0, .string ⟨#[]⟩]).cells.size = 2 := rfl
  rw [this]
  simp [tcs_length]
  omega
 ·simp only [Array.toList_append]
  rw [← tcs_length]
  exact List.take_left

/-- append(out, l...), out the call's own. -/
theorem append_run {w : World} {B : Nat} {ao lao : Option Addr} {cap lcap d : Nat} {m l : List Ty} (ty : TypeId) (hown : Own w B (.slice ao m.length cap) m) (hb : TS w lao l d) (hl : lao = none → lcap = 0)
  (hsz : m.length + l.length ≤ 4398046511104) (hB : B ≤ w.heap.size) :
  ∃ ao' cap' w', (Builtin.append_ #[33, 33] ty #[.slice ao m.length cap, .slice lao l.length lcap]).run Tryz.prog w = .ok (.slice ao' (m ++ l).length cap') w' ∧ Own w' B (.slice ao' (m ++ l).length cap') (m ++ l) ∧
   w.grownBy w' (Value.ownBlock (.slice ao m.length cap)) ∧ (∀ a, ao' = some a → (∃ a', ao = some a' ∧ a'.block = a.block) ∨ w.heap.size ≤ a.block) ∧ (ao' = none → ao = none) := by
 obtain ⟨i0, hi, hz0, hz1, hz2⟩ := info_typeT
 have hmax : m.length + l.length ≤ maxLen := by unfold maxLen; omega
 have hml : (m ++ l).length = m.length + l.length := by simp
 cases lao with
 | none =>
  have := hb.none_nil
  subst this
  have := hl rfl
  subst this
  refine ⟨ao, cap, w, ?_, by simpa using hown, ⟨rfl, rfl, rfl, Nat.le_refl _, fun _ _ _ => rfl⟩, fun a ha => .inl ⟨a, ha, rfl⟩, fun h => h⟩
  rw [List.append_nil]
  exact run_append_owned_none (P := Tryz.prog) (w := w) B 33 ty 35 i0 2 Tryz.underlying33 hi _ m.length (tcs m) hown
 | some a =>
  have hlen : (tcs l).length = l.length * 2 := tcs_length l
  rcases hown.2 with ⟨hv, h0⟩ | ⟨g, cap', cur, hv, hbg, hg, hnc, hcm, hcs, htake⟩
  ·have hm0 : m = [] := List.eq_nil_of_length_eq_zero h0
   subst hm0
   simp at hv
   obtain ⟨rfl, rfl⟩ := hv
   by_cases hm : l.length = 0
   ·obtain ⟨v', w', hr, ho, hgr, hiff⟩ := run_append_own (P := Tryz.prog) w B 33 ty 35 i0 (.agg #[.int .i64 0, .string ⟨#[]⟩]) 2 24 Tryz.underlying33 hi hz0 hz1 hz2 rfl (by decide) _ _ _ hown a l.length lcap (tcs l) hlen hb.cells (tcs_one l) (by simpa using hmax) (by simp at hsz ⊢; omega) hB
    have := hiff.2 ⟨rfl, hm⟩
    subst this
    have hl0 : l = [] := List.eq_nil_of_length_eq_zero hm
    subst hl0
    exact ⟨none, 0, w', hr, ho, hgr, (fun a ha => by cases ha), fun _ => rfl⟩
   ·have hr := run_append_nil (P := Tryz.prog) w 33 ty 35 i0 (.agg #[.int .i64 0, .string ⟨#[]⟩]) Tryz.underlying33 hi hz0 a l.length lcap (tcs l) (by rw [hz1]; exact hlen) hb.cells (by omega) (by omega) (by rw [hz2]; omega)
    obtain ⟨q1, q2⟩ := own_fresh w l (grownCap w l.length 0 35) (grownCap_ge _ _ _ _) (grownCap_le_maxLen _ _ _ _ (by simpa using hmax))
    rw [List.nil_append]
    exact ⟨_, _, _, hr, own_mono q1 hB, ⟨q2.os, q2.tape, q2.output, q2.size, fun k hk _ => q2.block k hk (by simp)⟩, fun b hb' => .inr (by simp at hb'; rw [← hb']; exact Nat.le_refl _), fun h => by cases h⟩
  ·simp at hv
   obtain ⟨rfl, rfl⟩ := hv
   by_cases hroom : m.length + l.length ≤ cap
   ·obtain ⟨w', hr, ho, hgr⟩ := run_append_fits (P := Tryz.prog) w B 33 ty 35 i0 2 Tryz.underlying33 hi hz1 g m.length cap (tcs m) hown a l.length lcap (tcs l) hlen hb.cells (tcs_one l) hroom
    rw [← tcs_append, ← hml] at ho
    rw [← hml] at hr
    exact ⟨some ⟨g, 0, none⟩, cap, w', hr, ho, hgr, fun a ha => .inl ⟨_, rfl, by simp at ha; rw [← ha]⟩, fun h => by cases h⟩
   ·have hr := run_append_grow (P := Tryz.prog) w 33 ty 35 i0 (.agg #[.int .i64 0, .string ⟨#[]⟩]) Tryz.underlying33 hi hz0 ⟨g, 0, none⟩ m.length cap (tcs m) (by rw [hz1]; exact hown.1) (hown.cells (g := g) rfl) a l.length lcap (tcs l) (by rw [hz1]; exact hlen) hb.cells (by omega) (by omega) (by rw [hz2]; exact cap_fits (by omega) hsz)
    obtain ⟨q1, q2⟩ := own_fresh w (m ++ l) (grownCap w (m.length + l.length) cap 35) (by rw [hml]; exact grownCap_ge _ _ _ _) (grownCap_le_maxLen _ _ _ _ hmax)
    have e : (tcs (m ++ l)).toArray = (tcs m).toArray ++ (tcs l).toArray := by simp [tcs_append]
    replace q1 := own_mono q1 hB
    rw [e, hml] at q2 q1
    rw [hml]
    exact ⟨_, _, _, hr, q1, ⟨q2.os, q2.tape, q2.output, q2.size, fun k hk _ => q2.block k hk (by simp)⟩, fun b hb' => .inr (by simp at hb'; rw [← hb']; exact Nat.le_refl _), fun h => by cases h⟩

/-- The same, for the walk. -/
theorem wpList_append_types {w : World} {ops : Array Oper} {rest : List Oper} {o : Oper} {a : Act} {Q : Exit → Act → World → Prop} (hgd : o.guard = none) (s x : Operand)
  (ho : o.op = .call { callee := .builtin .append, args := #[s, x], argTypes := #[33, 33] })
  {B : Nat} {ao lao : Option Addr} {cap lcap d : Nat} {m l : List Ty} (hs : a.eval s = .slice ao m.length cap) (hx : a.eval x = .slice lao l.length lcap) (hown : Own w B (.slice ao m.length cap) m) (hb : TS w lao l d) (hl : lao = none → lcap = 0)
  (hsz : m.length + l.length ≤ 4398046511104) (hB : B ≤ w.heap.size)
  (h : ∀ ao' cap' w', Own w' B (.slice ao' (m ++ l).length cap') (m ++ l) → w.grownBy w' (Value.ownBlock (.slice ao m.length cap)) → (∀ a, ao' = some a → (∃ a', ao = some a' ∧ a'.block = a.block) ∨ w.heap.size ≤ a.block) → (ao' = none → ao = none) →
   wpList Tryz.prog ops Q rest (a.put o.dst (.slice ao' (m ++ l).length cap')) w') : wpList Tryz.prog ops Q (o :: rest) a w := by
 refine wpList_plain hgd fun K hK => ?_
 obtain ⟨ao', cap', w', hr, h1, h2, h3, h4⟩ := append_run o.type hown hb hl hsz hB
 unfold Oper.wp execOp
 simp only [ho, resolve, invoke, builtin, Sem.run_bind, Sem.run_pure, Result.andThen_ok, List.map_toArray, List.map_cons, List.map_nil, hs, hx, hr]
 exact hK _ _ (h ao' cap' w' h1 h2 h3 h4)

/-- Are two signatures the same? -/
def sameR (a b : List Ty × Bool × Ty) : Bool := decide (a = b)

theorem sig_new (w : World) (v : Value) (void : Bool) (d : Int) (n : List UInt8) : SigAt (w.alloc (.cells #[v, .bool void, .int .i64 d, .string (str n)] 37)) w.heap.size v void (d, n) :=
 ⟨by rw [cell_new]; rfl, by rw [cell_new]; rfl, by rw [cell_new]; rfl, by rw [cell_new]; rfl, frozen_new _ _ _ _, frozen_new _ _ _ _, frozen_new _ _ _ _, frozen_new _ _ _ _⟩

/-- A text that is a type's of no dimensions, named so. -/
structure One (s nm : List UInt8) : Prop where
 read : ∀ n r, n ≤ 8 → firstP n (s ++ r) = some (((n : Int), nm), r)
 many : ∀ n r, 8 < n → firstP n (s ++ r) = none
 ne : hasOne s 41 = false
 pos : 0 < s.length
 len : s.length ≤ 34

theorem one_number : One [73] [] := by
 refine ⟨fun n r h => ?_, fun n r h => ?_, rfl, by simp, by simp⟩
 ·simp [firstP]
  omega
 ·simp [firstP, h]

theorem sign_semi {c : UInt8} (h : sign c = true) : (c != 59) = true := by
 rw [bne_iff_ne]
 intro e
 subst e
 revert h
 decide

theorem one_class (n : List UInt8) (h : nameOK n = true) : One (76 :: (n ++ [59])) n := by
 have ha : n.all sign = true := by
  unfold nameOK at h
  simp only [Bool.and_eq_true] at h
  exact h.2
 have hl : n.length ≤ 32 := by
  unfold nameOK at h
  simp only [Bool.and_eq_true, decide_eq_true_eq] at h
  exact h.1.1.2
 have hc : ∀ c ∈ n, (c != 59) = true := fun c hc => sign_semi (List.all_eq_true.1 ha c hc)
 have ht : ∀ r, (n ++ 59 :: r).takeWhile (· != 59) = n := by
  intro r
  rw [List.takeWhile_append_of_pos (by simpa using hc)]
  simp
 have hd : ∀ r, (n ++ 59 :: r).dropWhile (· != 59) = 59 :: r := by
  intro r
  rw [List.dropWhile_append_of_pos (by simpa using hc)]
  simp
 refine ⟨fun k r hk => ?_, fun k r hk => ?_, rfl, by simp, by simp; omega⟩
 ·have e : 76 :: (n ++ [59]) ++ r = 76 :: (n ++ 59 :: r) := by simp
  rw [e]
  simp only [firstP]
  rw [if_neg (by omega), if_neg (by decide), if_neg (by decide), if_pos trivial]
  unfold classP
  rw [ht, hd, h]
  simp
 ·simp [firstP, hk]

theorem one_dims {s nm : List UInt8} (h : One s nm) (d k : Nat) (r : List UInt8) : firstP k (List.replicate d 91 ++ s ++ r) = if k + d ≤ 8 then some (((k + d : Nat) : Int), nm, r) |>.map (fun x => ((x.1, x.2.1), x.2.2)) else none := by
 induction d generalizing k with
 | zero =>
  by_cases hk : k ≤ 8
  ·simp [h.read k r hk, hk]
  ·simp [h.many k r (by omega), hk]
 | succ d ih =>
  rw [List.replicate_succ, List.cons_append, List.cons_append, firstP]
  by_cases hk : 8 < k
  ·rw [if_pos hk, if_neg (by omega)]
  ·rw [if_neg hk, if_pos rfl, ih (k + 1)]
   have e : k + 1 + d = k + (d + 1) := by omega
   rw [e]

theorem has_append {s : List UInt8} (hp : 0 < s.length) (hs : hasOne s 41 = false) (r : List UInt8) : hasOne (s ++ r) 41 = false := by
 cases s with
 | nil => simp at hp
 | cons a t => exact hs

theorem check_name {t : Ty} (h : tyCheck t = 0) : t.2 = [] ∨ nameOK t.2 = true := by
 obtain ⟨d, n⟩ := t
 simp only [tyCheck] at h
 split at h
 ·omega
 ·split at h
  ·omega
  ·rename_i h4
   by_cases hz : n = []
   ·exact .inl hz
   ·right
    cases hn : nameOK n with
    | true => rfl
    | false => exact absurd ⟨hz, hn⟩ h4

theorem check_of {d : Int} {n : List UInt8} (h0 : 0 ≤ d) (h8 : d ≤ 8) (hn : n = [] ∨ nameOK n = true) : tyCheck (d, n) = 0 := by
 simp only [tyCheck]
 rw [if_neg (by omega), if_neg]
 rintro ⟨h1, h2⟩
 rcases hn with h | h
 ·exact h1 h
 ·rw [h] at h2
  cases h2

theorem name_ne {n : List UInt8} (h : nameOK n = true) : n ≠ [] := by
 intro e
 subst e
 revert h
 decide

theorem one_of {t : Ty} (h : tyCheck t = 0) : One (if t.2 = [] then [73] else 76 :: (t.2 ++ [59])) t.2 := by
 rcases check_name h with e | e
 ·rw [if_pos e, e]
  exact one_number
 ·rw [if_neg (name_ne e)]
  exact one_class t.2 e

theorem first_text {t : Ty} (h : tyCheck t = 0) (r : List UInt8) : firstP 0 (tyText t ++ r) = some (t, r) := by
 obtain ⟨d, n⟩ := t
 have hb := check_bounds h
 have := one_dims (one_of h) d.toNat 0 r
 unfold tyText
 rw [this, if_pos (by omega)]
 simp
 omega

theorem text_has {t : Ty} (h : tyCheck t = 0) (r : List UInt8) : hasOne (tyText t ++ r) 41 = false := by
 have ho := one_of h
 unfold tyText
 cases t.1.toNat with
 | zero =>
  rw [List.replicate_zero, List.nil_append]
  exact has_append ho.pos ho.ne r
 | succ k =>
  rw [List.replicate_succ]
  rfl

theorem text_pos {t : Ty} (h : tyCheck t = 0) : 0 < (tyText t).length := by
 have ho := one_of h
 unfold tyText
 rw [List.length_append]
 have := ho.pos
 omega

theorem texts_len (l : List Ty) (h : ∀ t ∈ l, tyCheck t = 0) : l.length ≤ (tyTexts l).length := by
 induction l with
 | nil => simp
 | cons t l ih =>
  have h1 := text_pos (h t (by simp))
  have h2 := ih fun x hx => h x (by simp [hx])
  simp [tyTexts]
  omega

theorem params_text (l : List Ty) (h : ∀ t ∈ l, tyCheck t = 0) (f : Nat) (hf : l.length < f) (r : List UInt8) : paramsP f (tyTexts l ++ 41 :: r) = some (l, r) := by
 induction l generalizing f with
 | nil =>
  obtain ⟨f, rfl⟩ : ∃ k, f = k + 1 := ⟨f - 1, by omega⟩
  rfl
 | cons t l ih =>
  obtain ⟨f, rfl⟩ : ∃ k, f = k + 1 := ⟨f - 1, by omega⟩
  have ht := h t (by simp)
  rw [tyTexts, List.append_assoc, paramsP, text_has ht, first_text ht]
  simp only [Bool.false_eq_true, if_false]
  rw [ih (fun x hx => h x (by simp [hx])) f (by simp at hf; omega)]
  rfl

theorem text_void {t : Ty} (h : tyCheck t = 0) : tyText t ≠ [86] := by
 intro e
 have := first_text h []
 rw [List.append_nil, e] at this
 simp [firstP] at this

theorem sig_text {l : List Ty} {v : Bool} {t : Ty} (h : sigCheck l v t = 0) : sigR (sigText l v t) = ((l, v, t), 0) := by
 obtain ⟨h1, h2, h3, h4⟩ := sigCheck_ok h
 have hp := params_text l h2 (sigText l v t).length (by
  have := texts_len l h2
  simp [sigText]
  omega) (if v = true then [86] else tyText t)
 have hs := sigP_of (l := sigText l v t) (all := l) (rest := if v = true then [86] else tyText t) rfl hp
 have hr : resultP (if v = true then [86] else tyText t) = some (if v = true then none else some t) := by
  cases v with
  | true => rfl
  | false =>
   have := first_text h3 []
   rw [List.append_nil] at this
   simp only [Bool.false_eq_true, if_false]
   unfold resultP
   rw [if_neg (text_void h3), this]
 rw [hr] at hs
 unfold sigR
 rw [hs]
 simp only [Option.map_some]
 rw [if_neg (by omega)]
 cases v with
 | true =>
  rw [h4 rfl]
  rfl
 | false => rfl

theorem type_text {t : Ty} (h : tyCheck t = 0) : typeR (tyText t) = (t, 0) := by
 have := first_text h []
 rw [List.append_nil] at this
 unfold typeR
 rw [this]

theorem while_split (t : List UInt8) (h : t.dropWhile (· != 59) ≠ []) : t = t.takeWhile (· != 59) ++ 59 :: (t.dropWhile (· != 59)).drop 1 := by
 have h1 := List.takeWhile_append_dropWhile (p := (· != 59)) (l := t)
 have h2 : t.dropWhile (· != 59) = 59 :: (t.dropWhile (· != 59)).drop 1 := by
  cases hd : t.dropWhile (· != 59) with
  | nil => exact absurd hd h
  | cons a s =>
   have := List.head_dropWhile_not (p := (· != (59 : UInt8))) (l := t) h
   simp [hd] at this
   simp [this]
 rw [← h2]
 exact h1.symm

theorem first_back : ∀ (l : List UInt8) (n : Nat) (t : Ty) (r : List UInt8), firstP n l = some (t, r) → (n : Int) ≤ t.1 ∧ t.1 ≤ 8 ∧ (t.2 = [] ∨ nameOK t.2 = true) ∧ l = tyText (t.1 - n, t.2) ++ r := by
 intro l
 induction l with
 | nil => intro n t r h; simp [firstP] at h
 | cons c l ih =>
  intro n t r h
  unfold firstP at h
  split at h
  ·cases h
  ·rename_i hn
   split at h
   ·rename_i hc
    obtain ⟨h1, h2, h3, h4⟩ := ih _ _ _ h
    refine ⟨by omega, h2, h3, ?_⟩
    rw [h4, hc]
    unfold tyText
    rw [show (t.1 - (n : Int)).toNat = (t.1 - ((n + 1 : Nat) : Int)).toNat + 1 by omega, List.replicate_succ]
    rfl
   ·split at h
    ·rename_i hc
     simp only [Option.some.injEq, Prod.mk.injEq] at h
     obtain ⟨rfl, rfl⟩ := h
     refine ⟨by simp, by simp; omega, .inl rfl, ?_⟩
     simp [tyText, hc]
    ·split at h
     ·rename_i hc
      unfold classP at h
      split at h
      ·cases h
      ·rename_i hx
       simp only [not_or] at hx
       simp only [Option.some.injEq, Prod.mk.injEq] at h
       obtain ⟨rfl, rfl⟩ := h
       have hk : nameOK (l.takeWhile (· != 59)) = true := by
        cases hq : nameOK (l.takeWhile (· != 59)) with
        | true => rfl
        | false => exact absurd hq hx.2
       refine ⟨by simp, by simp; omega, .inr hk, ?_⟩
       have hs := while_split l hx.1
       unfold tyText
       simp only [Int.sub_self, Int.toNat_zero, List.replicate_zero, List.nil_append]
       rw [if_neg (name_ne hk), hc]
       simp only [List.cons_append, List.append_assoc, List.nil_append]
       rw [← hs]
     ·cases h

theorem first_read {l : List UInt8} {t : Ty} {r : List UInt8} (h : firstP 0 l = some (t, r)) : tyCheck t = 0 ∧ l = tyText t ++ r := by
 obtain ⟨h1, h2, h3, h4⟩ := first_back l 0 t r h
 obtain ⟨d, n⟩ := t
 refine ⟨check_of (by simpa using h1) h2 h3, ?_⟩
 simpa using h4

theorem type_read (s : List UInt8) (h : (typeR s).2 = 0) : tyCheck (typeR s).1 = 0 ∧ tyText (typeR s).1 = s := by
 unfold typeR at h ⊢
 split at h
 ·rename_i t hf
  obtain ⟨h1, h2⟩ := first_read hf
  simp only []
  rw [List.append_nil] at h2
  exact ⟨h1, h2.symm⟩
 ·simp at h

theorem params_read : ∀ (f : Nat) (l : List UInt8) (ps : List Ty) (r : List UInt8), paramsP f l = some (ps, r) → (∀ t ∈ ps, tyCheck t = 0) ∧ l = tyTexts ps ++ 41 :: r := by
 intro f
 induction f with
 | zero => intro l ps r h; simp [paramsP] at h
 | succ f ih =>
  intro l ps r h
  unfold paramsP at h
  split at h
  ·rename_i hh
   simp only [Option.some.injEq, Prod.mk.injEq] at h
   obtain ⟨rfl, rfl⟩ := h
   refine ⟨by simp, ?_⟩
   cases l with
   | nil => simp [hasOne] at hh
   | cons a t =>
    simp [hasOne] at hh
    rw [hh]
    rfl
  ·split at h
   ·cases h
   ·rename_i t q hf
    obtain ⟨h1, h2⟩ := first_read hf
    cases hp : paramsP f q with
    | none => rw [hp] at h; cases h
    | some x =>
     obtain ⟨ps', r'⟩ := x
     rw [hp] at h
     simp only [Option.map_some, Option.some.injEq, Prod.mk.injEq] at h
     obtain ⟨rfl, rfl⟩ := h
     obtain ⟨h3, h4⟩ := ih q ps' r' hp
     refine ⟨fun x hx => ?_, ?_⟩
     ·simp at hx
      rcases hx with rfl | hx
      ·exact h1
      ·exact h3 x hx
     ·rw [h2, h4, tyTexts, List.append_assoc]

theorem sig_read (s : List UInt8) (h : (sigR s).2 = 0) : sigCheck (sigR s).1.1 (sigR s).1.2.1 (sigR s).1.2.2 = 0 ∧ sigText (sigR s).1.1 (sigR s).1.2.1 (sigR s).1.2.2 = s := by
 unfold sigR at h ⊢
 cases hp : sigP s with
 | none => rw [hp] at h; simp at h
 | some x =>
  obtain ⟨ps, r⟩ := x
  rw [hp] at h
  simp only [] at h ⊢
  split at h
  ·simp at h
  ·rename_i h16
   rw [if_neg h16]
   unfold sigP at hp
   split at hp
   ·rename_i hh
    cases hq : paramsP s.length (s.drop 1) with
    | none => rw [hq] at hp; cases hp
    | some y =>
     obtain ⟨ps', q⟩ := y
     rw [hq] at hp
     simp only [Option.bind_some] at hp
     cases hr : resultP q with
     | none => rw [hr] at hp; cases hp
     | some z =>
      rw [hr] at hp
      simp only [Option.map_some, Option.some.injEq, Prod.mk.injEq] at hp
      obtain ⟨rfl, rfl⟩ := hp
      obtain ⟨h1, h2⟩ := params_read _ _ _ _ hq
      have hs : s = 40 :: s.drop 1 := by
       cases s with
       | nil => simp [hasOne] at hh
       | cons a t =>
        simp [hasOne] at hh
        rw [hh]
        rfl
      unfold resultP at hr
      have hca := (checkAll_ok ps').2 h1
      split at hr
      ·rename_i hv
       simp only [Option.some.injEq] at hr
       subst hr
       refine ⟨?_, ?_⟩
       ·simp [sigCheck, h16, hca]
        decide
       ·simp only [sigText, Option.isNone_none, if_true]
        rw [← hv, ← h2]
        exact hs.symm
      ·split at hr
       ·rename_i t hf
        simp only [Option.some.injEq] at hr
        subst hr
        obtain ⟨h3, h4⟩ := first_read hf
        rw [List.append_nil] at h4
        refine ⟨?_, ?_⟩
        ·simp [sigCheck, h16, hca, h3]
        ·simp only [sigText, Option.isNone_some, Bool.false_eq_true, if_false, Option.getD_some]
         rw [← h4, ← h2]
         exact hs.symm
       ·cases hr
   ·cases hp

abbrev Fd := Int × List UInt8 × Ty
abbrev Hd := Int × Int × Int × List UInt8
abbrev Sg := List Ty × Bool × Ty

/-- A method, a class, a module. -/
structure Me where
 flags : Int
 name : List UInt8
 sig : Sg
 stack : Int
 locals : Int
 code : List UInt8
 hands : List Hd
 deriving DecidableEq

structure Cl where
 flags : Int
 name : List UInt8
 super : List UInt8
 faces : List (List UInt8)
 fields : List Fd
 methods : List Me
 deriving DecidableEq

structure Mo where
 pool : List En
 classes : List Cl
 deriving DecidableEq

/-- Why a module is none: class, member, place, error. -/
abbrev Bp := Int × Int × Int × Int
def ok4 : Bp := (0, 0, 0, 0)

def objL : List UInt8 := [79, 98, 106, 101, 99, 116]

def headE (c : Cl) : Int :=
 if c.flags ≠ 0 ∧ c.flags ≠ 1 ∧ c.flags ≠ 2 then 21 else if nameOK c.name = false ∨ nameOK c.super = false then 14 else if 16 < c.faces.length then 4
 else if c.flags = 1 ∧ c.super ≠ objL then 31 else if c.flags = 1 ∧ 0 < c.fields.length then 33 else 0

def faceE (ahead : List (List UInt8)) (n : List UInt8) : Int := if nameOK n = true then (if n ∈ ahead then 20 else 0) else 14

def fieldE (ahead : List Fd) (f : Fd) : Int :=
 if f.1 ≠ 0 ∧ f.1 ≠ 4 then 21 else if nameOK f.2.1 = true then (if tyCheck f.2.2 = 0 then (if ahead.any (fun g => decide (g.2.1 = f.2.1)) = true then 20 else 0) else tyCheck f.2.2) else 14

/-- Begins an instruction at that place of the code? -/
def begE (all : List In) (n : Nat) (k : Int) : Bool := decide (0 ≤ k) && (decide (k < (n : Int)) && begunI all k.toNat)

def handE (all : List In) (n : Nat) (h : Hd) : Int :=
 if begE all n h.1 = false ∨ (begE all n h.2.1 = false ∧ h.2.1 ≠ (n : Int)) ∨ h.2.1 ≤ h.1 then 19 else if begE all n h.2.2.1 = true then (if nameOK h.2.2.2 = true then 0 else 14) else 18

def handsE (all : List In) (n : Nat) : Nat → List Hd → Int × Int
 | _, [] => (0, 0)
 | i, h :: l => if handE all n h = 0 then handsE all n (i + 1) l else ((i : Int), handE all n h)

def handedE (m : Me) : Int := if m.flags = 4 then (m.sig.1.length : Int) else (m.sig.1.length : Int) + 1

def handlersE (m : Me) : Int × Int := if 32 < m.hands.length then (0, 4) else handsE (allR m.code).1 m.code.length 0 m.hands

def bodyE (l : List En) (m : Me) : Int × Int :=
 if m.flags = 2 then (if m.stack ≠ 0 ∨ m.locals ≠ 0 ∨ 0 < m.code.length ∨ 0 < m.hands.length then (0, 1) else (0, 0))
 else if m.stack < 0 ∨ 64 < m.stack ∨ m.locals < 0 ∨ 64 < m.locals then (0, 1) else if m.locals < handedE m then (0, 43)
 else if (checkI m.code l m.locals).2 = 0 then handlersE m else checkI m.code l m.locals

def headingE (ahead : List Me) (m : Me) : Int :=
 if m.flags ≠ 0 ∧ m.flags ≠ 2 ∧ m.flags ≠ 4 then 21 else if methodOK m.name = true then
  (if sigCheck m.sig.1 m.sig.2.1 m.sig.2.2 = 0 then (if 255 < (sigText m.sig.1 m.sig.2.1 m.sig.2.2).length then 5 else if ahead.any (fun n => decide (n.name = m.name) && sameR n.sig m.sig) = true then 20 else 0)
   else sigCheck m.sig.1 m.sig.2.1 m.sig.2.2)
 else 14

def flagsE (cf : Int) (m : Me) : Int :=
 if m.name = initL ∧ m.flags ≠ 0 then 21 else if m.name = initL ∧ m.sig.2.1 = false then 15 else if cf = 1 ∧ m.flags ≠ 2 then 33 else if cf = 0 ∧ m.flags = 2 then 21 else 0

def methodE (l : List En) (cf : Int) (ahead : List Me) (m : Me) : Int × Int :=
 if headingE ahead m = 0 then (if flagsE cf m = 0 then bodyE l m else (0, flagsE cf m)) else (0, headingE ahead m)

/-- The first of a list that is wrong, each held against those ahead of it. -/
def firstE {α : Type} (g : List α → α → Int × Int) : List α → List α → Bp
 | _, [] => ok4
 | a, x :: l => if (g a x).2 = 0 then firstE g (a ++ [x]) l else (0, (a.length : Int), (g a x).1, (g a x).2)

def at0 {α : Type} (g : List α → α → Int) (a : List α) (x : α) : Int × Int := (0, g a x)

def membersE {α : Type} (most : Nat) (g : List α → α → Int × Int) (l : List α) : Bp := if most < l.length then (0, 0, 0, 4) else firstE g [] l

/-- The first of three that is wrong. -/
def orE (a b : Bp) : Bp := if a.2.2.2 = 0 then b else a

def classE (l : List En) (c : Cl) : Bp :=
 orE (0, 0, 0, headE c) (orE (membersE 16 (at0 faceE) c.faces) (orE (membersE 64 (at0 fieldE) c.fields) (membersE 64 (methodE l c.flags) c.methods)))

def inC (i : Nat) (b : Bp) : Bp := ((i : Int), b.2.1, b.2.2.1, b.2.2.2)

def classesE (l : List En) : Nat → List Cl → Bp
 | _, [] => ok4
 | i, c :: cs => if (classE l c).2.2.2 = 0 then classesE l (i + 1) cs else inC i (classE l c)

def twiceE : List Cl → List Cl → Bp
 | _, [] => ok4
 | a, c :: cs => if a.any (fun d => decide (d.name = c.name)) = true then ((a.length : Int), 0, 0, 20) else twiceE (a ++ [c]) cs

def checkM (m : Mo) : Bp :=
 orE (0, 0, (if (checkE m.pool).2 = 0 then 0 else (checkE m.pool).1), (checkE m.pool).2) (if 64 < m.classes.length then (0, 0, 0, 4) else orE (classesE m.pool 0 m.classes) (twiceE [] m.classes))

theorem firstE_zero {α : Type} (g : List α → α → Int × Int) : ∀ (l a : List α), (firstE g a l).2.2.2 = 0 → ∀ j (hj : j < l.length), (g (a ++ l.take j) l[j]).2 = 0 := by
 intro l
 induction l with
 | nil => intro a _ j hj; simp at hj
 | cons x l ih =>
  intro a h j hj
  simp only [firstE] at h
  split at h
  ·rename_i h0
   cases j with
   | zero => simpa using h0
   | succ j =>
    have := ih _ h j (by simpa using hj)
    simp only [List.take_succ_cons, List.getElem_cons_succ]
    rw [show a ++ x :: l.take j = (a ++ [x]) ++ l.take j by simp]
    exact this
  ·rename_i h0
   exact absurd h h0

theorem classesE_zero (p : List En) : ∀ (l : List Cl) (i : Nat), (classesE p i l).2.2.2 = 0 → ∀ c ∈ l, (classE p c).2.2.2 = 0 := by
 intro l
 induction l with
 | nil => intro i _ c hc; cases hc
 | cons x l ih =>
  intro i h c hc
  simp only [classesE] at h
  split at h
  ·rename_i h0
   rcases List.mem_cons.1 hc with rfl | hc
   ·exact h0
   ·exact ih _ h c hc
  ·rename_i h0
   exact absurd h h0

/-- A slice that is read: n elements with these cells, in a block that obeys P. -/
structure Sl (w : World) (P : Nat → Prop) (ao : Option Addr) (n cap : Nat) (cs : List Value) (d : Nat) : Prop where
 rs : RS w ao cs d
 ok : cs ≠ [] → P d
 le : n ≤ cap
 max : cap ≤ 9223372036854775807
 no : ao = none → cap = 0

def SlV (w : World) (P : Nat → Prop) (v : Value) (n : Nat) (cs : List Value) : Prop := ∃ ao cap d, v = .slice ao n cap ∧ Sl w P ao n cap cs d

theorem Sl.only {w w' : World} {P : Nat → Prop} {ao : Option Addr} {n cap : Nat} {cs : List Value} {d : Nat} {S : List Nat} (h : Sl w P ao n cap cs d) (ho : Only S w w') (hS : ∀ d, P d → d ∉ S) : Sl w' P ao n cap cs d :=
 ⟨h.rs.only ho fun hn => hS d (h.ok hn), h.ok, h.le, h.max, h.no⟩

theorem Sl.mono {w : World} {P Q : Nat → Prop} {ao : Option Addr} {n cap : Nat} {cs : List Value} {d : Nat} (h : Sl w P ao n cap cs d) (hQ : ∀ d, P d → d < w.heap.size → Q d) : Sl w Q ao n cap cs d :=
 ⟨h.rs, fun hn => hQ d (h.ok hn) (h.rs.lt hn), h.le, h.max, h.no⟩

theorem SlV.only {w w' : World} {P : Nat → Prop} {v : Value} {n : Nat} {cs : List Value} {S : List Nat} (h : SlV w P v n cs) (ho : Only S w w') (hS : ∀ d, P d → d ∉ S) : SlV w' P v n cs := by
 obtain ⟨ao, cap, d, hv, h⟩ := h
 exact ⟨ao, cap, d, hv, h.only ho hS⟩

theorem SlV.mono {w : World} {P Q : Nat → Prop} {v : Value} {n : Nat} {cs : List Value} (h : SlV w P v n cs) (hQ : ∀ d, P d → d < w.heap.size → Q d) : SlV w Q v n cs := by
 obtain ⟨ao, cap, d, hv, h⟩ := h
 exact ⟨ao, cap, d, hv, h.mono hQ⟩

theorem SlV.nil (w : World) (P : Nat → Prop) : SlV w P (.slice none 0 0) 0 [] := ⟨none, 0, 0, rfl, RS.nil _ _ _, fun h => absurd rfl h, Nat.le_refl _, by decide, fun _ => rfl⟩

theorem SlV.one {w : World} {P : Nat → Prop} {v : Value} {n : Nat} {cs : List Value} (h : SlV w P v n cs) : v.oneCell' = true := by
 obtain ⟨ao, cap, d, rfl, _⟩ := h
 rfl

/-- Elements of k cells each, one behind the other. -/
structure Els {α : Type} (k : Nat) (A : List Value → α → Prop) (cs : List Value) (l : List α) : Prop where
 len : cs.length = l.length * k
 el : ∀ j (h : j < l.length), A ((cs.drop (j * k)).take k) l[j]

theorem Els.nil {α : Type} (k : Nat) (A : List Value → α → Prop) : Els k A [] ([] : List α) := ⟨by simp, fun j h => by simp at h⟩

theorem Els.snoc {α : Type} {k : Nat} {A : List Value → α → Prop} {cs c : List Value} {l : List α} {x : α} (h : Els k A cs l) (hc : c.length = k) (hx : A c x) : Els k A (cs ++ c) (l ++ [x]) := by
 refine ⟨by rw [List.length_append, List.length_append, List.length_singleton, h.len, hc, Nat.add_mul, Nat.one_mul], fun j hj => ?_⟩
 by_cases e : j < l.length
 ·rw [List.getElem_append_left e]
  have := h.el j e
  have h1 : (j + 1) * k ≤ l.length * k := Nat.mul_le_mul_right k e
  rw [Nat.add_mul, Nat.one_mul] at h1
  have hl := h.len
  rw [List.drop_append_of_le_length (by omega), List.take_append_of_le_length (by rw [List.length_drop]; omega)]
  exact this
 ·have : j = l.length := by simp at hj; omega
  subst this
  rw [List.getElem_append_right (Nat.le_refl _)]
  simp only [Nat.sub_self, List.getElem_cons_zero]
  rw [← h.len, List.drop_left, List.take_of_length_le (by omega)]
  exact hx

theorem Els.imp {α : Type} {k : Nat} {A B : List Value → α → Prop} {cs : List Value} {l : List α} (h : Els k A cs l) (hAB : ∀ c x, x ∈ l → A c x → B c x) : Els k B cs l :=
 ⟨h.len, fun j hj => hAB _ _ (List.getElem_mem hj) (h.el j hj)⟩

theorem Els.take {α : Type} {k : Nat} {A : List Value → α → Prop} {cs : List Value} {l : List α} (h : Els k A cs l) (n : Nat) (hn : n ≤ l.length) : Els k A (cs.take (n * k)) (l.take n) := by
 have h1 : n * k ≤ l.length * k := Nat.mul_le_mul_right k hn
 have hl := h.len
 refine ⟨by rw [List.length_take, List.length_take]; rw [Nat.min_eq_left hn]; omega, fun j hj => ?_⟩
 have hj' : j < n := by simp at hj; omega
 have h2 : (j + 1) * k ≤ n * k := Nat.mul_le_mul_right k hj'
 rw [Nat.add_mul, Nat.one_mul] at h2
 have := h.el j (by omega)
 rw [List.drop_take, List.take_take, Nat.min_eq_left (by omega), List.getElem_take]
 exact this

/-- A list of cells from those of its elements. -/
theorem els_flat {α : Type} {k : Nat} (f : α → List Value) (hf : ∀ x, (f x).length = k) : ∀ l : List α, Els k (fun c x => c = f x) (l.flatMap f) l := by
 intro l
 induction l with
 | nil => exact Els.nil _ _
 | cons x l ih =>
  refine ⟨by rw [List.flatMap_cons, List.length_append, hf, ih.len, List.length_cons, Nat.add_mul]; omega, fun j hj => ?_⟩
  cases j with
  | zero =>
   rw [List.flatMap_cons, Nat.zero_mul, List.drop_zero, ← hf x, List.take_left]
   rfl
  | succ j =>
   have := ih.el j (by simpa using hj)
   rw [List.getElem_cons_succ, ← this, List.flatMap_cons, Nat.add_mul, Nat.one_mul, Nat.add_comm, ← hf x, ← List.drop_drop, List.drop_left]

/-- The cells of the j-th element. -/
theorem RS.piece {w : World} {ao : Option Addr} {cs : List Value} {d : Nat} (h : RS w ao cs d) (k j : Nat) {c : List Value} (hc : (cs.drop (j * k)).take k = c) (hn : c ≠ []) :
  ∃ off, ao = some ⟨d, off, none⟩ ∧ ∀ i u, c[i]? = some u → w.cell? ⟨d, off + j * k + i, none⟩ = some u := by
 rcases h with h | ⟨off, ha, hcell⟩
 ·subst h
  simp at hc
  exact absurd hc hn
 ·refine ⟨off, ha, fun i u hu => ?_⟩
  rw [← hc, List.getElem?_take] at hu
  split at hu
  ·rw [List.getElem?_drop] at hu
   rw [Nat.add_assoc]
   exact hcell _ u hu
  ·cases hu

def scC (s : List UInt8) : List Value := [.string (str s)]
def fdC (f : Fd) : List Value := [.int .i64 f.1, .string (str f.2.1), .int .i64 f.2.2.1, .string (str f.2.2.2)]
def hdC (h : Hd) : List Value := [.int .i64 h.1, .int .i64 h.2.1, .int .i64 h.2.2.1, .string (str h.2.2.2)]
def fdV (f : Fd) : Value := .agg #[.int .i64 f.1, .string (str f.2.1), .int .i64 f.2.2.1, .string (str f.2.2.2)]
def hdV (h : Hd) : Value := .agg #[.int .i64 h.1, .int .i64 h.2.1, .int .i64 h.2.2.1, .string (str h.2.2.2)]
def scs (l : List (List UInt8)) : List Value := l.flatMap scC
def fcs (l : List Fd) : List Value := l.flatMap fdC
def hcs (l : List Hd) : List Value := l.flatMap hdC
def meC (vp vc vh : Value) (m : Me) : List Value := [.int .i64 m.flags, .string (str m.name), vp, .bool m.sig.2.1, .int .i64 m.sig.2.2.1, .string (str m.sig.2.2.2), .int .i64 m.stack, .int .i64 m.locals, vc, vh]
def clC (vf vd vm : Value) (c : Cl) : List Value := [.int .i64 c.flags, .string (str c.name), .string (str c.super), vf, vd, vm]

/-- How a slice of elements of that type, of so many cells, stands in memory: its length, its cells. -/
abbrev Rp := TypeId → Nat → Value → Nat → List Value → Prop
/-- It is read. -/
def SlR (w : World) (P : Nat → Prop) : Rp := fun _ _ v n cs => SlV w P v n cs
/-- It is the call's own. -/
def OwR (w : World) (B : Nat) (P : Nat → Prop) : Rp := fun e k v n cs => w.ownsRow B e k v n cs ∧ ∀ g, v.ownBlock = some g → P g

structure MeAt (R : Rp) (vp vc vh : Value) (m : Me) : Prop where
 params : R 35 2 vp m.sig.1.length (tcs m.sig.1)
 code : R 5 1 vc m.code.length (bcs m.code)
 hands : R 46 4 vh m.hands.length (hcs m.hands)

def MeC (R : Rp) (cs : List Value) (m : Me) : Prop := ∃ vp vc vh, cs = meC vp vc vh m ∧ MeAt R vp vc vh m

structure ClAt (R : Rp) (vf vd vm : Value) (c : Cl) : Prop where
 faces : R 9 1 vf c.faces.length (scs c.faces)
 fields : R 44 4 vd c.fields.length (fcs c.fields)
 methods : ∃ mcs, R 41 10 vm c.methods.length mcs ∧ Els 10 (MeC R) mcs c.methods

def ClC (R : Rp) (cs : List Value) (c : Cl) : Prop := ∃ vf vd vm, cs = clC vf vd vm c ∧ ClAt R vf vd vm c

structure MoAt (R : Rp) (vp vc : Value) (m : Mo) : Prop where
 pool : R 90 6 vp m.pool.length (ecs m.pool)
 classes : ∃ ccs, R 28 6 vc m.classes.length ccs ∧ Els 6 (ClC R) ccs m.classes

theorem MeAt.imp {R R' : Rp} {vp vc vh : Value} {m : Me} (h : MeAt R vp vc vh m) (hR : ∀ e k v n cs, R e k v n cs → R' e k v n cs) : MeAt R' vp vc vh m :=
 ⟨hR _ _ _ _ _ h.params, hR _ _ _ _ _ h.code, hR _ _ _ _ _ h.hands⟩

theorem MeC.imp {R R' : Rp} {cs : List Value} {m : Me} (h : MeC R cs m) (hR : ∀ e k v n cs, R e k v n cs → R' e k v n cs) : MeC R' cs m := by
 obtain ⟨a, b, c, e, h⟩ := h
 exact ⟨a, b, c, e, h.imp hR⟩

theorem ClAt.imp {R R' : Rp} {vf vd vm : Value} {c : Cl} (h : ClAt R vf vd vm c) (hR : ∀ e k v n cs, R e k v n cs → R' e k v n cs) : ClAt R' vf vd vm c := by
 obtain ⟨h1, h2, mcs, h3, h4⟩ := h
 exact ⟨hR _ _ _ _ _ h1, hR _ _ _ _ _ h2, mcs, hR _ _ _ _ _ h3, h4.imp fun _ _ _ h => h.imp hR⟩

theorem ClC.imp {R R' : Rp} {cs : List Value} {m : Cl} (h : ClC R cs m) (hR : ∀ e k v n cs, R e k v n cs → R' e k v n cs) : ClC R' cs m := by
 obtain ⟨a, b, c, e, h⟩ := h
 exact ⟨a, b, c, e, h.imp hR⟩

theorem MoAt.imp {R R' : Rp} {vp vc : Value} {m : Mo} (h : MoAt R vp vc m) (hR : ∀ e k v n cs, R e k v n cs → R' e k v n cs) : MoAt R' vp vc m := by
 obtain ⟨h1, ccs, h3, h4⟩ := h
 exact ⟨hR _ _ _ _ _ h1, ccs, hR _ _ _ _ _ h3, h4.imp fun _ _ _ h => h.imp hR⟩

theorem slr_only {w w' : World} {P : Nat → Prop} {S : List Nat} (ho : Only S w w') (hS : ∀ d, P d → d ∉ S) : ∀ e k v n cs, SlR w P e k v n cs → SlR w' P e k v n cs := fun _ _ _ _ _ h => SlV.only h ho hS
theorem slr_mono {w : World} {P Q : Nat → Prop} (hQ : ∀ d, P d → d < w.heap.size → Q d) : ∀ e k v n cs, SlR w P e k v n cs → SlR w Q e k v n cs := fun _ _ _ _ _ h => SlV.mono h hQ

theorem MoAt.only {w w' : World} {P : Nat → Prop} {vp vc : Value} {m : Mo} {S : List Nat} (h : MoAt (SlR w P) vp vc m) (ho : Only S w w') (hS : ∀ d, P d → d ∉ S) : MoAt (SlR w' P) vp vc m := h.imp (slr_only ho hS)
theorem MoAt.mono {w : World} {P Q : Nat → Prop} {vp vc : Value} {m : Mo} (h : MoAt (SlR w P) vp vc m) (hQ : ∀ d, P d → d < w.heap.size → Q d) : MoAt (SlR w Q) vp vc m := h.imp (slr_mono hQ)
theorem MoAt.only0 {w w' : World} {P : Nat → Prop} {vp vc : Value} {m : Mo} (h : MoAt (SlR w P) vp vc m) (ho : Only [] w w') : MoAt (SlR w' P) vp vc m := h.only ho (by simp)
theorem ClAt.only {w w' : World} {P : Nat → Prop} {vf vd vm : Value} {c : Cl} {S : List Nat} (h : ClAt (SlR w P) vf vd vm c) (ho : Only S w w') (hS : ∀ d, P d → d ∉ S) : ClAt (SlR w' P) vf vd vm c := h.imp (slr_only ho hS)
theorem ClAt.only0 {w w' : World} {P : Nat → Prop} {vf vd vm : Value} {c : Cl} (h : ClAt (SlR w P) vf vd vm c) (ho : Only [] w w') : ClAt (SlR w' P) vf vd vm c := h.only ho (by simp)
theorem MeAt.only {w w' : World} {P : Nat → Prop} {vp vc vh : Value} {m : Me} {S : List Nat} (h : MeAt (SlR w P) vp vc vh m) (ho : Only S w w') (hS : ∀ d, P d → d ∉ S) : MeAt (SlR w' P) vp vc vh m := h.imp (slr_only ho hS)
theorem MeAt.only0 {w w' : World} {P : Nat → Prop} {vp vc vh : Value} {m : Me} (h : MeAt (SlR w P) vp vc vh m) (ho : Only [] w w') : MeAt (SlR w' P) vp vc vh m := h.only ho (by simp)

theorem owr_slice {w : World} {B : Nat} {P : Nat → Prop} {e k n : Nat} {v : Value} {cs : List Value} (h : OwR w B P e k v n cs) : SlR w P e k v n cs := by
 obtain ⟨ao, cap, rfl⟩ := rows_slice h.1
 obtain ⟨q1, q2, q3, q4, q5⟩ := RS.of_owns h.1
 refine ⟨ao, cap, _, rfl, q1, fun hn => ?_, q2, by simp only [maxLen] at q3; omega, q4⟩
 cases ao with
 | none => exact absurd q1.none_nil hn
 | some a => exact h.2 a.block rfl

theorem owr_only {w w' : World} {B : Nat} {P : Nat → Prop} {S : List Nat} (ho : Only S w w') (hS : ∀ d, P d → d ∉ S) : ∀ e k v n cs, OwR w B P e k v n cs → OwR w' B P e k v n cs :=
 fun _ _ _ _ _ h => ⟨rows_only h.1 ho fun g hg => hS g (h.2 g hg), h.2⟩

theorem owr_mono {w : World} {B C : Nat} {P Q : Nat → Prop} (hC : C ≤ B) (hQ : ∀ d, P d → B ≤ d → d < w.heap.size → Q d) : ∀ e k v n cs, OwR w B P e k v n cs → OwR w C Q e k v n cs :=
 fun _ _ _ _ _ h => ⟨rows_mono h.1 hC, fun g hg => hQ g (h.2 g hg) (h.1.lt g hg).1 (h.1.lt g hg).2⟩

theorem TS.of_rs {w : World} {ao : Option Addr} {l : List Ty} {d : Nat} (h : RS w ao (tcs l) d) : TS w ao l d := by
 rcases h with h | ⟨off, ha, hc⟩
 ·left
  cases l with
  | nil => rfl
  | cons t l => simp [tcs] at h
 ·refine .inr ⟨off, ha, fun j hj => ?_⟩
  obtain ⟨g0, g1⟩ := tcs_get l j hj
  exact ⟨hc _ _ g0, by rw [Nat.add_assoc]; exact hc _ _ g1⟩

theorem ES.of_rs {w : World} {ao : Option Addr} {l : List En} {d : Nat} (h : RS w ao (ecs l) d) : ES w ao l d := by
 rcases h with h | ⟨off, ha, hc⟩
 ·left
  cases l with
  | nil => rfl
  | cons t l => simp [ecs] at h
 ·refine .inr ⟨off, ha, fun j hj => ?_⟩
  obtain ⟨g0, g1, g2, g3, g4, g5⟩ := ecs_get l j hj
  exact ⟨hc _ _ g0, by rw [Nat.add_assoc]; exact hc _ _ g1, by rw [Nat.add_assoc]; exact hc _ _ g2, by rw [Nat.add_assoc]; exact hc _ _ g3, by rw [Nat.add_assoc]; exact hc _ _ g4, by rw [Nat.add_assoc]; exact hc _ _ g5⟩

/-- No text, no list of a module is longer than a machine's numbers say. -/
structure MeFit (m : Me) : Prop where
 name : m.name.length ≤ 9223372036854775807
 params : ∀ t ∈ m.sig.1, t.2.length ≤ 9223372036854775807
 res : m.sig.2.2.2.length ≤ 9223372036854775807
 hands : ∀ h ∈ m.hands, h.2.2.2.length ≤ 9223372036854775807

structure ClFit (c : Cl) : Prop where
 name : c.name.length ≤ 9223372036854775807
 super : c.super.length ≤ 9223372036854775807
 faces : ∀ s ∈ c.faces, s.length ≤ 9223372036854775807
 fields : ∀ f ∈ c.fields, f.2.1.length ≤ 9223372036854775807 ∧ f.2.2.2.length ≤ 9223372036854775807
 methods : ∀ m ∈ c.methods, MeFit m

structure MoFit (m : Mo) : Prop where
 pool : ∀ e ∈ m.pool, e.2.1.length ≤ 9223372036854775807
 classes : ∀ c ∈ m.classes, ClFit c

/-- The six cells of a class's block. -/
structure Cl6 (w : World) (b : Nat) (v0 v1 v2 v3 v4 v5 : Value) : Prop where
 c0 : w.cell? ⟨b, 0, none⟩ = some v0
 c1 : w.cell? ⟨b, 1, none⟩ = some v1
 c2 : w.cell? ⟨b, 2, none⟩ = some v2
 c3 : w.cell? ⟨b, 3, none⟩ = some v3
 c4 : w.cell? ⟨b, 4, none⟩ = some v4
 c5 : w.cell? ⟨b, 5, none⟩ = some v5
 f0 : w.frozen? ⟨b, 0, none⟩ = false
 f1 : w.frozen? ⟨b, 1, none⟩ = false
 f2 : w.frozen? ⟨b, 2, none⟩ = false
 f3 : w.frozen? ⟨b, 3, none⟩ = false
 f4 : w.frozen? ⟨b, 4, none⟩ = false
 f5 : w.frozen? ⟨b, 5, none⟩ = false

theorem Cl6.only {w w' : World} {S : List Nat} {b : Nat} {v0 v1 v2 v3 v4 v5 : Value} (h : Cl6 w b v0 v1 v2 v3 v4 v5) (ho : Only S w w') (hb : b ∉ S) : Cl6 w' b v0 v1 v2 v3 v4 v5 := by
 have hl := World.block_lt_of_cell? w _ h.c0
 exact ⟨(ho.cell (p := ⟨b, 0, none⟩) hl hb).trans h.c0, (ho.cell (p := ⟨b, 1, none⟩) hl hb).trans h.c1, (ho.cell (p := ⟨b, 2, none⟩) hl hb).trans h.c2, (ho.cell (p := ⟨b, 3, none⟩) hl hb).trans h.c3, (ho.cell (p := ⟨b, 4, none⟩) hl hb).trans h.c4, (ho.cell (p := ⟨b, 5, none⟩) hl hb).trans h.c5, (ho.frozen (p := ⟨b, 0, none⟩) hl hb).trans h.f0, (ho.frozen (p := ⟨b, 1, none⟩) hl hb).trans h.f1, (ho.frozen (p := ⟨b, 2, none⟩) hl hb).trans h.f2, (ho.frozen (p := ⟨b, 3, none⟩) hl hb).trans h.f3, (ho.frozen (p := ⟨b, 4, none⟩) hl hb).trans h.f4, (ho.frozen (p := ⟨b, 5, none⟩) hl hb).trans h.f5⟩

theorem cl6_new (w : World) (v0 v1 v2 v3 v4 v5 : Value) (t : TypeId) : Cl6 (w.alloc (.cells #[v0, v1, v2, v3, v4, v5] t)) w.heap.size v0 v1 v2 v3 v4 v5 :=
 ⟨by rw [cell_new]; rfl, by rw [cell_new]; rfl, by rw [cell_new]; rfl, by rw [cell_new]; rfl, by rw [cell_new]; rfl, by rw [cell_new]; rfl, frozen_new _ _ _ _, frozen_new _ _ _ _, frozen_new _ _ _ _, frozen_new _ _ _ _, frozen_new _ _ _ _, frozen_new _ _ _ _⟩

theorem Cl6.put0 {w : World} {b : Nat} {v0 v1 v2 v3 v4 v5 : Value} (h : Cl6 w b v0 v1 v2 v3 v4 v5) (u : Value) : Cl6 (w.setCell ⟨b, 0, none⟩ u) b u v1 v2 v3 v4 v5 :=
 ⟨cell_setCell_same _ _ h.c0, (cell_setCell_ne _ _ (by simp)).trans h.c1, (cell_setCell_ne _ _ (by simp)).trans h.c2, (cell_setCell_ne _ _ (by simp)).trans h.c3, (cell_setCell_ne _ _ (by simp)).trans h.c4, (cell_setCell_ne _ _ (by simp)).trans h.c5, (frozen_setCell _ _ _ _).trans h.f0, (frozen_setCell _ _ _ _).trans h.f1, (frozen_setCell _ _ _ _).trans h.f2, (frozen_setCell _ _ _ _).trans h.f3, (frozen_setCell _ _ _ _).trans h.f4, (frozen_setCell _ _ _ _).trans h.f5⟩

theorem Cl6.put1 {w : World} {b : Nat} {v0 v1 v2 v3 v4 v5 : Value} (h : Cl6 w b v0 v1 v2 v3 v4 v5) (u : Value) : Cl6 (w.setCell ⟨b, 1, none⟩ u) b v0 u v2 v3 v4 v5 :=
 ⟨(cell_setCell_ne _ _ (by simp)).trans h.c0, cell_setCell_same _ _ h.c1, (cell_setCell_ne _ _ (by simp)).trans h.c2, (cell_setCell_ne _ _ (by simp)).trans h.c3, (cell_setCell_ne _ _ (by simp)).trans h.c4, (cell_setCell_ne _ _ (by simp)).trans h.c5, (frozen_setCell _ _ _ _).trans h.f0, (frozen_setCell _ _ _ _).trans h.f1, (frozen_setCell _ _ _ _).trans h.f2, (frozen_setCell _ _ _ _).trans h.f3, (frozen_setCell _ _ _ _).trans h.f4, (frozen_setCell _ _ _ _).trans h.f5⟩

theorem Cl6.put2 {w : World} {b : Nat} {v0 v1 v2 v3 v4 v5 : Value} (h : Cl6 w b v0 v1 v2 v3 v4 v5) (u : Value) : Cl6 (w.setCell ⟨b, 2, none⟩ u) b v0 v1 u v3 v4 v5 :=
 ⟨(cell_setCell_ne _ _ (by simp)).trans h.c0, (cell_setCell_ne _ _ (by simp)).trans h.c1, cell_setCell_same _ _ h.c2, (cell_setCell_ne _ _ (by simp)).trans h.c3, (cell_setCell_ne _ _ (by simp)).trans h.c4, (cell_setCell_ne _ _ (by simp)).trans h.c5, (frozen_setCell _ _ _ _).trans h.f0, (frozen_setCell _ _ _ _).trans h.f1, (frozen_setCell _ _ _ _).trans h.f2, (frozen_setCell _ _ _ _).trans h.f3, (frozen_setCell _ _ _ _).trans h.f4, (frozen_setCell _ _ _ _).trans h.f5⟩

theorem Cl6.put3 {w : World} {b : Nat} {v0 v1 v2 v3 v4 v5 : Value} (h : Cl6 w b v0 v1 v2 v3 v4 v5) (u : Value) : Cl6 (w.setCell ⟨b, 3, none⟩ u) b v0 v1 v2 u v4 v5 :=
 ⟨(cell_setCell_ne _ _ (by simp)).trans h.c0, (cell_setCell_ne _ _ (by simp)).trans h.c1, (cell_setCell_ne _ _ (by simp)).trans h.c2, cell_setCell_same _ _ h.c3, (cell_setCell_ne _ _ (by simp)).trans h.c4, (cell_setCell_ne _ _ (by simp)).trans h.c5, (frozen_setCell _ _ _ _).trans h.f0, (frozen_setCell _ _ _ _).trans h.f1, (frozen_setCell _ _ _ _).trans h.f2, (frozen_setCell _ _ _ _).trans h.f3, (frozen_setCell _ _ _ _).trans h.f4, (frozen_setCell _ _ _ _).trans h.f5⟩

theorem Cl6.put4 {w : World} {b : Nat} {v0 v1 v2 v3 v4 v5 : Value} (h : Cl6 w b v0 v1 v2 v3 v4 v5) (u : Value) : Cl6 (w.setCell ⟨b, 4, none⟩ u) b v0 v1 v2 v3 u v5 :=
 ⟨(cell_setCell_ne _ _ (by simp)).trans h.c0, (cell_setCell_ne _ _ (by simp)).trans h.c1, (cell_setCell_ne _ _ (by simp)).trans h.c2, (cell_setCell_ne _ _ (by simp)).trans h.c3, cell_setCell_same _ _ h.c4, (cell_setCell_ne _ _ (by simp)).trans h.c5, (frozen_setCell _ _ _ _).trans h.f0, (frozen_setCell _ _ _ _).trans h.f1, (frozen_setCell _ _ _ _).trans h.f2, (frozen_setCell _ _ _ _).trans h.f3, (frozen_setCell _ _ _ _).trans h.f4, (frozen_setCell _ _ _ _).trans h.f5⟩

theorem Cl6.put5 {w : World} {b : Nat} {v0 v1 v2 v3 v4 v5 : Value} (h : Cl6 w b v0 v1 v2 v3 v4 v5) (u : Value) : Cl6 (w.setCell ⟨b, 5, none⟩ u) b v0 v1 v2 v3 v4 u :=
 ⟨(cell_setCell_ne _ _ (by simp)).trans h.c0, (cell_setCell_ne _ _ (by simp)).trans h.c1, (cell_setCell_ne _ _ (by simp)).trans h.c2, (cell_setCell_ne _ _ (by simp)).trans h.c3, (cell_setCell_ne _ _ (by simp)).trans h.c4, cell_setCell_same _ _ h.c5, (frozen_setCell _ _ _ _).trans h.f0, (frozen_setCell _ _ _ _).trans h.f1, (frozen_setCell _ _ _ _).trans h.f2, (frozen_setCell _ _ _ _).trans h.f3, (frozen_setCell _ _ _ _).trans h.f4, (frozen_setCell _ _ _ _).trans h.f5⟩

theorem Cl6.put {w : World} {b : Nat} {v0 v1 v2 v3 v4 v5 : Value} (h : Cl6 w b v0 v1 v2 v3 v4 v5) (u0 u1 u2 u3 u4 u5 : Value) : Cl6 ((((((w.setCell ⟨b, 0, none⟩ u0).setCell ⟨b, 1, none⟩ u1).setCell ⟨b, 2, none⟩ u2).setCell ⟨b, 3, none⟩ u3).setCell ⟨b, 4, none⟩ u4).setCell ⟨b, 5, none⟩ u5) b u0 u1 u2 u3 u4 u5 ∧ Only [b] w ((((((w.setCell ⟨b, 0, none⟩ u0).setCell ⟨b, 1, none⟩ u1).setCell ⟨b, 2, none⟩ u2).setCell ⟨b, 3, none⟩ u3).setCell ⟨b, 4, none⟩ u4).setCell ⟨b, 5, none⟩ u5) :=
 ⟨((((((h.put0 _).put1 _).put2 _).put3 _).put4 _).put5 _), (((((((Only.refl [b] w).setCell (.inl (by simp)) _).setCell (.inl (by simp)) _).setCell (.inl (by simp)) _).setCell (.inl (by simp)) _).setCell (.inl (by simp)) _).setCell (.inl (by simp)) _)⟩

/-- The two cells of a module's block. -/
structure Mo2 (w : World) (b : Nat) (v0 v1 : Value) : Prop where
 c0 : w.cell? ⟨b, 0, none⟩ = some v0
 c1 : w.cell? ⟨b, 1, none⟩ = some v1
 f0 : w.frozen? ⟨b, 0, none⟩ = false
 f1 : w.frozen? ⟨b, 1, none⟩ = false

theorem Mo2.only {w w' : World} {S : List Nat} {b : Nat} {v0 v1 : Value} (h : Mo2 w b v0 v1) (ho : Only S w w') (hb : b ∉ S) : Mo2 w' b v0 v1 := by
 have hl := World.block_lt_of_cell? w _ h.c0
 exact ⟨(ho.cell (p := ⟨b, 0, none⟩) hl hb).trans h.c0, (ho.cell (p := ⟨b, 1, none⟩) hl hb).trans h.c1, (ho.frozen (p := ⟨b, 0, none⟩) hl hb).trans h.f0, (ho.frozen (p := ⟨b, 1, none⟩) hl hb).trans h.f1⟩

theorem mo2_new (w : World) (v0 v1 : Value) (t : TypeId) : Mo2 (w.alloc (.cells #[v0, v1] t)) w.heap.size v0 v1 :=
 ⟨by rw [cell_new]; rfl, by rw [cell_new]; rfl, frozen_new _ _ _ _, frozen_new _ _ _ _⟩

theorem Mo2.put0 {w : World} {b : Nat} {v0 v1 : Value} (h : Mo2 w b v0 v1) (u : Value) : Mo2 (w.setCell ⟨b, 0, none⟩ u) b u v1 :=
 ⟨cell_setCell_same _ _ h.c0, (cell_setCell_ne _ _ (by simp)).trans h.c1, (frozen_setCell _ _ _ _).trans h.f0, (frozen_setCell _ _ _ _).trans h.f1⟩

theorem Mo2.put1 {w : World} {b : Nat} {v0 v1 : Value} (h : Mo2 w b v0 v1) (u : Value) : Mo2 (w.setCell ⟨b, 1, none⟩ u) b v0 u :=
 ⟨(cell_setCell_ne _ _ (by simp)).trans h.c0, cell_setCell_same _ _ h.c1, (frozen_setCell _ _ _ _).trans h.f0, (frozen_setCell _ _ _ _).trans h.f1⟩

theorem Mo2.put {w : World} {b : Nat} {v0 v1 : Value} (h : Mo2 w b v0 v1) (u0 u1 : Value) : Mo2 ((w.setCell ⟨b, 0, none⟩ u0).setCell ⟨b, 1, none⟩ u1) b u0 u1 ∧ Only [b] w ((w.setCell ⟨b, 0, none⟩ u0).setCell ⟨b, 1, none⟩ u1) :=
 ⟨((h.put0 _).put1 _), (((Only.refl [b] w).setCell (.inl (by simp)) _).setCell (.inl (by simp)) _)⟩

end Go.Proofs.YtildemmkhndhjaaGreatDoor
