/-
  append of types onto a row of the call's own, wherever the types lie. All of it is at most 2 to the power of 42 types.
-/
import Derived.Test.YtemjhlhioeopnaaDoorDRow
import Derived.Laws.AppendOwnNone
namespace Go.Proofs.YtemjhlhioeopnaaDoor
open Go.RowKit

/-- How much room an append asks for that grows. -/
theorem grow_le (need : Nat) : ∀ (k old : Nat), old ≤ need + need / 4 + 192 → Builtin.growBy need k old ≤ need + need / 4 + 192 := by
  intro k
  induction k with
  | zero =>
    intro old h
    exact h
  | succ k ih =>
    intro old h
    simp only [Builtin.growBy]
    split
    · exact h
    · exact ih _ (by omega)

theorem cap_fits {need old : Nat} (h : old < need) (hn : need ≤ 4398046511104) : Builtin.nextslicecap need old * 24 ≤ 281474976710656 := by
  have := grow_le need 4 old (by omega)
  unfold Builtin.nextslicecap
  split
  · omega
  · split
    · omega
    · omega

theorem info_typeT : ∃ i0, Tryd.prog.info? 78 = some i0 ∧ i0.zero = some (.agg #[.int .i64 0, .string ⟨#[]⟩]) ∧ i0.size = 2 ∧ i0.bytes = 24 := by
  have h := infoT
  cases hi : Tryd.prog.info? 78 with
  | none => rw [hi] at h; cases h
  | some i =>
    rw [hi] at h
    simp at h
    exact ⟨i, rfl, h.1, h.2.1, h.2.2⟩

/-- A new row that an append has made. -/
theorem own_fresh (w : World) (l : List Ty) (cap : Nat) (hc : l.length ≤ cap) (hm : cap ≤ maxLen) :
    (w.drew.alloc (.cells ((tcs l).toArray ++ Builtin.zeroCells (Value.agg #[.int .i64 0, .string ⟨#[]⟩]).cells (cap - l.length)) 78)).ownsRow w.heap.size 78 2 (.slice (some ⟨w.heap.size, 0, none⟩) l.length cap) l.length (tcs l) ∧
    w.grownBy (w.drew.alloc (.cells ((tcs l).toArray ++ Builtin.zeroCells (Value.agg #[.int .i64 0, .string ⟨#[]⟩]).cells (cap - l.length)) 78)) none := by
  refine ⟨⟨by rw [tcs_length], .inr ⟨w.heap.size, cap, _, rfl, Nat.le_refl _, Go.heap_alloc_new w.drew _, hc, hm, ?_, ?_⟩⟩, ⟨rfl, rfl, rfl, by simp, fun k hk _ => Below.heap_alloc w.drew _ k hk⟩⟩
  · rw [Array.size_append, size_zeroCells]
    have : (Value.agg #[.int .i64 0, .string ⟨#[]⟩]).cells.size = 2 := rfl
    rw [this]
    simp [tcs_length]
    omega
  · simp only [Array.toList_append]
    rw [← tcs_length]
    exact List.take_left

/-- append(out, l...), out the call's own. -/
theorem append_run {w : World} {B : Nat} {ao lao : Option Addr} {cap lcap d : Nat} {m l : List Ty} (ty : TypeId) (hown : Own w B (.slice ao m.length cap) m) (hb : TS w lao l d) (hl : lao = none → lcap = 0)
    (hsz : m.length + l.length ≤ 4398046511104) (hB : B ≤ w.heap.size) :
    ∃ ao' cap' w', (Builtin.append_ #[90, 90] ty #[.slice ao m.length cap, .slice lao l.length lcap]).run Tryd.prog w = .ok (.slice ao' (m ++ l).length cap') w' ∧ Own w' B (.slice ao' (m ++ l).length cap') (m ++ l) ∧
      w.grownBy w' (Value.ownBlock (.slice ao m.length cap)) ∧ (∀ a, ao' = some a → (∃ a', ao = some a' ∧ a'.block = a.block) ∨ w.heap.size ≤ a.block) ∧ (ao' = none → ao = none) := by
  obtain ⟨i0, hi, hz0, hz1, hz2⟩ := info_typeT
  have hmax : m.length + l.length ≤ maxLen := by unfold maxLen; omega
  have hml : (m ++ l).length = m.length + l.length := by simp
  cases lao with
  | none =>
    have := hb.none_nil
    subst this
    have := hl rfl
    subst this
    refine ⟨ao, cap, w, ?_, by simpa using hown, ⟨rfl, rfl, rfl, Nat.le_refl _, fun _ _ _ => rfl⟩, fun a ha => .inl ⟨a, ha, rfl⟩, fun h => h⟩
    rw [List.append_nil]
    exact run_append_owned_none (P := Tryd.prog) (w := w) B 90 ty 78 i0 2 Tryd.underlying90 hi _ m.length (tcs m) hown
  | some a =>
    have hlen : (tcs l).length = l.length * 2 := tcs_length l
    rcases hown.2 with ⟨hv, h0⟩ | ⟨g, cap', cur, hv, hbg, hg, hnc, hcm, hcs, htake⟩
    · have hm0 : m = [] := List.eq_nil_of_length_eq_zero h0
      subst hm0
      simp at hv
      obtain ⟨rfl, rfl⟩ := hv
      by_cases hm : l.length = 0
      · obtain ⟨v', w', hr, ho, hgr, hiff⟩ := run_append_own (P := Tryd.prog) w B 90 ty 78 i0 (.agg #[.int .i64 0, .string ⟨#[]⟩]) 2 24 Tryd.underlying90 hi hz0 hz1 hz2 rfl (by decide) _ _ _ hown a l.length lcap (tcs l) hlen hb.cells (tcs_one l) (by simpa using hmax) (by simp at hsz ⊢; omega) hB
        have := hiff.2 ⟨rfl, hm⟩
        subst this
        have hl0 : l = [] := List.eq_nil_of_length_eq_zero hm
        subst hl0
        exact ⟨none, 0, w', hr, ho, hgr, (fun a ha => by cases ha), fun _ => rfl⟩
      · have hr := run_append_nil (P := Tryd.prog) w 90 ty 78 i0 (.agg #[.int .i64 0, .string ⟨#[]⟩]) Tryd.underlying90 hi hz0 a l.length lcap (tcs l) (by rw [hz1]; exact hlen) hb.cells (by omega) (by omega) (by rw [hz2]; omega)
        obtain ⟨q1, q2⟩ := own_fresh w l (grownCap w l.length 0 78) (grownCap_ge _ _ _ _) (grownCap_le_maxLen _ _ _ _ (by simpa using hmax))
        rw [List.nil_append]
        exact ⟨_, _, _, hr, own_mono q1 hB, ⟨q2.os, q2.tape, q2.output, q2.size, fun k hk _ => q2.block k hk (by simp)⟩, fun b hb' => .inr (by simp at hb'; rw [← hb']; exact Nat.le_refl _), fun h => by cases h⟩
    · simp at hv
      obtain ⟨rfl, rfl⟩ := hv
      by_cases hroom : m.length + l.length ≤ cap
      · obtain ⟨w', hr, ho, hgr⟩ := run_append_fits (P := Tryd.prog) w B 90 ty 78 i0 2 Tryd.underlying90 hi hz1 g m.length cap (tcs m) hown a l.length lcap (tcs l) hlen hb.cells (tcs_one l) hroom
        rw [← tcs_append, ← hml] at ho
        rw [← hml] at hr
        exact ⟨some ⟨g, 0, none⟩, cap, w', hr, ho, hgr, fun a ha => .inl ⟨_, rfl, by simp at ha; rw [← ha]⟩, fun h => by cases h⟩
      · have hr := run_append_grow (P := Tryd.prog) w 90 ty 78 i0 (.agg #[.int .i64 0, .string ⟨#[]⟩]) Tryd.underlying90 hi hz0 ⟨g, 0, none⟩ m.length cap (tcs m) (by rw [hz1]; exact hown.1) (hown.cells (g := g) rfl) a l.length lcap (tcs l) (by rw [hz1]; exact hlen) hb.cells (by omega) (by omega) (by rw [hz2]; exact cap_fits (by omega) hsz)
        obtain ⟨q1, q2⟩ := own_fresh w (m ++ l) (grownCap w (m.length + l.length) cap 78) (by rw [hml]; exact grownCap_ge _ _ _ _) (grownCap_le_maxLen _ _ _ _ hmax)
        have e : (tcs (m ++ l)).toArray = (tcs m).toArray ++ (tcs l).toArray := by simp [tcs_append]
        replace q1 := own_mono q1 hB
        rw [e, hml] at q2 q1
        rw [hml]
        exact ⟨_, _, _, hr, q1, ⟨q2.os, q2.tape, q2.output, q2.size, fun k hk _ => q2.block k hk (by simp)⟩, fun b hb' => .inr (by simp at hb'; rw [← hb']; exact Nat.le_refl _), fun h => by cases h⟩

/-- The same, for the walk. -/
theorem wpList_append_types {w : World} {ops : Array Oper} {rest : List Oper} {o : Oper} {a : Act} {Q : Exit → Act → World → Prop} (hgd : o.guard = none) (s x : Operand)
    (ho : o.op = .call { callee := .builtin .append, args := #[s, x], argTypes := #[90, 90] })
    {B : Nat} {ao lao : Option Addr} {cap lcap d : Nat} {m l : List Ty} (hs : a.eval s = .slice ao m.length cap) (hx : a.eval x = .slice lao l.length lcap) (hown : Own w B (.slice ao m.length cap) m) (hb : TS w lao l d) (hl : lao = none → lcap = 0)
    (hsz : m.length + l.length ≤ 4398046511104) (hB : B ≤ w.heap.size)
    (h : ∀ ao' cap' w', Own w' B (.slice ao' (m ++ l).length cap') (m ++ l) → w.grownBy w' (Value.ownBlock (.slice ao m.length cap)) → (∀ a, ao' = some a → (∃ a', ao = some a' ∧ a'.block = a.block) ∨ w.heap.size ≤ a.block) → (ao' = none → ao = none) →
      wpList Tryd.prog ops Q rest (a.put o.dst (.slice ao' (m ++ l).length cap')) w') : wpList Tryd.prog ops Q (o :: rest) a w := by
  refine wpList_plain hgd fun K hK => ?_
  obtain ⟨ao', cap', w', hr, h1, h2, h3, h4⟩ := append_run o.type hown hb hl hsz hB
  unfold Oper.wp execOp
  simp only [ho, resolve, invoke, builtin, Sem.run_bind, Sem.run_pure, Result.andThen_ok, List.map_toArray, List.map_cons, List.map_nil, hs, hx, hr]
  exact hK _ _ (h ao' cap' w' h1 h2 h3 h4)

end Go.Proofs.YtemjhlhioeopnaaDoor
