/-
  append of entries onto a row of the call's own, wherever the entries lie. All of it is at most a million entries.
-/
import Derived.Test.YtcdjddakdlflmabDApp
import Derived.Test.YtcdjddakdlflmabPEnt
import Derived.Laws.AppendOwnNone
import Derived.Deep.RegionLaw
namespace Go.Proofs.Ytcdjddakdlflmab
open Go.RowKit

theorem cap_fitsE {need old : Nat} (h : old < need) (hn : need ≤ 1000000) : Builtin.nextslicecap need old * 56 ≤ 281474976710656 := by
  have := grow_le need 4 old (by omega)
  unfold Builtin.nextslicecap
  split
  · omega
  · split
    · omega
    · omega

theorem info_entry : ∃ i0, Try.prog.info? 43 = some i0 ∧ i0.zero = some (.agg #[.int .i64 0, .string ⟨#[]⟩, .int .i64 0, .int .i64 0, .int .i64 0, .int .i64 0]) ∧ i0.size = 6 ∧ i0.bytes = 56 := by
  have h := infoE
  cases hi : Try.prog.info? 43 with
  | none => rw [hi] at h; cases h
  | some i =>
    rw [hi] at h
    simp at h
    exact ⟨i, rfl, h.1, h.2.1, h.2.2⟩

/-- A new row that an append has made. -/
theorem owe_fresh (w : World) (l : List En) (cap : Nat) (hc : l.length ≤ cap) (hm : cap ≤ maxLen) :
    (w.drew.alloc (.cells ((ecs l).toArray ++ Builtin.zeroCells (Value.agg #[.int .i64 0, .string ⟨#[]⟩, .int .i64 0, .int .i64 0, .int .i64 0, .int .i64 0]).cells (cap - l.length)) 43)).ownsRow w.heap.size 43 6 (.slice (some ⟨w.heap.size, 0, none⟩) l.length cap) l.length (ecs l) ∧
    w.grownBy (w.drew.alloc (.cells ((ecs l).toArray ++ Builtin.zeroCells (Value.agg #[.int .i64 0, .string ⟨#[]⟩, .int .i64 0, .int .i64 0, .int .i64 0, .int .i64 0]).cells (cap - l.length)) 43)) none := by
  refine ⟨⟨by rw [ecs_length], .inr ⟨w.heap.size, cap, _, rfl, Nat.le_refl _, Go.heap_alloc_new w.drew _, hc, hm, ?_, ?_⟩⟩, ⟨rfl, rfl, rfl, by simp, fun k hk _ => Below.heap_alloc w.drew _ k hk⟩⟩
  · rw [Array.size_append, size_zeroCells]
    have : (Value.agg #[.int .i64 0, .string ⟨#[]⟩, .int .i64 0, .int .i64 0, .int .i64 0, .int .i64 0]).cells.size = 6 := rfl
    rw [this]
    simp [ecs_length]
    omega
  · simp only [Array.toList_append]
    rw [← ecs_length]
    exact List.take_left

/-- append(out, l...), out the call's own. -/
theorem append_runE {w : World} {B : Nat} {ao lao : Option Addr} {cap lcap d : Nat} {m l : List En} (ty st : TypeId) (hst : Try.prog.underlying st = some (.slice 43)) (hown : OwE w B (.slice ao m.length cap) m) (hb : ES w lao l d) (hl : lao = none → lcap = 0)
    (hsz : m.length + l.length ≤ 1000000) (hB : B ≤ w.heap.size) :
    ∃ ao' cap' w', (Builtin.append_ #[st, st] ty #[.slice ao m.length cap, .slice lao l.length lcap]).run Try.prog w = .ok (.slice ao' (m ++ l).length cap') w' ∧ OwE w' B (.slice ao' (m ++ l).length cap') (m ++ l) ∧
      w.grownBy w' (Value.ownBlock (.slice ao m.length cap)) ∧ (∀ a, ao' = some a → (∃ a', ao = some a' ∧ a'.block = a.block) ∨ w.heap.size ≤ a.block) ∧ (ao' = none → ao = none) ∧ OwE w' B (.slice ao m.length cap) m := by
  obtain ⟨i0, hi, hz0, hz1, hz2⟩ := info_entry
  have hmax : m.length + l.length ≤ maxLen := by unfold maxLen; omega
  have hml : (m ++ l).length = m.length + l.length := by simp
  cases lao with
  | none =>
    have := hb.none_nil
    subst this
    have := hl rfl
    subst this
    refine ⟨ao, cap, w, ?_, by simpa using hown, ⟨rfl, rfl, rfl, Nat.le_refl _, fun _ _ _ => rfl⟩, fun a ha => .inl ⟨a, ha, rfl⟩, fun h => h, hown⟩
    rw [List.append_nil]
    exact run_append_owned_none (P := Try.prog) (w := w) B st ty 43 i0 6 hst hi _ m.length (ecs m) hown
  | some a =>
    have hlen : (ecs l).length = l.length * 6 := ecs_length l
    rcases hown.2 with ⟨hv, h0⟩ | ⟨g, cap', cur, hv, hbg, hg, hnc, hcm, hcs, htake⟩
    · have hm0 : m = [] := List.eq_nil_of_length_eq_zero h0
      subst hm0
      simp at hv
      obtain ⟨rfl, rfl⟩ := hv
      by_cases hm : l.length = 0
      · obtain ⟨v', w', hr, ho, hgr, hiff⟩ := run_append_own (P := Try.prog) w B st ty 43 i0 (.agg #[.int .i64 0, .string ⟨#[]⟩, .int .i64 0, .int .i64 0, .int .i64 0, .int .i64 0]) 6 56 hst hi hz0 hz1 hz2 rfl (by decide) _ _ _ hown a l.length lcap (ecs l) hlen hb.cells (ecs_one l) (by simpa using hmax) (by simp at hsz ⊢; omega) hB
        have := hiff.2 ⟨rfl, hm⟩
        subst this
        have hl0 : l = [] := List.eq_nil_of_length_eq_zero hm
        subst hl0
        exact ⟨none, 0, w', hr, ho, hgr, (fun a ha => by cases ha), fun _ => rfl, owe_nil _ _⟩
      · have hr := run_append_nil (P := Try.prog) w st ty 43 i0 (.agg #[.int .i64 0, .string ⟨#[]⟩, .int .i64 0, .int .i64 0, .int .i64 0, .int .i64 0]) hst hi hz0 a l.length lcap (ecs l) (by rw [hz1]; exact hlen) hb.cells (by omega) (by omega) (by rw [hz2]; omega)
        obtain ⟨q1, q2⟩ := owe_fresh w l (grownCap w l.length 0 43) (grownCap_ge _ _ _ _) (grownCap_le_maxLen _ _ _ _ (by simpa using hmax))
        rw [List.nil_append]
        exact ⟨_, _, _, hr, owe_mono q1 hB, ⟨q2.os, q2.tape, q2.output, q2.size, fun k hk _ => q2.block k hk (by simp)⟩, fun b hb' => .inr (by simp at hb'; rw [← hb']; exact Nat.le_refl _), (fun h => by cases h), owe_nil _ _⟩
    · simp at hv
      obtain ⟨rfl, rfl⟩ := hv
      by_cases hroom : m.length + l.length ≤ cap
      · obtain ⟨w', hr, ho, hgr⟩ := run_append_fits (P := Try.prog) w B st ty 43 i0 6 hst hi hz1 g m.length cap (ecs m) hown a l.length lcap (ecs l) hlen hb.cells (ecs_one l) hroom
        rw [← ecs_append, ← hml] at ho
        rw [← hml] at hr
        have hold := owe_take ho m.length (by simp)
        rw [List.take_left] at hold
        exact ⟨some ⟨g, 0, none⟩, cap, w', hr, ho, hgr, fun a ha => .inl ⟨_, rfl, by simp at ha; rw [← ha]⟩, (fun h => by cases h), hold⟩
      · have hr := run_append_grow (P := Try.prog) w st ty 43 i0 (.agg #[.int .i64 0, .string ⟨#[]⟩, .int .i64 0, .int .i64 0, .int .i64 0, .int .i64 0]) hst hi hz0 ⟨g, 0, none⟩ m.length cap (ecs m) (by rw [hz1]; exact hown.1) (hown.cells (g := g) rfl) a l.length lcap (ecs l) (by rw [hz1]; exact hlen) hb.cells (by omega) (by omega) (by rw [hz2]; exact cap_fitsE (by omega) hsz)
        obtain ⟨q1, q2⟩ := owe_fresh w (m ++ l) (grownCap w (m.length + l.length) cap 43) (by rw [hml]; exact grownCap_ge _ _ _ _) (grownCap_le_maxLen _ _ _ _ hmax)
        have e : (ecs (m ++ l)).toArray = (ecs m).toArray ++ (ecs l).toArray := by simp [ecs_append]
        replace q1 := owe_mono q1 hB
        have hold := owe_only hown (Only.of_grown q2) (by simp)
        rw [e, hml] at q2 q1 hold
        rw [hml]
        exact ⟨_, _, _, hr, q1, ⟨q2.os, q2.tape, q2.output, q2.size, fun k hk _ => q2.block k hk (by simp)⟩, fun b hb' => .inr (by simp at hb'; rw [← hb']; exact Nat.le_refl _), (fun h => by cases h), hold⟩

/-- The same, for the walk. -/
theorem wpList_append_entries {w : World} {ops : Array Oper} {rest : List Oper} {o : Oper} {a : Act} {Q : Exit → Act → World → Prop} (hgd : o.guard = none) (s x : Operand) {st : TypeId} (hst : Try.prog.underlying st = some (.slice 43))
    (ho : o.op = .call { callee := .builtin .append, args := #[s, x], argTypes := #[st, st] })
    {B : Nat} {ao lao : Option Addr} {cap lcap d : Nat} {m l : List En} (hs : a.eval s = .slice ao m.length cap) (hx : a.eval x = .slice lao l.length lcap) (hown : OwE w B (.slice ao m.length cap) m) (hb : ES w lao l d) (hl : lao = none → lcap = 0)
    (hsz : m.length + l.length ≤ 1000000) (hB : B ≤ w.heap.size)
    (h : ∀ ao' cap' w', OwE w' B (.slice ao' (m ++ l).length cap') (m ++ l) → w.grownBy w' (Value.ownBlock (.slice ao m.length cap)) → (∀ a, ao' = some a → (∃ a', ao = some a' ∧ a'.block = a.block) ∨ w.heap.size ≤ a.block) → (ao' = none → ao = none) → OwE w' B (.slice ao m.length cap) m →
      wpList Try.prog ops Q rest (a.put o.dst (.slice ao' (m ++ l).length cap')) w') : wpList Try.prog ops Q (o :: rest) a w := by
  refine wpList_plain hgd fun K hK => ?_
  obtain ⟨ao', cap', w', hr, h1, h2, h3, h4, h5⟩ := append_runE o.type st hst hown hb hl hsz hB
  unfold Oper.wp execOp
  simp only [ho, resolve, invoke, builtin, Sem.run_bind, Sem.run_pure, Result.andThen_ok, List.map_toArray, List.map_cons, List.map_nil, hs, hx, hr]
  exact hK _ _ (h ao' cap' w' h1 h2 h3 h4 h5)

/-- The same, as a step of a region that draws its order. -/
theorem step_append_entries {w : World} {ops : Array Oper} {o : Oper} {a : Act} {K : Act → World → Prop} {Q : Exit → Act → World → Prop} {E : Prop} (hg : o.guard = none) (s x : Operand) {st : TypeId} (hst : Try.prog.underlying st = some (.slice 43))
    (hop : o.op = .call { callee := .builtin .append, args := #[s, x], argTypes := #[st, st] })
    {B : Nat} {ao lao : Option Addr} {cap lcap d : Nat} {m l : List En} (hs : a.eval s = .slice ao m.length cap) (hx : a.eval x = .slice lao l.length lcap) (hown : OwE w B (.slice ao m.length cap) m) (hb : ES w lao l d) (hl : lao = none → lcap = 0)
    (hsz : m.length + l.length ≤ 1000000) (hB : B ≤ w.heap.size)
    (h : ∀ ao' cap' w', OwE w' B (.slice ao' (m ++ l).length cap') (m ++ l) → w.grownBy w' (Value.ownBlock (.slice ao m.length cap)) → (∀ a, ao' = some a → (∃ a', ao = some a' ∧ a'.block = a.block) ∨ w.heap.size ≤ a.block) → (ao' = none → ao = none) → OwE w' B (.slice ao m.length cap) m →
      K (a.put o.dst (.slice ao' (m ++ l).length cap')) w') : if Region.wanted o (yielded ops a.tmps) = true then Oper.wp Try.prog o a w K Q else E := by
  have hw : Region.wanted o (yielded ops a.tmps) = true := by simp [Region.wanted, hg]
  rw [if_pos hw]
  obtain ⟨ao', cap', w', hr, h1, h2, h3, h4, h5⟩ := append_runE o.type st hst hown hb hl hsz hB
  unfold Oper.wp execOp
  simp only [hop, resolve, invoke, builtin, Sem.run_bind, Sem.run_pure, Result.andThen_ok, List.map_toArray, List.map_cons, List.map_nil, hs, hx, hr]
  exact h ao' cap' w' h1 h2 h3 h4 h5

end Go.Proofs.Ytcdjddakdlflmab
