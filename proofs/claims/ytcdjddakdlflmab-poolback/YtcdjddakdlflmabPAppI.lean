/-
  rows of numbers; append of numbers onto a row of the call's own. All of it is at most a million numbers.
-/
import Derived.Test.YtcdjddakdlflmabDApp
import Derived.Test.YtcdjddakdlflmabPEnt
import Derived.Laws.AppendOwnNone
import Derived.Deep.RegionLaw
namespace Go.Proofs.Ytcdjddakdlflmab
open Go.RowKit

/-- Numbers as cells. -/
def ics (l : List Int) : List Value := l.map fun x => .int .i64 x

theorem ics_length (l : List Int) : (ics l).length = l.length * 1 := by simp [ics]
theorem ics_append (a b : List Int) : ics (a ++ b) = ics a ++ ics b := by simp [ics]
theorem ics_one (l : List Int) : ∀ u ∈ ics l, u.oneCell' = true := by
  intro u hu
  obtain ⟨x, _, rfl⟩ := List.mem_map.1 hu
  rfl

theorem infoI : (Try.prog.info? 3).map (fun i => (i.zero, i.size, i.bytes)) = some (some (.int .i64 0), 1, 8) := by kernel_rfl

/-- Numbers of a slice that is read. -/
def IS (w : World) (ao : Option Addr) (l : List Int) (d : Nat) : Prop :=
  l = [] ∨ ∃ off, ao = some ⟨d, off, none⟩ ∧ ∀ j (h : j < l.length), w.cell? ⟨d, off + j, none⟩ = some (.int .i64 l[j])

theorem IS.none_nil {w : World} {l : List Int} {d : Nat} (h : IS w none l d) : l = [] := by
  rcases h with h | ⟨off, ha, _⟩
  · exact h
  · cases ha

theorem IS.cells {w : World} {a : Addr} {l : List Int} {d : Nat} (h : IS w (some a) l d) : ∀ j u, (ics l)[j]? = some u → w.cell? (a.add j) = some u := by
  intro j u hu
  have hj : j < l.length := by
    have := (List.getElem?_eq_some_iff.1 hu).1
    simpa [ics] using this
  rcases h with h | ⟨off, ha, hc⟩
  · rw [h] at hj
    simp at hj
  · cases ha
    rw [Addr.add_lit, hc j hj, ← hu]
    simp [ics, hj]

abbrev OwI (w : World) (B : Nat) (v : Value) (l : List Int) : Prop := w.ownsRow B 3 1 v l.length (ics l)

theorem owi_nil (w : World) (B : Nat) : OwI w B (.slice none 0 0) [] := World.ownsRow_nil _ _ _ _

theorem owi_mono {w : World} {B C : Nat} {v : Value} {l : List Int} (h : OwI w B v l) (hC : C ≤ B) : OwI w C v l := by
  refine ⟨h.1, ?_⟩
  rcases h.2 with q | ⟨g, cap, cur, q1, q2, q3⟩
  · exact .inl q
  · exact .inr ⟨g, cap, cur, q1, by omega, q3⟩

theorem owi_only {w w' : World} {B : Nat} {S : List Nat} {v : Value} {l : List Int} (h : OwI w B v l) (ho : Only S w w') (hn : ∀ k, v.ownBlock = some k → k ∉ S) : OwI w' B v l := by
  refine ⟨h.1, ?_⟩
  rcases h.2 with q | ⟨g, cap, cur, q1, q2, q3, q4⟩
  · exact .inl q
  · subst q1
    exact .inr ⟨g, cap, cur, rfl, q2, by rw [ho.block g (Array.getElem?_eq_some_iff.1 q3).1 (hn g rfl)]; exact q3, q4⟩

theorem owi_take {w : World} {B : Nat} {ao : Option Addr} {cap : Nat} {l : List Int} (h : OwI w B (.slice ao l.length cap) l) (n : Nat) (hn : n ≤ l.length) : OwI w B (.slice ao n cap) (l.take n) := by
  have hl : (l.take n).length = n := by simp; omega
  refine ⟨by rw [ics_length], ?_⟩
  rcases h.2 with ⟨hv, h0⟩ | ⟨g, cap', cur, hv, hb, hg, hc, hm, hs, ht⟩
  · simp only [Value.slice.injEq] at hv
    obtain ⟨rfl, _, rfl⟩ := hv
    have : n = 0 := by omega
    subst this
    exact .inl ⟨rfl, by simp⟩
  · simp at hv
    obtain ⟨rfl, rfl⟩ := hv
    refine .inr ⟨g, cap, cur, by rw [hl], hb, hg, by omega, hm, hs, ?_⟩
    rw [hl]
    have : ics (l.take n) = (ics l).take n := by simp [ics, List.map_take]
    rw [this, ← ht, List.take_take]
    congr 1
    omega

theorem owi_at {w : World} {B : Nat} {ao : Option Addr} {cap : Nat} {l : List Int} (h : OwI w B (.slice ao l.length cap) l) : (∀ a, ao = some a → B ≤ a.block ∧ a.block < w.heap.size ∧ a = ⟨a.block, 0, none⟩) ∧ ∀ j (hj : j < l.length), ∃ g, ao = some ⟨g, 0, none⟩ ∧ w.cell? ⟨g, j, none⟩ = some (.int .i64 l[j]) := by
  rcases h.2 with ⟨hv, h0⟩ | ⟨g, cap', cur, hv, hb, hg, hn, hm, hs, ht⟩
  · simp only [Value.slice.injEq] at hv
    obtain ⟨rfl, _, rfl⟩ := hv
    exact ⟨(fun a ha => by cases ha), fun j hj => by omega⟩
  · simp at hv
    obtain ⟨rfl, rfl⟩ := hv
    refine ⟨fun a ha => ?_, fun j hj => ⟨g, rfl, ?_⟩⟩
    · simp at ha
      subst ha
      exact ⟨hb, (Array.getElem?_eq_some_iff.1 hg).1, rfl⟩
    · have k := h.cells (g := g) rfl j (.int .i64 l[j]) (by simp [ics, hj])
      rw [Addr.add_lit] at k
      simpa using k

theorem cap_fitsI {need old : Nat} (h : old < need) (hn : need ≤ 1000000) : Builtin.nextslicecap need old * 8 ≤ 281474976710656 := by
  have := grow_le need 4 old (by omega)
  unfold Builtin.nextslicecap
  split
  · omega
  · split
    · omega
    · omega

theorem info_int : ∃ i0, Try.prog.info? 3 = some i0 ∧ i0.zero = some (.int .i64 0) ∧ i0.size = 1 ∧ i0.bytes = 8 := by
  have h := infoI
  cases hi : Try.prog.info? 3 with
  | none => rw [hi] at h; cases h
  | some i =>
    rw [hi] at h
    simp at h
    exact ⟨i, rfl, h.1, h.2.1, h.2.2⟩

/-- A new row that an append has made. -/
theorem owi_fresh (w : World) (l : List Int) (cap : Nat) (hc : l.length ≤ cap) (hm : cap ≤ maxLen) :
    (w.drew.alloc (.cells ((ics l).toArray ++ Builtin.zeroCells (Value.int .i64 0).cells (cap - l.length)) 3)).ownsRow w.heap.size 3 1 (.slice (some ⟨w.heap.size, 0, none⟩) l.length cap) l.length (ics l) ∧
    w.grownBy (w.drew.alloc (.cells ((ics l).toArray ++ Builtin.zeroCells (Value.int .i64 0).cells (cap - l.length)) 3)) none := by
  refine ⟨⟨by rw [ics_length], .inr ⟨w.heap.size, cap, _, rfl, Nat.le_refl _, Go.heap_alloc_new w.drew _, hc, hm, ?_, ?_⟩⟩, ⟨rfl, rfl, rfl, by simp, fun k hk _ => Below.heap_alloc w.drew _ k hk⟩⟩
  · rw [Array.size_append, size_zeroCells]
    have : (Value.int .i64 0).cells.size = 1 := rfl
    rw [this]
    simp [ics_length]
    omega
  · simp only [Array.toList_append]
    rw [← ics_length]
    exact List.take_left

/-- append(out, l...), out the call's own. -/
theorem append_runI {w : World} {B : Nat} {ao lao : Option Addr} {cap lcap d : Nat} {m l : List Int} (ty st : TypeId) (hst : Try.prog.underlying st = some (.slice 3)) (hown : OwI w B (.slice ao m.length cap) m) (hb : IS w lao l d) (hl : lao = none → lcap = 0)
    (hsz : m.length + l.length ≤ 1000000) (hB : B ≤ w.heap.size) :
    ∃ ao' cap' w', (Builtin.append_ #[st, st] ty #[.slice ao m.length cap, .slice lao l.length lcap]).run Try.prog w = .ok (.slice ao' (m ++ l).length cap') w' ∧ OwI w' B (.slice ao' (m ++ l).length cap') (m ++ l) ∧
      w.grownBy w' (Value.ownBlock (.slice ao m.length cap)) ∧ (∀ a, ao' = some a → (∃ a', ao = some a' ∧ a'.block = a.block) ∨ w.heap.size ≤ a.block) ∧ (ao' = none → ao = none) ∧ OwI w' B (.slice ao m.length cap) m := by
  obtain ⟨i0, hi, hz0, hz1, hz2⟩ := info_int
  have hmax : m.length + l.length ≤ maxLen := by unfold maxLen; omega
  have hml : (m ++ l).length = m.length + l.length := by simp
  cases lao with
  | none =>
    have := hb.none_nil
    subst this
    have := hl rfl
    subst this
    refine ⟨ao, cap, w, ?_, by simpa using hown, ⟨rfl, rfl, rfl, Nat.le_refl _, fun _ _ _ => rfl⟩, fun a ha => .inl ⟨a, ha, rfl⟩, fun h => h, hown⟩
    rw [List.append_nil]
    exact run_append_owned_none (P := Try.prog) (w := w) B st ty 3 i0 1 hst hi _ m.length (ics m) hown
  | some a =>
    have hlen : (ics l).length = l.length * 1 := ics_length l
    rcases hown.2 with ⟨hv, h0⟩ | ⟨g, cap', cur, hv, hbg, hg, hnc, hcm, hcs, htake⟩
    · have hm0 : m = [] := List.eq_nil_of_length_eq_zero h0
      subst hm0
      simp at hv
      obtain ⟨rfl, rfl⟩ := hv
      by_cases hm : l.length = 0
      · obtain ⟨v', w', hr, ho, hgr, hiff⟩ := run_append_own (P := Try.prog) w B st ty 3 i0 (.int .i64 0) 1 8 hst hi hz0 hz1 hz2 rfl (by decide) _ _ _ hown a l.length lcap (ics l) hlen hb.cells (ics_one l) (by simpa using hmax) (by simp at hsz ⊢; omega) hB
        have := hiff.2 ⟨rfl, hm⟩
        subst this
        have hl0 : l = [] := List.eq_nil_of_length_eq_zero hm
        subst hl0
        exact ⟨none, 0, w', hr, ho, hgr, (fun a ha => by cases ha), fun _ => rfl, owi_nil _ _⟩
      · have hr := run_append_nil (P := Try.prog) w st ty 3 i0 (.int .i64 0) hst hi hz0 a l.length lcap (ics l) (by rw [hz1]; exact hlen) hb.cells (by omega) (by omega) (by rw [hz2]; omega)
        obtain ⟨q1, q2⟩ := owi_fresh w l (grownCap w l.length 0 3) (grownCap_ge _ _ _ _) (grownCap_le_maxLen _ _ _ _ (by simpa using hmax))
        rw [List.nil_append]
        exact ⟨_, _, _, hr, owi_mono q1 hB, ⟨q2.os, q2.tape, q2.output, q2.size, fun k hk _ => q2.block k hk (by simp)⟩, fun b hb' => .inr (by simp at hb'; rw [← hb']; exact Nat.le_refl _), (fun h => by cases h), owi_nil _ _⟩
    · simp at hv
      obtain ⟨rfl, rfl⟩ := hv
      by_cases hroom : m.length + l.length ≤ cap
      · obtain ⟨w', hr, ho, hgr⟩ := run_append_fits (P := Try.prog) w B st ty 3 i0 1 hst hi hz1 g m.length cap (ics m) hown a l.length lcap (ics l) hlen hb.cells (ics_one l) hroom
        rw [← ics_append, ← hml] at ho
        rw [← hml] at hr
        have hold := owi_take ho m.length (by simp)
        rw [List.take_left] at hold
        exact ⟨some ⟨g, 0, none⟩, cap, w', hr, ho, hgr, fun a ha => .inl ⟨_, rfl, by simp at ha; rw [← ha]⟩, (fun h => by cases h), hold⟩
      · have hr := run_append_grow (P := Try.prog) w st ty 3 i0 (.int .i64 0) hst hi hz0 ⟨g, 0, none⟩ m.length cap (ics m) (by rw [hz1]; exact hown.1) (hown.cells (g := g) rfl) a l.length lcap (ics l) (by rw [hz1]; exact hlen) hb.cells (by omega) (by omega) (by rw [hz2]; exact cap_fitsI (by omega) hsz)
        obtain ⟨q1, q2⟩ := owi_fresh w (m ++ l) (grownCap w (m.length + l.length) cap 3) (by rw [hml]; exact grownCap_ge _ _ _ _) (grownCap_le_maxLen _ _ _ _ hmax)
        have e : (ics (m ++ l)).toArray = (ics m).toArray ++ (ics l).toArray := by simp [ics_append]
        replace q1 := owi_mono q1 hB
        have hold := owi_only hown (Only.of_grown q2) (by simp)
        rw [e, hml] at q2 q1 hold
        rw [hml]
        exact ⟨_, _, _, hr, q1, ⟨q2.os, q2.tape, q2.output, q2.size, fun k hk _ => q2.block k hk (by simp)⟩, fun b hb' => .inr (by simp at hb'; rw [← hb']; exact Nat.le_refl _), (fun h => by cases h), hold⟩

/-- The same, for the walk. -/
theorem wpList_append_ints {w : World} {ops : Array Oper} {rest : List Oper} {o : Oper} {a : Act} {Q : Exit → Act → World → Prop} (hgd : o.guard = none) (s x : Operand) {st : TypeId} (hst : Try.prog.underlying st = some (.slice 3))
    (ho : o.op = .call { callee := .builtin .append, args := #[s, x], argTypes := #[st, st] })
    {B : Nat} {ao lao : Option Addr} {cap lcap d : Nat} {m l : List Int} (hs : a.eval s = .slice ao m.length cap) (hx : a.eval x = .slice lao l.length lcap) (hown : OwI w B (.slice ao m.length cap) m) (hb : IS w lao l d) (hl : lao = none → lcap = 0)
    (hsz : m.length + l.length ≤ 1000000) (hB : B ≤ w.heap.size)
    (h : ∀ ao' cap' w', OwI w' B (.slice ao' (m ++ l).length cap') (m ++ l) → w.grownBy w' (Value.ownBlock (.slice ao m.length cap)) → (∀ a, ao' = some a → (∃ a', ao = some a' ∧ a'.block = a.block) ∨ w.heap.size ≤ a.block) → (ao' = none → ao = none) → OwI w' B (.slice ao m.length cap) m →
      wpList Try.prog ops Q rest (a.put o.dst (.slice ao' (m ++ l).length cap')) w') : wpList Try.prog ops Q (o :: rest) a w := by
  refine wpList_plain hgd fun K hK => ?_
  obtain ⟨ao', cap', w', hr, h1, h2, h3, h4, h5⟩ := append_runI o.type st hst hown hb hl hsz hB
  unfold Oper.wp execOp
  simp only [ho, resolve, invoke, builtin, Sem.run_bind, Sem.run_pure, Result.andThen_ok, List.map_toArray, List.map_cons, List.map_nil, hs, hx, hr]
  exact hK _ _ (h ao' cap' w' h1 h2 h3 h4 h5)

/-- The same, as a step of a region that draws its order. -/
theorem step_append_ints {w : World} {ops : Array Oper} {o : Oper} {a : Act} {K : Act → World → Prop} {Q : Exit → Act → World → Prop} {E : Prop} (hg : o.guard = none) (s x : Operand) {st : TypeId} (hst : Try.prog.underlying st = some (.slice 3))
    (hop : o.op = .call { callee := .builtin .append, args := #[s, x], argTypes := #[st, st] })
    {B : Nat} {ao lao : Option Addr} {cap lcap d : Nat} {m l : List Int} (hs : a.eval s = .slice ao m.length cap) (hx : a.eval x = .slice lao l.length lcap) (hown : OwI w B (.slice ao m.length cap) m) (hb : IS w lao l d) (hl : lao = none → lcap = 0)
    (hsz : m.length + l.length ≤ 1000000) (hB : B ≤ w.heap.size)
    (h : ∀ ao' cap' w', OwI w' B (.slice ao' (m ++ l).length cap') (m ++ l) → w.grownBy w' (Value.ownBlock (.slice ao m.length cap)) → (∀ a, ao' = some a → (∃ a', ao = some a' ∧ a'.block = a.block) ∨ w.heap.size ≤ a.block) → (ao' = none → ao = none) → OwI w' B (.slice ao m.length cap) m →
      K (a.put o.dst (.slice ao' (m ++ l).length cap')) w') : if Region.wanted o (yielded ops a.tmps) = true then Oper.wp Try.prog o a w K Q else E := by
  have hw : Region.wanted o (yielded ops a.tmps) = true := by simp [Region.wanted, hg]
  rw [if_pos hw]
  obtain ⟨ao', cap', w', hr, h1, h2, h3, h4, h5⟩ := append_runI o.type st hst hown hb hl hsz hB
  unfold Oper.wp execOp
  simp only [hop, resolve, invoke, builtin, Sem.run_bind, Sem.run_pure, Result.andThen_ok, List.map_toArray, List.map_cons, List.map_nil, hs, hx, hr]
  exact h ao' cap' w' h1 h2 h3 h4 h5

end Go.Proofs.Ytcdjddakdlflmab
