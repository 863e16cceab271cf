/-
  The contracts of an arena's Flip, object; the map of what was copied; a copy of bytes into a row that the call owns. No conditions beyond the receiver's own shape.
-/
import Derived.Test.YtkaklabcfhefaabAFlip
import Derived.Laws.CopyOwn
import Derived.Maps.Keyed
namespace Go.Proofs.Ytkaklabcfhefaab
open Go.RowKit

set_option linter.unusedSimpArgs false

section
variable {w : World} {N : Nat → Prop} {a : Nat} {s : SW}

theorem Flip_any (h : Ar w N a s) :
    Calls Try.prog 12 #[.pointer (some ⟨a, 0, none⟩)] w fun e w' => e = .returned (.tuple #[]) ∧ Ar w' N a ⟨s.m, [], [], s.ws, s.hs, some []⟩ ∧ Kep N w w' := by
  obtain ⟨v1, v2, v4, v5, v6, h⟩ := h
  obtain ⟨ab, cb, rfl⟩ := rows_slice h.r1
  obtain ⟨ah, ch, rfl⟩ := rows_slice h.r2
  obtain ⟨kb, kcb, rfl⟩ := rows_slice h.r4
  obtain ⟨kh, kch, rfl⟩ := rows_slice h.r5
  refine (flip_raw h.blk).mono ?_
  rintro e w' ⟨rfl, hb, hq, ho⟩
  have hsz := ho.size
  have key : ∀ {e : TypeId} {v : Value} {n : Nat} {xs : List Value}, e ≠ 34 → w.ownsRow 0 e 1 v n xs → w'.ownsRow 0 e 1 v n xs := fun he hr => rows_only hr ho fun g hg hm => row_ne hr h.blk he hg (by simpa using hm)
  have t1 := key (by decide) h.r1
  have t2 := key (by decide) h.r2
  have t4 := rows_take (key (by decide) h.r4) 0 (Nat.zero_le _)
  have t5 := rows_take (key (by decide) h.r5) 0 (Nat.zero_le _)
  simp only [Nat.zero_mul, List.take_zero] at t4 t5
  have hok := h.ok
  refine ⟨rfl, ⟨_, _, _, _, _, { blk := hb, r1 := t4, r2 := t5, r4 := t1, r5 := t2, mp := ⟨w.heap.size, #[], 0, rfl, hq, rfl, List.Pairwise.nil, (fun p hp => by cases hp)⟩, ap1 := (fun g h1 h2 => h.ap1 g h2 (by cases kb <;> exact h1)), ap2 := (fun g h1 h2 => h.ap2 g h2 (by cases kh <;> exact h1)), na := h.na, n1 := (fun g hg => h.n4 g (by cases kb <;> exact hg)), n2 := (fun g hg => h.n5 g (by cases kh <;> exact hg)), n4 := h.n1, n5 := h.n2, n6 := (fun q hq hn => by cases hq; have := h.lim _ hn; omega), lim := (fun b hb => Nat.lt_of_lt_of_le (h.lim b hb) hsz), ok := ⟨hok.m1, Nat.zero_le _, hok.fit, rfl, hok.same, (fun v hv => by cases hv), hok.all⟩ }⟩, .of ho (by simpa using h.na)⟩

/-- The map of what was copied: asked, and set. -/
theorem i64_wf (x : Int) (h : i64 x) : (Lit.int .i64 x).wf = true := by
  obtain ⟨h0, h1⟩ := h
  have e0 : IntKind.i64.min = -9223372036854775808 := by decide
  have e1 : IntKind.i64.max = 9223372036854775807 := by decide
  simp only [Lit.wf, e0, e1, Bool.and_eq_true, decide_eq_true_eq]
  exact ⟨h0, h1⟩

def lookM (L : List (Int × Int)) (x : Int) : Option Int := (L.find? fun p => p.1 == x).map (·.2)

theorem lookM_none {L : List (Int × Int)} {x : Int} (h : ∀ p ∈ L, p.1 ≠ x) : lookM L x = none := by
  unfold lookM
  rw [List.find?_eq_none.2 (fun p hp => by simpa using h p hp)]
  rfl

theorem lookM_at {L : List (Int × Int)} (hn : (L.map (·.1)).Nodup) {j : Nat} {p : Int × Int} (h : L[j]? = some p) : lookM L p.1 = some p.2 := by
  unfold lookM
  cases hf : L.find? (fun q => q.1 == p.1) with
  | none =>
    rw [List.find?_eq_none] at hf
    have := hf p (List.mem_of_getElem? h)
    simp at this
  | some q =>
    have h1 := List.find?_some hf
    simp at h1
    obtain ⟨i, hi⟩ := List.getElem?_of_mem (List.mem_of_find?_eq_some hf)
    have hij : i = j := by
      have a1 : (L.map (·.1))[i]? = some q.1 := by rw [List.getElem?_map, hi]; rfl
      have a2 : (L.map (·.1))[j]? = some p.1 := by rw [List.getElem?_map, h]; rfl
      have l1 : i < (L.map (·.1)).length := (List.getElem?_eq_some_iff.1 a1).1
      exact (List.getElem?_inj l1 hn).1 (by rw [a1, a2, h1])
    subst hij
    rw [hi] at h
    cases h
    rfl

theorem law41 : Maps.Keyed Try.prog 2   := Maps.int_keyed Try.underlying2
theorem key41 (x : Int) (h : i64 x) : keyOf Try.prog 2 (.int .i64 x) = some (.int .i64 x) := Maps.keyOf_int_mk Try.underlying2 (i64_wf x h)

theorem ent_at {es : Array MapEntry} {L : List (Int × Int)} (hl : es.toList.map (fun e => (e.key, e.val)) = L.map (fun p => (Value.int .i64 p.1, Value.int .i64 p.2))) {j : Nat} {e : MapEntry} (h : es.toList[j]? = some e) : ∃ p, L[j]? = some p ∧ e.key = .int .i64 p.1 ∧ e.val = .int .i64 p.2 := by
  have h1 : (es.toList.map (fun e => (e.key, e.val)))[j]? = some (e.key, e.val) := by rw [List.getElem?_map, h]; rfl
  rw [hl, List.getElem?_map] at h1
  cases hp : L[j]? with
  | none => rw [hp] at h1; cases h1
  | some p =>
    rw [hp] at h1
    simp at h1
    exact ⟨p, rfl, h1.1.symm, h1.2.symm⟩

theorem ents_keyed {es : Array MapEntry} {L : List (Int × Int)} (hl : es.toList.map (fun e => (e.key, e.val)) = L.map (fun p => (Value.int .i64 p.1, Value.int .i64 p.2))) (hk : ∀ p ∈ L, i64 p.1) : ∀ e ∈ es.toList, ∃ l, keyOf Try.prog 2 e.key = some l := by
  intro e he
  obtain ⟨j, hj⟩ := List.getElem?_of_mem he
  obtain ⟨p, hp, h1, _⟩ := ent_at hl hj
  exact ⟨_, by rw [h1]; exact key41 _ (hk p (List.mem_of_getElem? hp))⟩

theorem look_run {v : Value} {L : List (Int × Int)} (h : MapV w v (some L)) (x : Int) (hx : i64 x) :
    (Instr.lookup 32 v (.int .i64 x) true).run Try.prog w = .ok (.tuple #[.int .i64 ((lookM L x).getD 0), .bool (lookM L x).isSome]) w := by
  obtain ⟨q, es, clock, rfl, hq, hl, hn, hk⟩ := h
  obtain ⟨i0, hi, hz0, hz1, hz2⟩ := info_parts infoI
  have hz : (zeroValue 2).run Try.prog w = .ok (.int .i64 0) w := by simp [zeroValue, typeInfo, hi, hz0]
  rcases law41.find w (key41 x hx) es.toList (ents_keyed hl hk) with ⟨h1, h2⟩ | ⟨j, e0, h1, h2, h3⟩
  · have hL : lookM L x = none := by
      refine lookM_none fun p hp e => ?_
      obtain ⟨j, hj⟩ := List.getElem?_of_mem hp
      have : (es.toList.map (fun e => (e.key, e.val)))[j]? = some (.int .i64 p.1, .int .i64 p.2) := by rw [hl, List.getElem?_map, hj]; rfl
      rw [List.getElem?_map] at this
      cases he : es.toList[j]? with
      | none => rw [he] at this; cases this
      | some e1 =>
        rw [he] at this
        simp at this
        exact h2 e1 (List.mem_of_getElem? he) (by rw [this.1, e])
    rw [hL]
    simp [Instr.lookup, run_underlying Try.underlying32, MapKept.run_getObj_map hq, law41.check w _ (key41 x hx), h1, hz, Result.andThen]
  · obtain ⟨p, hp, k1, k2⟩ := ent_at hl h2
    have hpx : p.1 = x := by
      rw [h3] at k1
      simp at k1
      exact k1.symm
    have hL := lookM_at hn hp
    rw [hpx] at hL
    rw [hL]
    simp [Instr.lookup, run_underlying Try.underlying32, MapKept.run_getObj_map hq, law41.check w _ (key41 x hx), h1, k2, Result.andThen]

theorem upd_run {v : Value} {L : List (Int × Int)} (h : MapV w v (some L)) (x y : Int) (hx : i64 x) (hno : lookM L x = none) :
    ∃ q w', v = .map (some q) ∧ (Instr.mapUpdate 32 v (.int .i64 x) (.int .i64 y)).run Try.prog w = .ok () w' ∧ MapV w' v (some (L ++ [(x, y)])) ∧ Only [q] w w' := by
  obtain ⟨q, es, clock, rfl, hq, hl, hn, hk⟩ := h
  have hall : ∀ p ∈ L, p.1 ≠ x := by
    intro p hp e
    unfold lookM at hno
    simp at hno
    exact hno p.1 p.2 hp e
  rcases law41.find w (key41 x hx) es.toList (ents_keyed hl hk) with ⟨h1, h2⟩ | ⟨j, e0, h1, h2, h3⟩
  · refine ⟨q, ChangeMaps.setBlock w q (.map (es.push ⟨.int .i64 x, .int .i64 y, clock⟩) (clock + 1)), rfl, ?_, ⟨q, _, _, rfl, ChangeMaps.heap_setBlock_same hq _, ?_, ?_, ?_⟩, ?_⟩
    · simp [Instr.mapUpdate, run_underlying Try.underlying32, MapKept.run_getObj_map hq, law41.check w false (key41 x hx), h1, MapKept.run_setObj_map _ hq, Result.andThen, ChangeMaps.setBlock]
    · simp [hl]
    · rw [List.map_append, List.nodup_append]
      refine ⟨hn, by simp, fun u hu v hv => ?_⟩
      simp at hv
      subst hv
      obtain ⟨p, hp, rfl⟩ := List.mem_map.1 hu
      exact hall p hp
    · intro p hp
      rcases List.mem_append.1 hp with c | c
      · exact hk p c
      · simp at c
        subst c
        exact hx
    · exact ⟨rfl, rfl, rfl, by simp [ChangeMaps.setBlock], fun b hb hS => by simp at hS; simp [ChangeMaps.setBlock, Array.getElem?_setIfInBounds, Ne.symm hS]⟩
  · obtain ⟨p, hp, k1, k2⟩ := ent_at hl h2
    rw [h3] at k1
    simp at k1
    exact absurd k1.symm (hall p (List.mem_of_getElem? hp))

end
end Go.Proofs.Ytkaklabcfhefaab
