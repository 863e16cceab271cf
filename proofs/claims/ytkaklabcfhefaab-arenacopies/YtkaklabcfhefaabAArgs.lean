/-
  The arguments of stage 15's laws. No conditions.
-/
import Derived.Test.YtkaklabcfhefaabAMade
import Derived.Test.YtkaklabcfhefaabAMem
import Derived.ProofKit
import Derived.OpenShut
import Derived.ShutString
import Derived.ChangeOld
import Derived.ChangeMaps5
import Derived.SizedLaws
import Derived.SliceStrings
import Derived.ChangeSame
import Derived.Deep.Strs
namespace Go.Proofs.Ytkaklabcfhefaab
open Go.ChangeShapes Go.WideShapes Go.ChangeAt Go.RowKit

theorem own : ownKnob Try.prog.godebug = none := by kernel_rfl
theorem laidOut : laidOutB Try.prog = true := by kernel_rfl

theorem list_of_each {α : Type} {P : Nat → α → Prop} (n : Nat) (h : ∀ j, j < n → ∃ y, P j y) : ∃ l : List α, l.length = n ∧ ∀ j (hj : j < l.length), P j l[j] := by
  induction n with
  | zero => exact ⟨[], rfl, fun j hj => by simp at hj⟩
  | succ n ih =>
    obtain ⟨l, hl, hp⟩ := ih (fun j hj => h j (by omega))
    obtain ⟨y, hy⟩ := h n (by omega)
    refine ⟨l ++ [y], by simp [hl], fun j hj => ?_⟩
    by_cases e : j < l.length
    · rw [List.getElem_append_left e]
      exact hp j e
    · have : j = l.length := by simp at hj; omega
      subst this
      rw [List.getElem_append_right (Nat.le_refl _)]
      simp
      rw [hl]
      exact hy

theorem bulk_mem {H : Type} (l : List (DataW H)) (d : DataW H) (h : d ∈ l) : Rows.uptoBulk d ≤ Rows.uptoBulkAll l := by
  induction l with
  | nil => cases h
  | cons x l ih =>
    simp only [Rows.uptoBulkAll]
    rcases List.mem_cons.1 h with rfl | h
    · omega
    · have := ih h
      omega

theorem bulk_pos {H : Type} (d : DataW H) : 1 ≤ Rows.uptoBulk d := by
  cases d with
  | lit x => cases x <;> simp [Rows.uptoBulk]
  | nil => simp [Rows.uptoBulk]
  | ptr d => simp [Rows.uptoBulk]
  | slice a b => simp [Rows.uptoBulk]
  | agg l => simp [Rows.uptoBulk]
  | iface t d => simp [Rows.uptoBulk]
  | map l => simp [Rows.uptoBulk]
  | held x => simp [Rows.uptoBulk]

theorem bulk_len {H : Type} (l : List (DataW H)) : l.length ≤ Rows.uptoBulkAll l := by
  induction l with
  | nil => simp
  | cons x l ih =>
    have := bulk_pos x
    simp only [Rows.uptoBulkAll, List.length_cons]
    omega

theorem els_flat' {α : Type} {k : Nat} (f : α → List Value) : ∀ l : List α, (∀ x ∈ l, (f x).length = k) → Els k (fun c x => c = f x) (l.flatMap f) l := by
  intro l
  induction l with
  | nil => exact fun _ => Els.nil _ _
  | cons x l ih =>
    intro hf
    have hx := hf x (by simp)
    have ih := ih fun y hy => hf y (by simp [hy])
    refine ⟨by rw [List.flatMap_cons, List.length_append, hx, ih.len, List.length_cons, Nat.add_mul]; omega, fun j hj => ?_⟩
    cases j with
    | zero =>
      rw [List.flatMap_cons, Nat.zero_mul, List.drop_zero, ← hx, List.take_left]
      rfl
    | succ j =>
      have := ih.el j (by simpa using hj)
      rw [List.getElem_cons_succ, ← this, List.flatMap_cons, Nat.add_mul, Nat.one_mul, Nat.add_comm, ← hx, ← List.drop_drop, List.drop_left]

section
variable {H : Type} {enc : TypeId × Value → H} {W : World}

/-- A slice that came in, whose elements take k cells each. -/
theorem cell_row {α : Type} {T e : TypeId} {k : Nat} (hT : Try.prog.underlying T = some (.slice e)) (hC : Try.prog.cellsOf e = k) (hk : 0 < k) {A : List Value → α → Nat → Prop}
    (each : ∀ (fuel : Nat) (cs : List Value) (x : DataW H × List MemPlace), DataW.trod enc Try.prog W 0 (fun _ => true) true fuel e cs = some x → ∃ y, A cs y (Rows.uptoBulk x.1))
    {fuel : Nat} {v : Value} {x : DataW H × List MemPlace} (hf : DataW.trod enc Try.prog W 0 (fun _ => true) true fuel T [v] = some x) :
    ∃ (l : List α) (cs : List Value), SlV W (fun _ => True) v l.length cs ∧ Els k (fun c y => ∃ b, b ≤ Rows.uptoBulk x.1 ∧ A c y b) cs l ∧ l.length ≤ Rows.uptoBulk x.1 := by
  rcases DataW.trod_slice hT hf with ⟨hcs, hx⟩ | ⟨a, len, cap, elems, rest, n, _, hcs, hx, _, hl, hm, hlen, hel, _, _⟩
  · obtain rfl : v = .slice none 0 0 := by simpa using hcs
    exact ⟨[], [], SlV.nil _ _, Els.nil _ _, by simp⟩
  · obtain rfl : v = .slice (some a) len cap := by simpa using hcs
    have hb : Rows.uptoBulkAll (elems.map (·.1)) ≤ Rows.uptoBulk x.1 := by
      rw [hx]
      simp only [Rows.uptoBulk]
      omega
    have each' : ∀ j, j < len → ∃ z : List Value × α, (z.1.length = k ∧ ∀ i, i < k → W.cell? ((a.add (j * k)).add i) = z.1[i]?) ∧ ∃ b, b ≤ Rows.uptoBulk x.1 ∧ A z.1 z.2 b := by
      intro j hj
      have hj' := hel j hj
      rw [hC] at hj'
      have hjl : j < elems.length := by omega
      rw [List.getElem?_eq_getElem hjl] at hj'
      obtain ⟨cs, hcs, htr⟩ := Option.bind_eq_some_iff.1 hj'
      obtain ⟨_, h1, h2⟩ := World.cells?_some hcs
      obtain ⟨y, hy⟩ := each _ _ _ htr
      refine ⟨(cs, y), ⟨h1, h2⟩, _, ?_, hy⟩
      have := bulk_mem (elems.map (·.1)) elems[j].1 (List.mem_map.2 ⟨elems[j], List.getElem_mem hjl, rfl⟩)
      omega
    obtain ⟨l', hll, hp⟩ := list_of_each len each'
    have hlk : ∀ z ∈ l', z.1.length = k := fun z hz => by
      obtain ⟨j, hj, rfl⟩ := List.getElem_of_mem hz
      exact (hp j hj).1.1
    have hE : Els k (fun c (z : List Value × α) => c = z.1) (l'.flatMap Prod.fst) l' := els_flat' Prod.fst l' hlk
    refine ⟨l'.map Prod.snd, l'.flatMap Prod.fst, ?_, ⟨by rw [hE.len, List.length_map], fun j hj => ?_⟩, ?_⟩
    · by_cases h0 : len = 0
      · have : l' = [] := List.eq_nil_of_length_eq_zero (by omega)
        subst this
        refine ⟨some a, cap, a.block, by simp [h0], RS.nil _ _ _, fun _ => trivial, by simp, by simp only [maxLen] at hm; omega, fun e => by cases e⟩
      · obtain ⟨b, off, spot⟩ := a
        have hc0 := (hp 0 (by omega)).1
        have hcz := hc0.2 0 hk
        rw [List.getElem?_eq_getElem (by omega)] at hcz
        have hspot : spot = none := by simpa [Addr.add] using World.cell?_spot hcz
        subst hspot
        refine ⟨some ⟨b, off, none⟩, cap, b, by simp [hll], .inr ⟨off, rfl, fun j u hj => ?_⟩, fun _ => trivial, by simp; omega, by simp only [maxLen] at hm; omega, fun e => by cases e⟩
        have hjl : j < (l'.flatMap Prod.fst).length := (List.getElem?_eq_some_iff.1 hj).1
        rw [hE.len] at hjl
        have hq : j / k < l'.length := Nat.div_lt_of_lt_mul (by rw [Nat.mul_comm]; exact hjl)
        have hel := hE.el (j / k) hq
        have hr : j % k < k := Nat.mod_lt _ hk
        have hj2 : j / k * k + j % k = j := by rw [Nat.mul_comm]; exact Nat.div_add_mod j k
        have hval : l'[j / k].1[j % k]? = some u := by
          rw [← hel, List.getElem?_take, if_pos hr, List.getElem?_drop, hj2]
          exact hj
        have hcell := (hp (j / k) hq).1.2 (j % k) hr
        rw [Addr.add_lit, Addr.add_lit, hval, Nat.add_assoc, hj2] at hcell
        exact hcell
    · have hj' : j < l'.length := by simpa using hj
      rw [hE.el j hj']
      simpa using (hp j hj').2
    · have := bulk_len (elems.map (·.1))
      simp at this ⊢
      omega

end

theorem els_flat_eq {α : Type} {k : Nat} {f : α → List Value} {cs : List Value} {l : List α} (h : Els k (fun c y => c = f y) cs l) (hk : 0 < k) (hf : ∀ x, (f x).length = k) : cs = l.flatMap f := by
  have h2 := els_flat f hf l
  apply List.ext_getElem?
  intro j
  by_cases hj : j < l.length * k
  · have hq : j / k < l.length := Nat.div_lt_of_lt_mul (by rw [Nat.mul_comm]; exact hj)
    have hr : j % k < k := Nat.mod_lt _ hk
    have hj2 : j / k * k + j % k = j := by rw [Nat.mul_comm]; exact Nat.div_add_mod j k
    have e1 : cs[j]? = (f l[j / k])[j % k]? := by rw [← h.el (j / k) hq, List.getElem?_take, if_pos hr, List.getElem?_drop, hj2]
    have e2 : (l.flatMap f)[j]? = (f l[j / k])[j % k]? := by rw [← h2.el (j / k) hq, List.getElem?_take, if_pos hr, List.getElem?_drop, hj2]
    rw [e1, e2]
  · rw [List.getElem?_eq_none (by rw [h.len]; omega), List.getElem?_eq_none (by rw [h2.len]; omega)]

theorem list_5 {α : Type} {l : List α} (h : l.length = 5) : ∃ a0 a1 a2 a3 a4, l = [a0, a1, a2, a3, a4] := by
  match l, h with
  | [a0, a1, a2, a3, a4], _ => exact ⟨a0, a1, a2, a3, a4, rfl⟩

section
variable {H : Type} {enc : TypeId × Value → H} {W : World}

theorem trod_field {t : TypeId} {fs : Array Field} {fuel : Nat} {cs : List Value} {x : DataW H × List MemPlace} (ht : Try.prog.underlying t = some (.struct fs)) (h : DataW.trod enc Try.prog W 0 (fun _ => true) true fuel t cs = some x) :
    cs.length = Try.prog.cellsOf t ∧ ∀ (i : Nat) (f : Field), fs[i]? = some f → ∃ (n : Nat) (y : DataW H × List MemPlace), DataW.trod enc Try.prog W 0 (fun _ => true) true n f.type ((cs.drop f.offset).take (Try.prog.cellsOf f.type)) = some y := by
  obtain ⟨xs, n, _, hx, hl, hlen, hf⟩ := DataW.trod_struct ht h
  refine ⟨hl, fun i f hi => ?_⟩
  have hi' : i < xs.length := by rw [hlen]; exact (Array.getElem?_eq_some_iff.1 hi).1
  have := hf i f hi
  rw [List.getElem?_eq_getElem hi'] at this
  exact ⟨n, xs[i], this⟩

theorem c_int : Try.prog.cellsOf 3 = 1 := by kernel_rfl
theorem c_i64 : Try.prog.cellsOf 2 = 1 := by kernel_rfl
theorem c_call : Try.prog.cellsOf 53 = 5 := by kernel_rfl

theorem i64_lit {x : Int} (h : (Lit.int .i64 x).wf = true) : i64 x := by
  have e0 : IntKind.i64.min = -9223372036854775808 := by decide
  have e1 : IntKind.i64.max = 9223372036854775807 := by decide
  simp only [Lit.wf, e0, e1, Bool.and_eq_true, decide_eq_true_eq] at h
  exact h

theorem e_call {fuel : Nat} {cs : List Value} {x : DataW H × List MemPlace} (h : DataW.trod enc Try.prog W 0 (fun _ => true) true fuel 53 cs = some x) : ∃ c : Cl, cs = clC c ∧ i64 c.1 ∧ i64 c.2.1 ∧ i64 c.2.2.1 ∧ i64 c.2.2.2.1 ∧ i64 c.2.2.2.2 := by
  obtain ⟨hl, hf⟩ := trod_field Try.underlying53 h
  rw [c_call] at hl
  obtain ⟨a0, a1, a2, a3, a4, rfl⟩ := list_5 hl
  obtain ⟨n0, y0, g0⟩ := hf 0 _ rfl
  obtain ⟨n1, y1, g1⟩ := hf 1 _ rfl
  obtain ⟨n2, y2, g2⟩ := hf 2 _ rfl
  obtain ⟨n3, y3, g3⟩ := hf 3 _ rfl
  obtain ⟨n4, y4, g4⟩ := hf 4 _ rfl
  simp only [List.getElem_toArray, List.getElem_cons_zero, List.getElem_cons_succ, c_int, c_i64, List.drop_zero, List.drop_succ_cons, List.take_succ_cons, List.take_zero] at g0 g1 g2 g3 g4
  obtain ⟨i0, e0, _, w0⟩ := DataW.trod_int Try.underlying3 g0
  obtain ⟨i1, e1, _, w1⟩ := DataW.trod_int Try.underlying3 g1
  obtain ⟨i2, e2, _, w2⟩ := DataW.trod_int Try.underlying3 g2
  obtain ⟨i3, e3, _, w3⟩ := DataW.trod_int Try.underlying2 g3
  obtain ⟨i4, e4, _, w4⟩ := DataW.trod_int Try.underlying2 g4
  simp only [List.cons.injEq, and_true] at e0 e1 e2 e3 e4
  subst e0 e1 e2 e3 e4
  exact ⟨(i0, i1, i2, i3, i4), rfl, i64_lit w0, i64_lit w1, i64_lit w2, i64_lit w3, i64_lit w4⟩

theorem els_all {α : Type} {k B : Nat} {f : α → List Value} {Q : α → Prop} {cs : List Value} {l : List α} (h : Els k (fun c y => ∃ b, b ≤ B ∧ (c = f y ∧ Q y)) cs l) : Els k (fun c y => c = f y) cs l ∧ ∀ y ∈ l, Q y := by
  refine ⟨h.imp fun _ _ _ ⟨_, _, h, _⟩ => h, fun y hy => ?_⟩
  obtain ⟨j, hj, rfl⟩ := List.getElem_of_mem hy
  obtain ⟨_, _, _, q⟩ := h.el j hj
  exact q

/-- Calls that came in. -/
theorem arg_calls {base : Nat} {d : DataW H} {p : List MemPlace} {v : Value} (hval : Value.okWide Try.prog W .any base 22 v) (h : DataW.Trod enc Try.prog W 0 (fun _ => true) true 22 v d p) : ∃ ao cap L k, v = .slice ao L.length cap ∧ ClS W ao L k ∧ L.length ≤ 9223372036854775807 := by
  obtain ⟨a0, len, cap, rfl⟩ := okWide_slice Try.underlying22 hval
  obtain ⟨fuel, hf⟩ := h
  obtain ⟨l, cs, h1, h2, _⟩ := cell_row (A := fun c (y : Cl) _ => c = clC y ∧ (i64 y.1 ∧ i64 y.2.1 ∧ i64 y.2.2.1 ∧ i64 y.2.2.2.1 ∧ i64 y.2.2.2.2)) Try.underlying22 c_call (by decide) (fun fuel cs x h => e_call h) (x := (d, p)) (fuel := fuel) (by simpa [Value.cells] using hf)
  obtain ⟨h3, h4⟩ := els_all h2
  have h5 := els_flat_eq h3 (by decide) (fun _ => rfl)
  obtain ⟨ao, cp, dd, hv, hS⟩ := h1
  refine ⟨ao, cp, l, dd, hv, ⟨?_, h4⟩, Nat.le_trans hS.le hS.max⟩
  have := hS.rs
  rw [h5] at this
  exact this
end

end Go.Proofs.Ytkaklabcfhefaab
