/-
  append(out, make([]T, n)...): a row that the call owns grows by n zeros. Elements of one cell; at most eight million.
-/
import Derived.Test.YtkaklabcfhefaabIRow
import Derived.Test.YtkaklabcfhefaabGPlain
namespace Go.Proofs.Ytkaklabcfhefaab
open Go.RowKit

set_option linter.unusedSimpArgs false

theorem zeros_list (z : Value) (n : Nat) : Builtin.zeroCells #[z] n = (List.replicate n z).toArray := by
  apply Array.ext'
  apply List.ext_getElem?
  intro j
  unfold Builtin.zeroCells
  by_cases hj : j < n
  · simp [hj, Nat.mod_one]
  · simp [hj]

theorem append_makeG {w : World} {B : Nat} {ao : Option Addr} {cap m l nb : Nat} {e it : TypeId} {ik : IntKind} {z : Value} {xs : List Value} (hE : ElT e z 1 nb) (hz1 : z.cells = #[z]) (hone : z.oneCell' = true) (ty st : TypeId) (hst : Try.prog.underlying st = some (.slice e)) (hit : Try.prog.underlying it = some (.int ik))
    (hown : w.ownsRow B e 1 (.slice ao m cap) m xs) (x : Int) (hx : x = (l : Int)) (hsz : m + l ≤ 8000000) (hB : B ≤ w.heap.size) :
    ∃ ao' cap' w', (Builtin.append_ #[st, it] ty #[.slice ao m cap, .int .i64 x]).run Try.prog w = .ok (.slice ao' (m + l) cap') w' ∧ w'.ownsRow B e 1 (.slice ao' (m + l) cap') (m + l) (xs ++ List.replicate l z) ∧
      w.grownBy w' (Value.ownBlock (.slice ao m cap)) ∧ (∀ a, ao' = some a → (∃ a', ao = some a' ∧ a'.block = a.block) ∨ w.heap.size ≤ a.block) ∧ (ao' = none → ao = none) := by
  subst hx
  obtain ⟨i0, hi, hz0, hsz1, hnb⟩ := hE.parts
  have hmax : m + l ≤ maxLen := by unfold maxLen; omega
  have hxl : xs.length = m := by simpa using hown.1
  have hwr : IntKind.i64.wrap (l : Int) = (l : Int) := by rw [IntKind.wrap_i64]; omega
  have hw0 : ¬ ((l : Int) < 0) := by omega
  have hwr0 : IntKind.i64.wrap 0 = 0 := by rw [IntKind.wrap_i64]; rfl
  have hnb' : nb ≤ 4096 := hE.few
  have hb : ¬ ((281474976710656 : Int) < (l : Int) * (i0.bytes : Int)) := by
    rw [hnb]
    have : l * nb ≤ 8000000 * 4096 := Nat.mul_le_mul (by omega) hnb'
    have : (l : Int) * (nb : Int) = ((l * nb : Nat) : Int) := by simp
    omega
  have h63 : ¬ ((9223372036854775807 : Int) < (m : Int) + (l : Int)) := by omega
  by_cases hroom : m + l ≤ cap
  · rcases hown.2 with ⟨hv, h0⟩ | ⟨g, cap', cur, hv, hbg, hg, hnc, hcm, hcs, htake⟩
    · simp only [Value.slice.injEq] at hv
      obtain ⟨rfl, _, rfl⟩ := hv
      have hl0 : l = 0 := by omega
      subst hl0 h0
      refine ⟨none, 0, w, ?_, by simpa using hown, ⟨rfl, rfl, rfl, Nat.le_refl _, fun _ _ _ => rfl⟩, (fun a ha => by cases ha), fun _ => rfl⟩
      simp [Builtin.append_, run_underlying hst, run_underlying hit, sizeOf, typeInfo, zeroValue, hi, hz0, hsz1, hwr, hwr0, asInt, asIntOf, Question.forced]
    · simp only [Value.slice.injEq, true_and] at hv
      obtain ⟨rfl, rfl⟩ := hv
      have hcs' : cur.size = cap := by simpa using hcs
      have hst' := run_storeCells_at (P := Try.prog) g m e (List.replicate l z) 0 cur w hg (by simp; omega) (by intro v hv; rw [List.eq_of_mem_replicate hv]; exact hone)
      refine ⟨some ⟨g, 0, none⟩, cap, w.setRow g (cur.toList.take m ++ List.replicate l z ++ cur.toList.drop (m + l)).toArray, ?_, ⟨by simp [hxl], .inr ⟨g, cap, _, rfl, hbg, setRow_heap w g cur _ e _ hg, hroom, hcm, ?_, ?_⟩⟩,
        ⟨rfl, rfl, rfl, by simp, fun k _ hk => setRow_other w g k _ (fun e => hk (by simp [Value.ownBlock, e]))⟩, (fun a ha => .inl ⟨_, rfl, by simp at ha; rw [← ha]⟩), (fun h => by cases h)⟩
      · by_cases hl0 : l = 0
        · subst hl0
          simp [Builtin.append_, run_underlying hst, run_underlying hit, sizeOf, typeInfo, zeroValue, hi, hz0, hsz1, hwr, hwr0, asInt, asIntOf, Question.forced, hnc, storeCells]
          exact (setRow_self w g cur e (0, 0) hg).symm
        · have hadd : (⟨g, 0, none⟩ : Addr).add m = ⟨g, m, none⟩ := by unfold Addr.add; split <;> simp_all
          simp only [Nat.add_zero, List.length_replicate] at hst'
          simp [Builtin.append_, run_underlying hst, run_underlying hit, sizeOf, typeInfo, zeroValue, hi, hz0, hsz1, hwr, hwr0, asInt, asIntOf, Question.forced, hw0, hb, hl0, hroom, hz1, zeros_list, hadd, hst']
      · simp only [List.size_toArray, List.length_append, List.length_take, List.length_drop, Array.length_toList, List.length_replicate]
        omega
      · have ht' : cur.toList.take m = xs := by simpa using htake
        simp only [List.toList_toArray, ht', Nat.mul_one]
        rw [show m + l = (xs ++ List.replicate l z).length by simp [hxl]]
        exact List.take_left
  · have hfit := capG (n := nb) (show cap < m + l by omega) hsz hnb'
    have hfit' : ¬ (281474976710656 < Builtin.nextslicecap (m + l) cap * i0.bytes) := by rw [hnb]; omega
    have hl0 : ¬ l = 0 := by
      intro e
      obtain ⟨_, h, _⟩ := RS.of_owns hown
      omega
    obtain ⟨q1, q2⟩ := rows_fresh hE w (xs ++ List.replicate l z) (m + l) (grownCap w (m + l) cap e) (by simp [hxl]) (grownCap_ge _ _ _ _) (grownCap_le_maxLen _ _ _ _ hmax)
    refine ⟨some ⟨w.heap.size, 0, none⟩, grownCap w (m + l) cap e, _, ?_, rows_mono q1 hB, ⟨q2.os, q2.tape, q2.output, q2.size, fun k hk _ => q2.block k hk (by simp)⟩, (fun b hb' => .inr (by simp at hb'; rw [← hb']; exact Nat.le_refl _)), (fun h => by cases h)⟩
    have e1 : (xs ++ List.replicate l z).toArray = xs.toArray ++ (List.replicate l z).toArray := by simp
    rw [e1]
    rcases hown.2 with ⟨hv, h0⟩ | ⟨g, cap', cur, hv, hbg, hg, hnc, hcm, hcs, htake⟩
    · simp only [Value.slice.injEq] at hv
      obtain ⟨rfl, _, rfl⟩ := hv
      subst h0
      have hx0 : xs = [] := List.eq_nil_of_length_eq_zero hxl
      subst hx0
      have h63' : ¬ ((9223372036854775807 : Int) < (l : Int)) := by omega
      rw [Nat.zero_add] at hfit'
      simp [Builtin.append_, run_underlying hst, run_underlying hit, sizeOf, typeInfo, zeroValue, hi, hz0, hsz1, hwr, hwr0, asInt, asIntOf, Question.forced, hw0, hb, hl0, hz1, zeros_list, run_firstCells_none, newRow, grownCap, h63', hfit']
    · simp only [Value.slice.injEq, true_and] at hv
      obtain ⟨rfl, rfl⟩ := hv
      have hfo := run_firstCells_some (P := Try.prog) w.drew 1 m ⟨g, 0, none⟩ m cap xs (by simpa using hxl) (by simpa using hown.cells (g := g) rfl)
      simp [Builtin.append_, run_underlying hst, run_underlying hit, sizeOf, typeInfo, zeroValue, hi, hz0, hsz1, hwr, hwr0, asInt, asIntOf, Question.forced, hw0, hb, hl0, hroom, hfit', h63, hz1, zeros_list, hfo, newRow, grownCap]

theorem wpList_append_make {w : World} {ops : Array Oper} {rest : List Oper} {o : Oper} {a : Act} {Q : Exit → Act → World → Prop} (hgd : o.guard = none) (s x : Operand) {st e it : TypeId} {ik : IntKind} {z : Value} {nb : Nat} (hE : ElT e z 1 nb) (hz1 : z.cells = #[z]) (hone : z.oneCell' = true) (hst : Try.prog.underlying st = some (.slice e)) (hit : Try.prog.underlying it = some (.int ik))
    (ho : o.op = .call { callee := .builtin .append, args := #[s, x], argTypes := #[st, it] })
    {B : Nat} {ao : Option Addr} {cap m l : Nat} {xs : List Value} {xi : Int} (hs : a.eval s = .slice ao m cap) (hx : a.eval x = .int .i64 xi) (hxi : xi = (l : Int)) (hown : w.ownsRow B e 1 (.slice ao m cap) m xs)
    (hsz : m + l ≤ 8000000) (hB : B ≤ w.heap.size)
    (h : ∀ ao' cap' w', Appd w w' B e 1 ao ao' m (m + l) cap' (xs ++ List.replicate l z) → wpList Try.prog ops Q rest (a.put o.dst (.slice ao' (m + l) cap')) w') : wpList Try.prog ops Q (o :: rest) a w := by
  refine wpList_plain hgd fun K hK => ?_
  obtain ⟨ao', cap', w', hr, h1, h2, h3, h4⟩ := append_makeG hE hz1 hone o.type st hst hit hown xi hxi hsz hB
  unfold Oper.wp execOp
  simp only [ho, resolve, invoke, builtin, Sem.run_bind, Sem.run_pure, Result.andThen_ok, List.map_toArray, List.map_cons, List.map_nil, hs, hx, hr]
  exact hK _ _ (h ao' cap' w' ⟨h1, by cases ao <;> exact h2, h3, h4⟩)

end Go.Proofs.Ytkaklabcfhefaab
