/-
  append of bytes onto a row of the call's own, wherever the bytes lie. All of it is at most 1.5 times 2 to the power of 47 bytes.
-/
import Derived.Test.YtmghmmkjcgopaaaCTake
import Derived.Test.YtmghmmkjcgopaaaIRow
import Derived.Laws.AppendOwnNone
namespace Go.Proofs.Ytmghmmkjcgopaaa
open Go.RowKit

theorem BS.cells {w : World} {a : Addr} {bs : List UInt8} {d : Nat} (h : BS w (some a) bs d) : ∀ j u, (bcs bs)[j]? = some u → w.cell? (a.add j) = some u := by
  intro j u hu
  have hj : j < bs.length := by
    have := (List.getElem?_eq_some_iff.1 hu).1
    simpa [bcs] using this
  rcases h with h | ⟨off, ha, hc⟩
  · rw [h] at hj; simp at hj
  · cases ha
    rw [Addr.add_lit, hc j hj]
    simp [bcs, hj] at hu
    rw [hu]

theorem BS.none_nil {w : World} {bs : List UInt8} {d : Nat} (h : BS w none bs d) : bs = [] := by
  rcases h with h | ⟨off, ha, _⟩
  · exact h
  · cases ha

theorem ownb_slice {w : World} {B : Nat} {e : TypeId} {size n : Nat} {v : Value} {xs : List Value} (h : w.ownsRow B e size v n xs) : ∃ ao cap, v = .slice ao n cap := by
  rcases h.2 with ⟨rfl, rfl⟩ | ⟨g, cap, _, rfl, _⟩
  · exact ⟨_, _, rfl⟩
  · exact ⟨_, _, rfl⟩

theorem ownb_mono {w : World} {B C : Nat} {e : TypeId} {size n : Nat} {v : Value} {xs : List Value} (h : w.ownsRow B e size v n xs) (hC : C ≤ B) : w.ownsRow C e size v n xs := by
  refine ⟨h.1, ?_⟩
  rcases h.2 with q | ⟨g, cap, cur, q1, q2, q3⟩
  · exact .inl q
  · exact .inr ⟨g, cap, cur, q1, by omega, q3⟩

/-- How much room an append asks for that grows. -/
theorem grow_leC (need : Nat) : ∀ (k old : Nat), old ≤ need + need / 4 + 192 → Builtin.growBy need k old ≤ need + need / 4 + 192 := by
  intro k
  induction k with
  | zero =>
    intro old h
    exact h
  | succ k ih =>
    intro old h
    simp only [Builtin.growBy]
    split
    · exact h
    · exact ih _ (by omega)

theorem cap_fitsC {need old : Nat} (h : old < need) (hn : need ≤ 211106232532992) : Builtin.nextslicecap need old * 1 ≤ 281474976710656 := by
  have := grow_leC need 4 old (by omega)
  unfold Builtin.nextslicecap
  split
  · omega
  · split
    · omega
    · omega

/-- A new row that an append has made. -/
theorem own_freshC (w : World) (xs : List Value) (n cap : Nat) (hx : xs.length = n) (hc : n ≤ cap) (hm : cap ≤ maxLen) :
    (w.drew.alloc (.cells (xs.toArray ++ Builtin.zeroCells (Value.int .u8 0).cells (cap - n)) 5)).ownsRow w.heap.size 5 1 (.slice (some ⟨w.heap.size, 0, none⟩) n cap) n xs ∧
    w.grownBy (w.drew.alloc (.cells (xs.toArray ++ Builtin.zeroCells (Value.int .u8 0).cells (cap - n)) 5)) none := by
  refine ⟨⟨by omega, .inr ⟨w.heap.size, cap, _, rfl, Nat.le_refl _, Go.heap_alloc_new w.drew _, hc, hm, ?_, ?_⟩⟩, ⟨rfl, rfl, rfl, by simp, fun k hk _ => Below.heap_alloc w.drew _ k hk⟩⟩
  · rw [Array.size_append, size_zeroCells]
    have : (Value.int .u8 0).cells.size = 1 := rfl
    rw [this]
    simp
    omega
  · simp only [Array.toList_append]
    rw [Nat.mul_one, ← hx]
    exact List.take_left

/-- append(out, l...), out the call's own. -/
theorem append_runC {w : World} {B : Nat} {ao lao : Option Addr} {n cap lcap d : Nat} {xs : List Value} {ls : List UInt8} (ty : TypeId) (hown : w.ownsRow B 5 1 (.slice ao n cap) n xs) (hb : BS w lao ls d) (hl : lao = none → lcap = 0)
    (hsz : n + ls.length ≤ 211106232532992) (hB : B ≤ w.heap.size) :
    ∃ ao' cap' w', (Builtin.append_ #[23, 23] ty #[.slice ao n cap, .slice lao ls.length lcap]).run Try.prog w = .ok (.slice ao' (n + ls.length) cap') w' ∧ w'.ownsRow B 5 1 (.slice ao' (n + ls.length) cap') (n + ls.length) (xs ++ bcs ls) ∧
      w.grownBy w' (Value.ownBlock (.slice ao n cap)) ∧ (∀ a, ao' = some a → (∃ a', ao = some a' ∧ a'.block = a.block) ∨ w.heap.size ≤ a.block) ∧ (ao' = none → ao = none) := by
  obtain ⟨i0, hi, hz0, hz1, hz2⟩ := info_parts info5
  have hmax : n + ls.length ≤ maxLen := by unfold maxLen; omega
  cases lao with
  | none =>
    have := hb.none_nil
    subst this
    have := hl rfl
    subst this
    refine ⟨ao, cap, w, ?_, by simpa [bcs] using hown, ⟨rfl, rfl, rfl, Nat.le_refl _, fun _ _ _ => rfl⟩, fun a ha => .inl ⟨a, ha, rfl⟩, fun h => h⟩
    exact run_append_owned_none (P := Try.prog) (w := w) B 23 ty 5 i0 1 Try.underlying23 hi _ n xs hown
  | some a =>
    have hlen : (bcs ls).length = ls.length * 1 := by rw [bcs_len]; omega
    rcases hown.2 with ⟨hv, h0⟩ | ⟨g, cap', cur, hv, hbg, hg, hnc, hcm, hcs, htake⟩
    · simp at hv
      obtain ⟨rfl, hn, rfl⟩ := hv
      subst hn
      have hx : xs = [] := List.eq_nil_of_length_eq_zero (by simpa using hown.1)
      by_cases hm : ls.length = 0
      · obtain ⟨v', w', hr, ho, hgr, hiff⟩ := run_append_own (P := Try.prog) w B 23 ty 5 i0 (.int .u8 0) 1 1 Try.underlying23 hi hz0 hz1 hz2 rfl (by decide) _ _ _ hown a ls.length lcap (bcs ls) hlen hb.cells (bcs_one ls) hmax (by omega) hB
        have := hiff.2 ⟨rfl, hm⟩
        subst this
        have e2 : 0 + ls.length = 0 := by omega
        refine ⟨none, 0, w', ?_, ?_, hgr, ?_, fun _ => rfl⟩
        · rw [e2]; exact hr
        · rw [e2] at ho ⊢; exact ho
        · intro a ha
          cases ha
      · have hr := run_append_nil (P := Try.prog) w 23 ty 5 i0 (.int .u8 0) Try.underlying23 hi hz0 a ls.length lcap (bcs ls) (by rw [hz1]; exact hlen) hb.cells (by omega) (by omega) (by rw [hz2]; omega)
        obtain ⟨q1, q2⟩ := own_freshC w (bcs ls) ls.length (grownCap w ls.length 0 5) (bcs_len ls) (grownCap_ge _ _ _ _) (grownCap_le_maxLen _ _ _ _ (by omega))
        rw [Nat.zero_add, hx, List.nil_append]
        exact ⟨_, _, _, hr, ownb_mono q1 hB, ⟨q2.os, q2.tape, q2.output, q2.size, fun k hk _ => q2.block k hk (by simp)⟩, fun b hb' => .inr (by simp at hb'; rw [← hb']; exact Nat.le_refl _), fun h => by cases h⟩
    · simp at hv
      obtain ⟨rfl, rfl⟩ := hv
      by_cases hroom : n + ls.length ≤ cap
      · obtain ⟨w', hr, ho, hgr⟩ := run_append_fits (P := Try.prog) w B 23 ty 5 i0 1 Try.underlying23 hi hz1 g n cap xs hown a ls.length lcap (bcs ls) hlen hb.cells (bcs_one ls) hroom
        exact ⟨some ⟨g, 0, none⟩, cap, w', hr, ho, hgr, fun a ha => .inl ⟨_, rfl, by simp at ha; rw [← ha]⟩, fun h => by cases h⟩
      · have hr := run_append_grow (P := Try.prog) w 23 ty 5 i0 (.int .u8 0) Try.underlying23 hi hz0 ⟨g, 0, none⟩ n cap xs (by rw [hz1]; exact hown.1) (hown.cells (g := g) rfl) a ls.length lcap (bcs ls) (by rw [hz1]; exact hlen) hb.cells (by omega) (by omega) (by rw [hz2]; exact cap_fitsC (by omega) hsz)
        have hxl : xs.length = n := by have := hown.1; omega
        obtain ⟨q1, q2⟩ := own_freshC w (xs ++ bcs ls) (n + ls.length) (grownCap w (n + ls.length) cap 5) (by rw [List.length_append, bcs_len, hxl]) (grownCap_ge _ _ _ _) (grownCap_le_maxLen _ _ _ _ hmax)
        have e : (xs ++ bcs ls).toArray = xs.toArray ++ (bcs ls).toArray := by simp
        rw [e] at q1 q2
        exact ⟨_, _, _, hr, ownb_mono q1 hB, ⟨q2.os, q2.tape, q2.output, q2.size, fun k hk _ => q2.block k hk (by simp)⟩, fun b hb' => .inr (by simp at hb'; rw [← hb']; exact Nat.le_refl _), fun h => by cases h⟩

/-- The same, for the walk. -/
theorem wpList_append_bytes {w : World} {ops : Array Oper} {rest : List Oper} {o : Oper} {a : Act} {Q : Exit → Act → World → Prop} (hgd : o.guard = none) (s x : Operand)
    (ho : o.op = .call { callee := .builtin .append, args := #[s, x], argTypes := #[23, 23] })
    {B : Nat} {ao lao : Option Addr} {n cap lcap d : Nat} {xs : List Value} {ls : List UInt8} (hs : a.eval s = .slice ao n cap) (hx : a.eval x = .slice lao ls.length lcap) (hown : w.ownsRow B 5 1 (.slice ao n cap) n xs) (hb : BS w lao ls d) (hl : lao = none → lcap = 0)
    (hsz : n + ls.length ≤ 211106232532992) (hB : B ≤ w.heap.size)
    (h : ∀ ao' cap' w', w'.ownsRow B 5 1 (.slice ao' (n + ls.length) cap') (n + ls.length) (xs ++ bcs ls) → w.grownBy w' (Value.ownBlock (.slice ao n cap)) → (∀ a, ao' = some a → (∃ a', ao = some a' ∧ a'.block = a.block) ∨ w.heap.size ≤ a.block) → (ao' = none → ao = none) →
      wpList Try.prog ops Q rest (a.put o.dst (.slice ao' (n + ls.length) cap')) w') : wpList Try.prog ops Q (o :: rest) a w := by
  refine wpList_plain hgd fun K hK => ?_
  obtain ⟨ao', cap', w', hr, h1, h2, h3, h4⟩ := append_runC o.type hown hb hl hsz hB
  unfold Oper.wp execOp
  simp only [ho, resolve, invoke, builtin, Sem.run_bind, Sem.run_pure, Result.andThen_ok, List.map_toArray, List.map_cons, List.map_nil, hs, hx, hr]
  exact hK _ _ (h ao' cap' w' h1 h2 h3 h4)

end Go.Proofs.Ytmghmmkjcgopaaa
