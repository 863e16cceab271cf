/-
  Rows of whatever elements: read, owned, grown by append. What is appended to is at most eight million elements of at most 4096 bytes each.
-/
import Derived.Test.YtkaklabcfhefaabDBase
import Derived.Laws.AppendOwnNone
import Derived.Laws.OwnMore
import Derived.Deep.RegionLaw
namespace Go.Proofs.Ytkaklabcfhefaab
open Go.RowKit

/-- Where the cells of a slice lie that is read: nowhere, if there are none; else in block d, one behind the other. -/
def RS (w : World) (ao : Option Addr) (cs : List Value) (d : Nat) : Prop :=
  cs = [] ∨ ∃ off, ao = some ⟨d, off, none⟩ ∧ ∀ j u, cs[j]? = some u → w.cell? ⟨d, off + j, none⟩ = some u

theorem RS.nil (w : World) (ao : Option Addr) (d : Nat) : RS w ao [] d := .inl rfl

theorem RS.lt {w : World} {ao : Option Addr} {cs : List Value} {d : Nat} (h : RS w ao cs d) (hn : cs ≠ []) : d < w.heap.size := by
  rcases h with h | ⟨off, _, hc⟩
  · exact absurd h hn
  · have h0 : 0 < cs.length := List.length_pos_iff.2 hn
    exact World.block_lt_of_cell? w _ (hc 0 cs[0] (by simp [h0]))

theorem RS.only {w w' : World} {S : List Nat} {ao : Option Addr} {cs : List Value} {d : Nat} (h : RS w ao cs d) (ho : Only S w w') (hn : cs ≠ [] → d ∉ S) : RS w' ao cs d := by
  rcases h with h | ⟨off, ha, hc⟩
  · exact .inl h
  · by_cases hb : cs = []
    · exact .inl hb
    have hd := hn hb
    exact .inr ⟨off, ha, fun j u hj => by rw [ho.cell (World.block_lt_of_cell? w _ (hc j u hj)) hd]; exact hc j u hj⟩

theorem RS.only0 {w w' : World} {ao : Option Addr} {cs : List Value} {d : Nat} (h : RS w ao cs d) (ho : Only [] w w') : RS w' ao cs d := h.only ho (by simp)

theorem RS.take {w : World} {ao : Option Addr} {cs : List Value} {d : Nat} (h : RS w ao cs d) (n : Nat) : RS w ao (cs.take n) d := by
  rcases h with h | ⟨off, ha, hc⟩
  · exact .inl (by simp [h])
  · refine .inr ⟨off, ha, fun j u hj => hc j u ?_⟩
    rw [List.getElem?_take] at hj
    split at hj
    · exact hj
    · cases hj

theorem RS.none_nil {w : World} {cs : List Value} {d : Nat} (h : RS w none cs d) : cs = [] := by
  rcases h with h | ⟨off, ha, _⟩
  · exact h
  · cases ha

theorem RS.cells {w : World} {a : Addr} {cs : List Value} {d : Nat} (h : RS w (some a) cs d) : ∀ j u, cs[j]? = some u → w.cell? (a.add j) = some u := by
  intro j u hu
  rcases h with h | ⟨off, ha, hc⟩
  · rw [h] at hu
    simp at hu
  · cases ha
    rw [Addr.add_lit]
    exact hc j u hu

/-- The cell of a row. -/
theorem RS.at {w : World} {ao : Option Addr} {cs : List Value} {d : Nat} (h : RS w ao cs d) {j : Nat} (hj : j < cs.length) : ∃ off, ao = some ⟨d, off, none⟩ ∧ ∀ j u, cs[j]? = some u → w.cell? ⟨d, off + j, none⟩ = some u := by
  rcases h with h | h
  · rw [h] at hj
    simp at hj
  · exact h

section
variable {e : TypeId} {k : Nat}

theorem rows_mono {w : World} {B C n : Nat} {v : Value} {xs : List Value} (h : w.ownsRow B e k v n xs) (hC : C ≤ B) : w.ownsRow C e k v n xs := by
  refine ⟨h.1, ?_⟩
  rcases h.2 with q | ⟨g, cap, cur, q1, q2, q3⟩
  · exact .inl q
  · exact .inr ⟨g, cap, cur, q1, by omega, q3⟩

theorem rows_only {w w' : World} {B n : Nat} {S : List Nat} {v : Value} {xs : List Value} (h : w.ownsRow B e k v n xs) (ho : Only S w w') (hn : ∀ k, v.ownBlock = some k → k ∉ S) : w'.ownsRow B e k v n xs := by
  refine ⟨h.1, ?_⟩
  rcases h.2 with q | ⟨g, cap, cur, q1, q2, q3, q4⟩
  · exact .inl q
  · subst q1
    exact .inr ⟨g, cap, cur, rfl, q2, by rw [ho.block g (Array.getElem?_eq_some_iff.1 q3).1 (hn g rfl)]; exact q3, q4⟩

theorem rows_slice {w : World} {B n : Nat} {v : Value} {xs : List Value} (h : w.ownsRow B e k v n xs) : ∃ ao cap, v = .slice ao n cap := by
  rcases h.2 with ⟨rfl, h0⟩ | ⟨g, cap, _, rfl, _⟩
  · exact ⟨none, 0, by rw [h0]⟩
  · exact ⟨_, _, rfl⟩

/-- What the call owns is a row that is read. -/
theorem RS.of_owns {w : World} {B n : Nat} {ao : Option Addr} {cap : Nat} {xs : List Value} (h : w.ownsRow B e k (.slice ao n cap) n xs) :
    RS w ao xs ((ao.map (·.block)).getD 0) ∧ n ≤ cap ∧ cap ≤ maxLen ∧ (ao = none → cap = 0) ∧ (∀ a, ao = some a → B ≤ a.block ∧ a.block < w.heap.size ∧ a = ⟨a.block, 0, none⟩) := by
  rcases h.2 with ⟨hv, h0⟩ | ⟨g, cap', cur, hv, hb, hg, hn, hm, hs, ht⟩
  · simp only [Value.slice.injEq] at hv
    obtain ⟨rfl, _, rfl⟩ := hv
    have hx : xs = [] := List.eq_nil_of_length_eq_zero (by rw [h.1, h0]; simp)
    subst hx
    exact ⟨RS.nil _ _ _, by omega, by decide, fun _ => rfl, fun a ha => by cases ha⟩
  · simp only [Value.slice.injEq] at hv
    obtain ⟨rfl, _, rfl⟩ := hv
    refine ⟨.inr ⟨0, rfl, fun j u hj => ?_⟩, hn, hm, (fun e => by cases e), fun a ha => ?_⟩
    · have := h.cells (g := g) rfl j u hj
      rw [Addr.add_lit] at this
      exact this
    · simp at ha
      subst ha
      exact ⟨hb, (Array.getElem?_eq_some_iff.1 hg).1, rfl⟩

/-- A row cut off behind its first m. -/
theorem rows_take {w : World} {B n : Nat} {ao : Option Addr} {cap : Nat} {xs : List Value} (h : w.ownsRow B e k (.slice ao n cap) n xs) (m : Nat) (hm : m ≤ n) : w.ownsRow B e k (.slice ao m cap) m (xs.take (m * k)) := by
  have hmk : m * k ≤ n * k := Nat.mul_le_mul_right k hm
  refine ⟨by rw [List.length_take, h.1]; omega, ?_⟩
  rcases h.2 with ⟨hv, h0⟩ | ⟨g, cap', cur, hv, hb, hg, hc, hx, hs, ht⟩
  · simp only [Value.slice.injEq] at hv
    obtain ⟨rfl, _, rfl⟩ := hv
    have : m = 0 := by omega
    subst this
    exact .inl ⟨rfl, rfl⟩
  · simp only [Value.slice.injEq] at hv
    obtain ⟨rfl, _, rfl⟩ := hv
    refine .inr ⟨g, cap, cur, rfl, hb, hg, by omega, hx, hs, ?_⟩
    rw [← ht, List.take_take]
    congr 1
    omega
end

/-- How much room an append asks for that grows. -/
theorem growG (need : Nat) : ∀ (k old : Nat), old ≤ need + need / 4 + 192 → Builtin.growBy need k old ≤ need + need / 4 + 192 := by
  intro k
  induction k with
  | zero =>
    intro old h
    exact h
  | succ k ih =>
    intro old h
    simp only [Builtin.growBy]
    split
    · exact h
    · exact ih _ (by omega)

theorem capG {need old n : Nat} (h : old < need) (hn : need ≤ 8000000) (hb : n ≤ 4096) : Builtin.nextslicecap need old * n ≤ 281474976710656 := by
  have := growG need 4 old (by omega)
  have h2 : Builtin.nextslicecap need old ≤ 16000000 := by
    unfold Builtin.nextslicecap
    split
    · omega
    · split
      · omega
      · omega
  exact Nat.le_trans (Nat.mul_le_mul h2 hb) (by decide)

/-- What is known of an element's type: its zero, its cells, its bytes. -/
structure ElT (e : TypeId) (z : Value) (k n : Nat) : Prop where
  info : (Try.prog.info? e).map (fun i => (i.zero, i.size, i.bytes)) = some (some z, k, n)
  zero : z.cells.size = k
  pos : 0 < k
  few : n ≤ 4096

theorem ElT.parts {e : TypeId} {z : Value} {k n : Nat} (h : ElT e z k n) : ∃ i0, Try.prog.info? e = some i0 ∧ i0.zero = some z ∧ i0.size = k ∧ i0.bytes = n := by
  have h := h.info
  cases hi : Try.prog.info? e with
  | none => rw [hi] at h; cases h
  | some i =>
    rw [hi] at h
    simp at h
    exact ⟨i, rfl, h.1, h.2.1, h.2.2⟩

/-- A new row that an append has made. -/
theorem rows_fresh {e : TypeId} {z : Value} {k n : Nat} (hE : ElT e z k n) (w : World) (xs : List Value) (m cap : Nat) (hx : xs.length = m * k) (hc : m ≤ cap) (hm : cap ≤ maxLen) :
    (w.drew.alloc (.cells (xs.toArray ++ Builtin.zeroCells z.cells (cap - m)) e)).ownsRow w.heap.size e k (.slice (some ⟨w.heap.size, 0, none⟩) m cap) m xs ∧
    w.grownBy (w.drew.alloc (.cells (xs.toArray ++ Builtin.zeroCells z.cells (cap - m)) e)) none := by
  refine ⟨⟨hx, .inr ⟨w.heap.size, cap, _, rfl, Nat.le_refl _, Go.heap_alloc_new w.drew _, hc, hm, ?_, ?_⟩⟩, ⟨rfl, rfl, rfl, by simp, fun k hk _ => Below.heap_alloc w.drew _ k hk⟩⟩
  · rw [Array.size_append, size_zeroCells, hE.zero]
    have e1 : m * k + (cap - m) * k = cap * k := by rw [← Nat.add_mul]; congr 1; omega
    simp only [List.size_toArray, hx]
    exact e1
  · simp only [Array.toList_append]
    rw [← hx]
    exact List.take_left

/-- append(out, l...), out the call's own. -/
theorem append_runG {w : World} {B : Nat} {ao lao : Option Addr} {cap lcap d m l k n : Nat} {e : TypeId} {z : Value} {xs ys : List Value} (hE : ElT e z k n) (ty st : TypeId) (hst : Try.prog.underlying st = some (.slice e)) (hown : w.ownsRow B e k (.slice ao m cap) m xs) (hb : RS w lao ys d) (hy : ys.length = l * k) (hone : ∀ u ∈ ys, u.oneCell' = true) (hl : lao = none → lcap = 0)
    (hsz : m + l ≤ 8000000) (hB : B ≤ w.heap.size) :
    ∃ ao' cap' w', (Builtin.append_ #[st, st] ty #[.slice ao m cap, .slice lao l lcap]).run Try.prog w = .ok (.slice ao' (m + l) cap') w' ∧ w'.ownsRow B e k (.slice ao' (m + l) cap') (m + l) (xs ++ ys) ∧
      w.grownBy w' (Value.ownBlock (.slice ao m cap)) ∧ (∀ a, ao' = some a → (∃ a', ao = some a' ∧ a'.block = a.block) ∨ w.heap.size ≤ a.block) ∧ (ao' = none → ao = none) ∧ w'.ownsRow B e k (.slice ao m cap) m xs := by
  obtain ⟨i0, hi, hz0, hz1, hz2⟩ := hE.parts
  have hk := hE.pos
  have hmax : m + l ≤ maxLen := by unfold maxLen; omega
  cases lao with
  | none =>
    have := hb.none_nil
    subst this
    have := hl rfl
    subst this
    have hl0 : l = 0 := by
      rcases Nat.eq_zero_or_pos l with h | h
      · exact h
      · have := Nat.mul_pos h hk
        simp at hy
        omega
    subst hl0
    refine ⟨ao, cap, w, ?_, by simpa using hown, ⟨rfl, rfl, rfl, Nat.le_refl _, fun _ _ _ => rfl⟩, fun a ha => .inl ⟨a, ha, rfl⟩, fun h => h, hown⟩
    exact run_append_owned_none (P := Try.prog) (w := w) B st ty e i0 k hst hi _ m xs hown
  | some a =>
    rcases hown.2 with ⟨hv, h0⟩ | ⟨g, cap', cur, hv, hbg, hg, hnc, hcm, hcs, htake⟩
    · subst h0
      have hx : xs = [] := List.eq_nil_of_length_eq_zero (by rw [hown.1]; simp)
      subst hx
      simp only [Value.slice.injEq, true_and] at hv
      obtain ⟨rfl, rfl⟩ := hv
      by_cases hm : l = 0
      · obtain ⟨v', w', hr, ho, hgr, hiff⟩ := run_append_own (P := Try.prog) w B st ty e i0 z k n hst hi hz0 hz1 hz2 hE.zero hk _ _ _ hown a l lcap ys hy hb.cells hone (by simpa using hmax) (by
            have := hE.few
            subst hm
            simp) hB
        have := hiff.2 ⟨rfl, hm⟩
        subst this
        subst hm
        exact ⟨none, 0, w', hr, ho, hgr, (fun a ha => by cases ha), fun _ => rfl, World.ownsRow_nil _ _ _ _⟩
      · have hr := run_append_nil (P := Try.prog) w st ty e i0 z hst hi hz0 a l lcap ys (by rw [hz1]; exact hy) hb.cells (by omega) (by omega) (by
            rw [hz2]
            exact Nat.le_trans (Nat.mul_le_mul (show l ≤ 8000000 by omega) hE.few) (by decide))
        obtain ⟨q1, q2⟩ := rows_fresh hE w ys l (grownCap w l 0 e) hy (grownCap_ge _ _ _ _) (grownCap_le_maxLen _ _ _ _ (by simpa using hmax))
        rw [List.nil_append, Nat.zero_add]
        exact ⟨_, _, _, hr, rows_mono q1 hB, ⟨q2.os, q2.tape, q2.output, q2.size, fun k hk _ => q2.block k hk (by simp)⟩, fun b hb' => .inr (by simp at hb'; rw [← hb']; exact Nat.le_refl _), (fun h => by cases h), World.ownsRow_nil _ _ _ _⟩
    · simp only [Value.slice.injEq, true_and] at hv
      obtain ⟨rfl, rfl⟩ := hv
      by_cases hroom : m + l ≤ cap
      · obtain ⟨w', hr, ho, hgr⟩ := run_append_fits (P := Try.prog) w B st ty e i0 k hst hi hz1 g m cap xs hown a l lcap ys hy hb.cells hone hroom
        have hold := rows_take ho m (by omega)
        rw [show (xs ++ ys).take (m * k) = xs by rw [← hown.1]; exact List.take_left] at hold
        exact ⟨some ⟨g, 0, none⟩, cap, w', hr, ho, hgr, fun a ha => .inl ⟨_, rfl, by simp at ha; rw [← ha]⟩, (fun h => by cases h), hold⟩
      · have hr := run_append_grow (P := Try.prog) w st ty e i0 z hst hi hz0 ⟨g, 0, none⟩ m cap xs (by rw [hz1]; exact hown.1) (hown.cells (g := g) rfl) a l lcap ys (by rw [hz1]; exact hy) hb.cells (by omega) (by omega) (by rw [hz2]; exact capG (by omega) hsz hE.few)
        obtain ⟨q1, q2⟩ := rows_fresh hE w (xs ++ ys) (m + l) (grownCap w (m + l) cap e) (by rw [List.length_append, hown.1, hy, Nat.add_mul]) (grownCap_ge _ _ _ _) (grownCap_le_maxLen _ _ _ _ hmax)
        have e1 : (xs ++ ys).toArray = xs.toArray ++ ys.toArray := by simp
        replace q1 := rows_mono q1 hB
        have hold := rows_only hown (Only.of_grown q2) (by simp)
        rw [e1] at q2 q1 hold
        exact ⟨_, _, _, hr, q1, ⟨q2.os, q2.tape, q2.output, q2.size, fun k hk _ => q2.block k hk (by simp)⟩, fun b hb' => .inr (by simp at hb'; rw [← hb']; exact Nat.le_refl _), (fun h => by cases h), hold⟩

/-- What an append did: where the row lies now, and that nothing else has turned. -/
structure Appd (w w' : World) (B : Nat) (e : TypeId) (k : Nat) (ao ao' : Option Addr) (m n' cap' : Nat) (xs : List Value) : Prop where
  own : w'.ownsRow B e k (.slice ao' n' cap') n' xs
  grown : w.grownBy w' (Value.ownBlock (.slice ao m 0))
  place : ∀ a, ao' = some a → (∃ a', ao = some a' ∧ a'.block = a.block) ∨ w.heap.size ≤ a.block
  none : ao' = none → ao = none

theorem Appd.only {w w' : World} {B : Nat} {e : TypeId} {k : Nat} {ao ao' : Option Addr} {m n' cap' : Nat} {xs : List Value} (h : Appd w w' B e k ao ao' m n' cap' xs) : Only (Value.ownBlock (.slice ao m 0)).toList w w' := Only.of_grown h.grown

theorem wpList_append_any {w : World} {ops : Array Oper} {rest : List Oper} {o : Oper} {a : Act} {Q : Exit → Act → World → Prop} (hgd : o.guard = none) (s x : Operand) {st e : TypeId} {z : Value} {k n : Nat} (hE : ElT e z k n) (hst : Try.prog.underlying st = some (.slice e))
    (ho : o.op = .call { callee := .builtin .append, args := #[s, x], argTypes := #[st, st] })
    {B : Nat} {ao lao : Option Addr} {cap lcap d m l : Nat} {xs ys : List Value} (hs : a.eval s = .slice ao m cap) (hx : a.eval x = .slice lao l lcap) (hown : w.ownsRow B e k (.slice ao m cap) m xs) (hb : RS w lao ys d) (hy : ys.length = l * k) (hone : ∀ u ∈ ys, u.oneCell' = true) (hl : lao = none → lcap = 0)
    (hsz : m + l ≤ 8000000) (hB : B ≤ w.heap.size)
    (h : ∀ ao' cap' w', Appd w w' B e k ao ao' m (m + l) cap' (xs ++ ys) → wpList Try.prog ops Q rest (a.put o.dst (.slice ao' (m + l) cap')) w') : wpList Try.prog ops Q (o :: rest) a w := by
  refine wpList_plain hgd fun K hK => ?_
  obtain ⟨ao', cap', w', hr, h1, h2, h3, h4, h5⟩ := append_runG hE o.type st hst hown hb hy hone hl hsz hB
  unfold Oper.wp execOp
  simp only [ho, resolve, invoke, builtin, Sem.run_bind, Sem.run_pure, Result.andThen_ok, List.map_toArray, List.map_cons, List.map_nil, hs, hx, hr]
  exact hK _ _ (h ao' cap' w' ⟨h1, by cases ao <;> exact h2, h3, h4⟩)

/-- The same, as a step of a region that draws its order. -/
theorem step_append_any {w : World} {ops : Array Oper} {o : Oper} {a : Act} {K : Act → World → Prop} {Q : Exit → Act → World → Prop} {E : Prop} (hg : o.guard = none) (s x : Operand) {st e : TypeId} {z : Value} {k n : Nat} (hE : ElT e z k n) (hst : Try.prog.underlying st = some (.slice e))
    (hop : o.op = .call { callee := .builtin .append, args := #[s, x], argTypes := #[st, st] })
    {B : Nat} {ao lao : Option Addr} {cap lcap d m l : Nat} {xs ys : List Value} (hs : a.eval s = .slice ao m cap) (hx : a.eval x = .slice lao l lcap) (hown : w.ownsRow B e k (.slice ao m cap) m xs) (hb : RS w lao ys d) (hy : ys.length = l * k) (hone : ∀ u ∈ ys, u.oneCell' = true) (hl : lao = none → lcap = 0)
    (hsz : m + l ≤ 8000000) (hB : B ≤ w.heap.size)
    (h : ∀ ao' cap' w', Appd w w' B e k ao ao' m (m + l) cap' (xs ++ ys) → K (a.put o.dst (.slice ao' (m + l) cap')) w') : if Region.wanted o (yielded ops a.tmps) = true then Oper.wp Try.prog o a w K Q else E := by
  have hw : Region.wanted o (yielded ops a.tmps) = true := by simp [Region.wanted, hg]
  rw [if_pos hw]
  obtain ⟨ao', cap', w', hr, h1, h2, h3, h4, h5⟩ := append_runG hE o.type st hst hown hb hy hone hl hsz hB
  unfold Oper.wp execOp
  simp only [hop, resolve, invoke, builtin, Sem.run_bind, Sem.run_pure, Result.andThen_ok, List.map_toArray, List.map_cons, List.map_nil, hs, hx, hr]
  exact h ao' cap' w' ⟨h1, by cases ao <;> exact h2, h3, h4⟩

/-- A new block is a row that is read. -/
theorem RS.fresh (w : World) (cs : Array Value) (t : TypeId) : RS (w.alloc (.cells cs t)) (some ⟨w.heap.size, 0, none⟩) cs.toList w.heap.size :=
  .inr ⟨0, rfl, fun j u hj => by rw [Nat.zero_add, cell_new]; simpa using hj⟩

end Go.Proofs.Ytkaklabcfhefaab
