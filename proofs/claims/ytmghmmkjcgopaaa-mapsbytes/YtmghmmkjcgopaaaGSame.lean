/-
  The contracts of the second program's SameBits and Same. No conditions beyond the arguments' own shape.
-/
import Derived.Test.YtmghmmkjcgopaaaGWr4
import Derived.BigQuiet
namespace Go.Proofs.Ytmghmmkjcgopaaa
open Go.RowKit

theorem SlV.bit {w : World} {P : Nat → Prop} {v : Value} {l : List Bool} (h : SlV w P v l.length (lcs l)) {j : Nat} (hj : j < l.length) : ∃ d off cap, v = .slice (some ⟨d, off, none⟩) l.length cap ∧ w.cell? ⟨d, off + j, none⟩ = some (.bool l[j]) := by
  obtain ⟨ao, cap, d, rfl, hS⟩ := h
  obtain ⟨off, rfl, hc⟩ := hS.rs.at (j := j) (by rw [lcs_length]; omega)
  exact ⟨d, off, cap, rfl, hc j _ (lcs_get l j hj)⟩

theorem only_drewN (w : World) (n : Nat) : Only [] w (w.drewN n) := ⟨rfl, rfl, rfl, Nat.le_refl _, fun _ _ _ => rfl⟩

theorem quiet_at {f : FuncId} {args : Array Value} {w : World} {v : Value} (n j : Nat) (h : Calls Try.prog f args (w.drewN (n + j)) fun e w' => e = .returned v ∧ ∃ m, w' = (w.drewN (n + j)).drewN m) : Calls Try.prog f args (w.drewN (n + j)) fun e w' => e = .returned v ∧ ∃ m, w' = w.drewN (n + m) :=
  h.mono fun _ _ ⟨he, m, hm⟩ => ⟨he, j + m, by rw [hm, World.drewN_drewN, Nat.add_assoc]⟩

set_option maxHeartbeats 1000000 in
theorem sameBits_any {w : World} {P Q : Nat → Prop} {u v : Value} {a b : List Bool} (ha : SlV w P u a.length (lcs a)) (hb : SlV w Q v b.length (lcs b)) (hl : a.length ≤ 1000000) :
    Calls Try.prog 23 #[u, v] w fun e w' => e = .returned (.bool (decide (a = b))) ∧ ∃ n, w' = w.drewN n := by
  obtain ⟨ao, ac, ad, rfl, hA⟩ := ha
  obtain ⟨bo, bc, bd, rfl, hB⟩ := hb
  by_cases hlen : a.length = b.length
  · have hA' : Hid (SlV w P (.slice ao a.length ac) a.length (lcs a)) := ⟨ao, ac, ad, rfl, hA⟩
    have hB' : Hid (SlV w Q (.slice bo b.length bc) b.length (lcs b)) := ⟨bo, bc, bd, rfl, hB⟩
    clear hA hB
    have hl2 : (a.length : Int) = (b.length : Int) := by omega
    obtain ⟨x, hx⟩ : ∃ x, x = decide (a = b) := ⟨_, rfl⟩
    rw [← hx]
    replace hx := hid hx
    replace hlen := hid hlen
    go_enter Try.func23, Try.ntmps23
    go_wp2
    go_loopw [5] (fun i wr => ∃ k : Nat, k ≤ a.length ∧ i = .int .i64 (k : Int) ∧ Hid (a.take k = b.take k) ∧ ∃ n, wr = w.drewN n) (fun i _ => a.length - (intOf i).toNat)
    case atStart => exact ⟨0, Nat.zero_le _, rfl, hid rfl, 0, rfl⟩
    case round =>
      obtain ⟨k, hk, rfl, ht, n, rfl⟩ := hrel
      by_cases hlt : k < a.length
      · have hlb : k < b.length := by rw [← hlen.out]; exact hlt
        obtain ⟨d1, o1, cp1, e1, c1⟩ := hA'.out.bit hlt
        obtain ⟨d2, o2, cp2, e2, c2⟩ := hB'.out.bit hlb
        simp only [Value.slice.injEq, true_and] at e1 e2
        obtain ⟨rfl, rfl⟩ := e1
        obtain ⟨rfl, rfl⟩ := e2
        have h1 : a.take (k + 1) = a.take k ++ [a[k]] := List.take_succ_eq_append_getElem hlt
        have h2 : b.take (k + 1) = b.take k ++ [b[k]] := List.take_succ_eq_append_getElem hlb
        have h3 : a = b → a[k] = b[k] := fun e => by subst e; rfl
        replace h1 := hid h1
        replace h2 := hid h2
        replace h3 := hid h3
        generalize a[k] = p at *
        generalize b[k] = r at *
        cases p <;> cases r
        all_goals
          go_wp2
          go_quiet (fail)
          go_wp2
          first
          | (refine ⟨⟨k + 1, by omega, by go_num, hid (by rw [h1.out, h2.out, ht.out]), _, by first | rfl | exact World.drewN_drewN _ _ _⟩, by simp [intOf]; omega⟩)
          | (have hxx : x = false := by
               rw [hx.out]
               simp
               exact fun e => by have := h3.out e; simp at this
             subst hxx
             go_ret
             exact ⟨rfl, _, by first | rfl | exact World.drewN_drewN _ _ _⟩)
      · have hxx : x = true := by
          rw [hx.out]
          simp
          have h1 : a.take k = a := List.take_of_length_le (by omega)
          have h2 : b.take k = b := List.take_of_length_le (by have := hlen.out; omega)
          rw [← h1, ← h2, ht.out]
        subst hxx
        have hb2 : ¬ k < b.length := by rw [← hlen.out]; exact hlt
        go_wp2
        go_ret
        exact ⟨rfl, n, rfl⟩
  · have hxx : decide (a = b) = false := by simp; exact fun e => hlen (by rw [e])
    rw [hxx]
    have hl2 : ¬ ((a.length : Int) = (b.length : Int)) := by omega
    go_enter Try.func23, Try.ntmps23
    go_wp2
    go_ret
    exact ⟨rfl, 0, rfl⟩

set_option maxHeartbeats 4000000 in
theorem same_any {w : World} {P Q : Nat → Prop} {u v : Value} {a b : List Mp} (ha : MpsV w P u a) (hb : MpsV w Q v b) (hl : a.length ≤ 1000000) (hs : ∀ m ∈ a, m.2.1.length ≤ 1000000 ∧ m.2.2.length ≤ 1000000) :
    Calls Try.prog 10 #[u, v] w fun e w' => e = .returned (.bool (decide (a = b))) ∧ ∃ n, w' = w.drewN n := by
  obtain ⟨ao, ac, rfl⟩ : ∃ ao cap, u = .slice ao a.length cap := by
    obtain ⟨cs, ⟨ao, cap, d, hv, _⟩, _⟩ := ha
    exact ⟨ao, cap, hv⟩
  obtain ⟨bo, bc, rfl⟩ : ∃ ao cap, v = .slice ao b.length cap := by
    obtain ⟨cs, ⟨ao, cap, d, hv, _⟩, _⟩ := hb
    exact ⟨ao, cap, hv⟩
  have hA' := hid ha
  have hB' := hid hb
  clear ha hb
  by_cases hlen : a.length = b.length
  · have hl2 : (a.length : Int) = (b.length : Int) := by omega
    obtain ⟨x, hx⟩ : ∃ x, x = decide (a = b) := ⟨_, rfl⟩
    rw [← hx]
    replace hx := hid hx
    replace hlen := hid hlen
    go_enter Try.func10, Try.ntmps10
    go_wp2
    go_loopw [5] (fun i wr => ∃ k : Nat, k ≤ a.length ∧ i = .int .i64 (k : Int) ∧ Hid (a.take k = b.take k) ∧ ∃ n, wr = w.drewN n) (fun i _ => a.length - (intOf i).toNat)
    case atStart => exact ⟨0, Nat.zero_le _, rfl, hid rfl, 0, rfl⟩
    case round =>
      obtain ⟨k, hk, rfl, ht, n, rfl⟩ := hrel
      by_cases hlt : k < a.length
      · have hlb : k < b.length := by rw [← hlen.out]; exact hlt
        obtain ⟨d1, o1, cp1, p1, p2, e1, _, a0, a1, a2, s1, s2, _⟩ := hA'.out.at hlt
        obtain ⟨d2, o2, cp2, q1, q2, e2, _, b0, b1, b2, t1, t2, _⟩ := hB'.out.at hlb
        simp only [Value.slice.injEq, true_and] at e1 e2
        obtain ⟨rfl, rfl⟩ := e1
        obtain ⟨rfl, rfl⟩ := e2
        obtain ⟨hs1, hs2⟩ := hs _ (List.getElem_mem hlt)
        have h1 := hid (show a.take (k + 1) = a.take k ++ [a[k]] from List.take_succ_eq_append_getElem hlt)
        have h2 := hid (show b.take (k + 1) = b.take k ++ [b[k]] from List.take_succ_eq_append_getElem hlb)
        have h3 := hid (show a = b → a[k] = b[k] from fun e => by subst e; rfl)
        generalize a[k] = y at *
        generalize b[k] = z at *
        obtain ⟨r1, hr1⟩ : ∃ r, r = decide (y.2.1 = z.2.1) := ⟨_, rfl⟩
        obtain ⟨r2, hr2⟩ : ∃ r, r = decide (y.2.2 = z.2.2) := ⟨_, rfl⟩
        have H1 := hid (fun j => quiet_at n j (sameBits_any (s1.only (only_drewN w (n + j)) (by simp)) (t1.only (only_drewN w (n + j)) (by simp)) hs1))
        have H2 := hid (fun j => quiet_at n j (sameBits_any (s2.only (only_drewN w (n + j)) (by simp)) (t2.only (only_drewN w (n + j)) (by simp)) hs2))
        rw [← hr1] at H1
        rw [← hr2] at H2
        replace hr1 := hid hr1
        replace hr2 := hid hr2
        obtain ⟨po1, pc1, pd1, rfl, _⟩ := s1
        obtain ⟨po2, pc2, pd2, rfl, _⟩ := s2
        obtain ⟨qo1, qc1, qd1, rfl, _⟩ := t1
        obtain ⟨qo2, qc2, qd2, rfl, _⟩ := t2
        obtain ⟨y0, hy0⟩ : ∃ y0, y0 = y.1 := ⟨_, rfl⟩
        obtain ⟨z0, hz0⟩ : ∃ z0, z0 = z.1 := ⟨_, rfl⟩
        rw [← hy0] at a0
        rw [← hz0] at b0
        replace hy0 := hid hy0
        replace hz0 := hid hz0
        by_cases h0 : y0 = z0
        · subst h0
          cases r1 <;> cases r2
          all_goals
            go_wp2
            go_quiet (first | (go_at_call 23; with_reducible exact H1.out _) | (go_at_call 23; with_reducible exact H2.out _))
            go_wp2
            first
            | (refine ⟨⟨k + 1, by omega, by go_num, ?_, _, by first | rfl | exact World.drewN_drewN _ _ _⟩, by simp [intOf]; omega⟩
               refine hid ?_
               rw [h1.out, h2.out, ht.out]
               congr 2
               have g1 := of_decide_eq_true hr1.out.symm
               have g2 := of_decide_eq_true hr2.out.symm
               have g0 : y.1 = z.1 := by rw [← hy0.out, ← hz0.out]
               obtain ⟨ya, yb, yc⟩ := y
               obtain ⟨za, zb, zc⟩ := z
               simp only at g0 g1 g2
               rw [g0, g1, g2])
            | (have hxx : x = false := by
                 rw [hx.out]
                 simp
                 exact fun e => by
                   have he := h3.out e
                   first
                   | (have := hr1.out; rw [he] at this; simp at this; done)
                   | (have := hr2.out; rw [he] at this; simp at this; done)
               subst hxx
               go_ret
               exact ⟨rfl, _, by first | rfl | exact World.drewN_drewN _ _ _⟩)
        · have h0' : (y0 != z0) = true := by simpa using h0
          have h0'' : (y0 == z0) = false := by simpa using h0
          go_wp2
          go_quiet (fail)
          go_wp2
          have hxx : x = false := by
            rw [hx.out]
            simp
            exact fun e => h0 (by rw [hy0.out, hz0.out, h3.out e])
          subst hxx
          go_ret
          exact ⟨rfl, _, by first | rfl | exact World.drewN_drewN _ _ _⟩
      · have hxx : x = true := by
          rw [hx.out]
          simp
          have h1 : a.take k = a := List.take_of_length_le (by omega)
          have h2 : b.take k = b := List.take_of_length_le (by have := hlen.out; omega)
          rw [← h1, ← h2, ht.out]
        subst hxx
        have hb2 : ¬ k < b.length := by rw [← hlen.out]; exact hlt
        go_wp2
        go_ret
        exact ⟨rfl, n, rfl⟩
  · have hxx : decide (a = b) = false := by simp; exact fun e => hlen (by rw [e])
    rw [hxx]
    have hl2 : ¬ ((a.length : Int) = (b.length : Int)) := by omega
    go_enter Try.func10, Try.ntmps10
    go_wp2
    go_ret
    exact ⟨rfl, 0, rfl⟩

end Go.Proofs.Ytmghmmkjcgopaaa
