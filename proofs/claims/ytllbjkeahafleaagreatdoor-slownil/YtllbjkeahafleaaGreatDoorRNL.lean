/-
  The plans of a program's regions, tested in parts.
-/
import Derived.Test.YtllbjkeahafleaaGreatDoorRN28
namespace Go.Proofs.YtllbjkeahafleaaGreatDoor
namespace Rn

section
variable {P : Program} {G : Plans}

theorem legalFuncs_key : ∀ (l : List Func) (g0 : Nat), legalFuncs G l g0 = true → ∀ (g : Nat) (fn : Func) (c : Code), l[g]? = some fn → fn.body = some c → legalCode G (g0 + g) c = true
  | [], _, _, g, _, _, hg, _ => by simp at hg
  | f :: l, g0, hl, g, fn, c, hg, hb => by
    simp only [legalFuncs, Bool.and_eq_true] at hl
    cases g with
    | zero =>
      have : f = fn := by simpa using hg
      subst this
      rw [hb] at hl
      exact hl.1
    | succ g =>
      have := legalFuncs_key l (g0 + 1) hl.2 g fn c (by simpa using hg) hb
      rwa [show g0 + (g + 1) = g0 + 1 + g by omega]
/-- Are the plans of some of a function's regions its own? -/
def legalSome (p : Nat → Bool) (G : Plans) (g : Nat) : Code → Bool
  | .region id ops true => match p id with
    | true => legalCode G g (.region id ops true)
    | false => true
  | .seq a b => legalSome p G g a && legalSome p G g b
  | .cond _ a b => legalSome p G g a && legalSome p G g b
  | .block _ b => legalSome p G g b
  | .loop b => legalSome p G g b
  | .scope b => legalSome p G g b
  | .rangeFunc _ _ a b => legalSome p G g a && legalSome p G g b
  | _ => true
theorem legal_of_some {ps : List (Nat → Bool)} {g : Nat} (hp : ∀ i, ∃ p ∈ ps, p i = true) : ∀ (c : Code), (∀ p ∈ ps, legalSome p G g c = true) → legalCode G g c = true
  | .region id ops true, h => by
    obtain ⟨p, h1, h2⟩ := hp id
    have := h p h1
    simp only [legalSome, h2] at this
    exact this
  | .region _ _ false, _ => rfl
  | .seq a b, h => by
    simp only [legalCode, Bool.and_eq_true]
    exact ⟨legal_of_some hp a fun p hq => by have := h p hq; simp only [legalSome, Bool.and_eq_true] at this; exact this.1, legal_of_some hp b fun p hq => by have := h p hq; simp only [legalSome, Bool.and_eq_true] at this; exact this.2⟩
  | .cond _ a b, h => by
    simp only [legalCode, Bool.and_eq_true]
    exact ⟨legal_of_some hp a fun p hq => by have := h p hq; simp only [legalSome, Bool.and_eq_true] at this; exact this.1, legal_of_some hp b fun p hq => by have := h p hq; simp only [legalSome, Bool.and_eq_true] at this; exact this.2⟩
  | .block _ b, h => legal_of_some hp b h
  | .loop b, h => legal_of_some hp b h
  | .scope b, h => legal_of_some hp b h
  | .rangeFunc _ _ a b, h => by
    simp only [legalCode, Bool.and_eq_true]
    exact ⟨legal_of_some hp a fun p hq => by have := h p hq; simp only [legalSome, Bool.and_eq_true] at this; exact this.1, legal_of_some hp b fun p hq => by have := h p hq; simp only [legalSome, Bool.and_eq_true] at this; exact this.2⟩
  | .skip, _ => rfl
  | .exit _, _ => rfl
  | .label _, _ => rfl
  | .goto _, _ => rfl
  | .ret, _ => rfl
  | .refuse _, _ => rfl
/-- So many functions at a time. -/
def part (P : Program) (n k : Nat) : List Func := (P.funcs.toList.drop (n * k)).take n
theorem plans_of {n m : Nat} (hn : 0 < n) (hm : P.funcs.size ≤ n * m) (h : ∀ k, k < m → legalFuncs G (part P n k) (n * k) = true) : PlansOK P G := by
  intro g fn c hg hb
  have hlt : g < P.funcs.size := (Array.getElem?_eq_some_iff.1 hg).1
  have hk : g / n < m := by
    rw [Nat.div_lt_iff_lt_mul hn, Nat.mul_comm]
    omega
  have hd := Nat.div_add_mod g n
  have hr := Nat.mod_lt g hn
  have := legalFuncs_key (part P n (g / n)) (n * (g / n)) (h _ hk) (g % n) fn c (by
    unfold part
    rw [List.getElem?_take, if_pos hr, List.getElem?_drop, hd]
    simpa using hg) hb
  rwa [hd] at this
end

end Rn
end Go.Proofs.YtllbjkeahafleaaGreatDoor
