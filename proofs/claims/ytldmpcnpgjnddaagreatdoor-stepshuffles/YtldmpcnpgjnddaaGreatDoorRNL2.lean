/-
  The plans of a region, tested step by step; the plans of one function more.
-/
import Derived.Test.YtldmpcnpgjnddaaGreatDoorRNL
namespace Go.Proofs.YtldmpcnpgjnddaaGreatDoor
namespace Rn

section
variable {P : Program} {G : Plans}

/-- The drawn regions of a number. -/
def regsOf (id : Nat) : Code → List (Array Oper)
  | .region i ops true => match Nat.beq id i with
    | true => [ops]
    | false => []
  | .seq a b => regsOf id a ++ regsOf id b
  | .cond _ a b => regsOf id a ++ regsOf id b
  | .block _ b => regsOf id b
  | .loop b => regsOf id b
  | .scope b => regsOf id b
  | .rangeFunc _ _ a b => regsOf id a ++ regsOf id b
  | _ => []
theorem some_of_regs {g id : Nat} : ∀ (c : Code), (∀ ops ∈ regsOf id c, legalCode G g (.region id ops true) = true) → legalSome (Nat.beq id) G g c = true
  | .region i ops true, h => by
    simp only [legalSome]
    split
    · rename_i hb
      have := Nat.eq_of_beq_eq_true hb
      subst this
      exact h ops (by simp only [regsOf, hb]; simp)
    · rfl
  | .region _ _ false, _ => rfl
  | .seq a b, h => by
    simp only [legalSome, Bool.and_eq_true]
    exact ⟨some_of_regs a fun o ho => h o (by simp only [regsOf]; exact List.mem_append_left _ ho), some_of_regs b fun o ho => h o (by simp only [regsOf]; exact List.mem_append_right _ ho)⟩
  | .cond _ a b, h => by
    simp only [legalSome, Bool.and_eq_true]
    exact ⟨some_of_regs a fun o ho => h o (by simp only [regsOf]; exact List.mem_append_left _ ho), some_of_regs b fun o ho => h o (by simp only [regsOf]; exact List.mem_append_right _ ho)⟩
  | .block _ b, h => some_of_regs b h
  | .loop b, h => some_of_regs b h
  | .scope b, h => some_of_regs b h
  | .rangeFunc _ _ a b, h => by
    simp only [legalSome, Bool.and_eq_true]
    exact ⟨some_of_regs a fun o ho => h o (by simp only [regsOf]; exact List.mem_append_left _ ho), some_of_regs b fun o ho => h o (by simp only [regsOf]; exact List.mem_append_right _ ho)⟩
  | .skip, _ => rfl
  | .exit _, _ => rfl
  | .label _, _ => rfl
  | .goto _, _ => rfl
  | .ret, _ => rfl
  | .refuse _, _ => rfl
/-- Steps of a plan, one behind the other: is each one lawful? -/
def okRow (X : List Nat) (ops : Array Oper) : List Step → Array Bool → List Nat → Bool
  | [], _, _ => true
  | s :: l, L, Zs => legalAt X ops L Zs s && match s.kd with
    | 2 => okRow X ops l L (s.i :: Zs)
    | 3 => okRow X ops l (L.setIfInBounds s.i true) (Zs.filter fun x => !Nat.beq x s.i)
    | _ => okRow X ops l (L.setIfInBounds s.i true) Zs
/-- What is listed behind them. -/
def afterRow : List Step → Array Bool → List Nat → Array Bool × List Nat
  | [], L, Zs => (L, Zs)
  | s :: l, L, Zs => match s.kd with
    | 2 => afterRow l L (s.i :: Zs)
    | 3 => afterRow l (L.setIfInBounds s.i true) (Zs.filter fun x => !Nat.beq x s.i)
    | _ => afterRow l (L.setIfInBounds s.i true) Zs
theorem legal_app {X : List Nat} {ops : Array Oper} {l2 : List Step} : ∀ {l1 : List Step} {L L' : Array Bool} {Zs Zs' : List Nat}, okRow X ops l1 L Zs = true → afterRow l1 L Zs = (L', Zs') → legal X ops l2 L' Zs' = true → legal X ops (l1 ++ l2) L Zs = true
  | [], L, L', Zs, Zs', _, ha, h => by
    simp only [afterRow, Prod.mk.injEq] at ha
    obtain ⟨rfl, rfl⟩ := ha
    exact h
  | s :: l1, L, L', Zs, Zs', ho, ha, h => by
    simp only [okRow, Bool.and_eq_true] at ho
    simp only [List.cons_append, legal, Bool.and_eq_true]
    refine ⟨ho.1, ?_⟩
    have ho2 := ho.2
    simp only [afterRow] at ha
    split at ho2
    · rename_i hk
      rw [hk] at ha
      simp only [hk]
      exact legal_app ho2 ha h
    · rename_i hk
      rw [hk] at ha
      simp only [hk]
      exact legal_app ho2 ha h
    · rename_i h1 h2
      split at ha
      · exact absurd (by assumption) h1
      · exact absurd (by assumption) h2
      · split
        · exact absurd (by assumption) h1
        · exact absurd (by assumption) h2
        · exact legal_app ho2 ha h
theorem legal_start {X : List Nat} {ops : Array Oper} {l l' : List Step} {L : Array Bool} (h : Array.replicate ops.size false = L) (hl : l = l') (h2 : legal X ops l' L [] = true) : legal X ops l (Array.replicate ops.size false) [] = true := by
  rw [h, hl]
  exact h2
/-- The plans of one function, and all others' as they were. -/
theorem legal_congr {G' : Plans} {g : Nat} (h : tget W G' g = tget W G g) : ∀ (c : Code), legalCode G' g c = legalCode G g c
  | .region id ops true => by simp only [legalCode, h]
  | .region _ _ false => rfl
  | .seq a b => by simp only [legalCode, legal_congr h a, legal_congr h b]
  | .cond _ a b => by simp only [legalCode, legal_congr h a, legal_congr h b]
  | .block _ b => legal_congr h b
  | .loop b => legal_congr h b
  | .scope b => legal_congr h b
  | .rangeFunc _ _ a b => by simp only [legalCode, legal_congr h a, legal_congr h b]
  | .skip => rfl
  | .exit _ => rfl
  | .label _ => rfl
  | .goto _ => rfl
  | .ret => rfl
  | .refuse _ => rfl
theorem plans_more {G' : Plans} {k : Nat} {f : Option Fp} (hk : k + 1 < 2 ^ W) (hG : PlansOK P G) (he : G' = tput W G k f) (h : ∀ fn c, P.funcs[k]? = some fn → fn.body = some c → legalCode G' k c = true) : PlansOK P G' := by
  intro g fn c hg hb
  by_cases e : g = k
  · subst e
    exact h fn c hg hb
  · rw [legal_congr (G := G) (by rw [he, tget_tput _ _ _ _ _ hk, if_neg e])]
    exact hG g fn c hg hb
end

end Rn
end Go.Proofs.YtldmpcnpgjnddaaGreatDoor
