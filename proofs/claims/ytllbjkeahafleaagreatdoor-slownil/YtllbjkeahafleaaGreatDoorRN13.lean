/-
  What the runner's operations say of the machine's: maps.
-/
import Derived.Test.YtllbjkeahafleaaGreatDoorRN12
set_option linter.unusedSimpArgs false
namespace Go.Proofs.YtllbjkeahafleaaGreatDoor
namespace Rn

/-- Two entries are alike. -/
abbrev ER (φ : Fi) (e e' : MapEntry) : Prop := VR φ e.key e'.key ∧ VR φ e.val e'.val ∧ e'.born = e.born

section
variable {P : Program} {B : Tb} {φ : Fi} {h : Hp} {w : World} {K : KV}

theorem plainK_spec {t : Nat} {K : Prop} (hB : TOK P B) (hk : plainK B t K) : K ∧ ∃ i d, tget W B t = some i ∧ isAgg i.kind = false ∧ P.underlying t = some d ∧ (d = .bool ∨ (∃ k, d = .int k) ∨ d = .string) := by
  obtain ⟨i, h1, h2⟩ := tyK_spec hk
  obtain ⟨d, h3, h4⟩ := (hB.ok t i h1).under
  split at h2
  · rename_i hki; rw [hki] at h4; exact ⟨h2, i, d, h1, by rw [hki]; rfl, h3, .inl h4⟩
  · rename_i k hki; rw [hki] at h4; exact ⟨h2, i, d, h1, by rw [hki]; rfl, h3, .inr (.inl ⟨k, h4⟩)⟩
  · rename_i hki; rw [hki] at h4; exact ⟨h2, i, d, h1, by rw [hki]; rfl, h3, .inr (.inr h4)⟩
  · exact h2.elim
theorem checkKey_plain {t n : Nat} {d : TypeDesc} {v : Value} {e : Bool} (hu : P.underlying t = some d) (hd : d = .bool ∨ (∃ k, d = .int k) ∨ d = .string) : (Instr.checkKey e (n + 1) t v).run P w = .ok () w := by
  rcases hd with rfl | ⟨k, rfl⟩ | rfl <;> simp only [Instr.checkKey, Sem.run_bind, run_underlying hu, Result.andThen_ok, Sem.run_pure]

theorem checkKey_struct {t n : Nat} {fs : Array Field} {ys : Array Value} {e : Bool} (hu : P.underlying t = some (.struct fs))
    (hf : ∀ f ∈ fs.toList, ∃ v d, (part f.type ys f.offset).run P w = .ok v w ∧ P.underlying f.type = some d ∧ (d = .bool ∨ (∃ k, d = .int k) ∨ d = .string)) : (Instr.checkKey e (n + 1 + 1) t (.agg ys)).run P w = .ok () w := by
  rw [Instr.checkKey]
  simp only [Sem.run_bind, run_underlying hu, Result.andThen_ok]
  rw [← Array.forIn_toList]
  revert hf
  generalize fs.toList = l
  intro hf
  induction l with
  | nil => rfl
  | cons f l ih =>
    obtain ⟨v, d, h1, h2, h3⟩ := hf f (by simp)
    have hck : (Instr.checkKey e (n + 1) f.type v).run P w = .ok () w := checkKey_plain h2 h3
    have ih' := ih fun x hx => hf x (by simp [hx])
    simp only [List.forIn_cons, Sem.run_bind]
    by_cases hn : f.name ≠ "_"
    · simp only [hn, ne_eq, not_false_eq_true, if_true, Sem.run_bind, h1, Result.andThen_ok, hck, Sem.run_pure]
      exact ih'
    · simp only [hn, if_false, Sem.run_pure, Result.andThen_ok]
      exact ih'

/-- A key may be one. -/
theorem keyK_spec {t : Nat} {k k' : Value} {K : Prop} {e : Bool} (hB : TOK P B) (hv : VR φ k k') (hk : keyK B t k K) : K ∧ (Instr.checkKey e 10000 t k').run P w = .ok () w := by
  obtain ⟨i, h1, h2⟩ := tyK_spec hk
  obtain ⟨d, h3, h4⟩ := (hB.ok t i h1).under
  split at h2
  · rename_i hki; rw [hki] at h4; exact ⟨h2, checkKey_plain h3 (.inl h4)⟩
  · rename_i k hki; rw [hki] at h4; exact ⟨h2, checkKey_plain h3 (.inr (.inl ⟨k, h4⟩))⟩
  · rename_i hki; rw [hki] at h4; exact ⟨h2, checkKey_plain h3 (.inr (.inr h4))⟩
  · rename_i fs hki
    obtain ⟨fs', rfl, h5⟩ := kd_struct hki h4
    split at h2
    · rename_i xs
      obtain ⟨ys, rfl, hxy⟩ := hv.inv
      have key : ∀ (l l' : List Field), All2 (fun (f f' : Field) => f'.type = f.type ∧ f'.offset = f.offset ∧ f'.name ≠ "_") l l' →
          (List.rec (motive := fun _ => Prop) K (fun f _ rest => plainK B f.type (dropK f.offset xs.toList fun l => match l with
            | [] => False
            | _ :: _ => rest)) l : Prop) →
          K ∧ ∀ f ∈ l', ∃ v d, (part f.type ys f.offset).run P w = .ok v w ∧ P.underlying f.type = some d ∧ (d = .bool ∨ (∃ k, d = .int k) ∨ d = .string) := by
        intro l
        induction l with
        | nil => intro l' hl hk; cases hl; exact ⟨hk, fun f hf => by simp at hf⟩
        | cons f l ih =>
          intro l' hl hk
          cases l' with
          | nil => exact hl.elim
          | cons f' l' =>
            obtain ⟨⟨g1, g2, _⟩, hrest⟩ := hl
            obtain ⟨g3, j, d', g4, g5, g6, g7⟩ := plainK_spec hB hk
            rw [dropK_iff] at g3
            obtain ⟨g8, g9⟩ := g3
            have hdrop := All2.drop f.offset hxy
            split at g9
            · exact g9.elim
            · rename_i x0 l0 hx0
              rw [hx0] at hdrop
              obtain ⟨k1, k2⟩ := ih l' hrest g9
              refine ⟨k1, fun q hq => ?_⟩
              rcases List.mem_cons.1 hq with rfl | hq
              · cases hy0 : ys.toList.drop f.offset with
                | nil => rw [hy0] at hdrop; exact hdrop.elim
                | cons y0 ly =>
                  refine ⟨y0, d', ?_, by rw [g1]; exact g6, g7⟩
                  rw [g1, g2]
                  exact part_run (hB.ok f.type j g4) (fun h => by rw [g5] at h; cases h) (fun _ => by rw [hy0]; rfl)
              · exact k2 q hq
      obtain ⟨k1, k2⟩ := key fs.toList fs'.toList h5 h2
      exact ⟨k1, checkKey_struct (n := 9998) h3 k2⟩
    · exact h2.elim
  · exact h2.elim
end

end Rn
end Go.Proofs.YtllbjkeahafleaaGreatDoor
