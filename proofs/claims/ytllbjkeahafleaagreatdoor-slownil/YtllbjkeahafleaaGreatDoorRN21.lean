/-
  Regions whose order is drawn: what is read, and read again.
-/
import Derived.Test.YtllbjkeahafleaaGreatDoorRN20
set_option linter.unusedSimpArgs false
namespace Go.Proofs.YtllbjkeahafleaaGreatDoor
namespace Rn

section
variable {P : Program} {B : Tb} {φ : Fi} {h : Hp} {w : World} {ds : List Deferred}

theorem evVal_spec {o : Oper} {t : Tm} {a : Act} {K : Value → Prop} (hB : TOK P B) (hw : WR B φ h w) (ht : TR ds φ t a) (hr : readsO o = true)
    (hk : evVal B o t h K) : ∃ v v', (execOp a.eval o).run P w = .ok (.value v') w ∧ VR φ v v' ∧ K v := by
  have evVal_eq : evVal B o t h K = evValM B o t h K := by
    unfold evVal evValM
    cases o.op <;> first
      | rfl
      | (rename_i c; obtain ⟨callee, _, _⟩ := c; cases callee <;> rfl)
      | (rename_i x _; cases x <;> rfl)
      | (rename_i x; cases x <;> rfl)
      | (rename_i _ x; cases x <;> rfl)
  rw [evVal_eq] at hk
  unfold evValM at hk
  unfold readsO at hr
  split at hk
  · rename_i c hop
    rw [hop] at hr
    simp only at hr
    split at hk
    · rename_i b hcal
      rw [hcal] at hr
      obtain ⟨vs, h5, h6⟩ := valsK_spec ht hk
      obtain ⟨v, v', q1, q2, _, q4⟩ := oBuiltin_read (ty := o.type) (cs := c.args.map fun | .const _ => true | _ => false) hB hw h6 hr h5
      refine ⟨v, v', ?_, q2, q4⟩
      have he : (execOp a.eval o).run P w = (builtin b c.argTypes o.type (c.args.map fun | .const _ => true | _ => false) (c.args.toList.map a.eval).toArray).run P w := by
        simp only [execOp, hop, Sem.run_bind, resolve, hcal, Sem.run_pure, Result.andThen_ok, invoke]
        congr 2
        apply Array.ext'
        simp
      rw [he]
      exact q1
    · exact hk.elim
  · rename_i hop
    have hr' : reads o.op = true := by
      split at hr
      · rename_i c hc
        exact absurd hc (hop c)
      · exact hr
    obtain ⟨v, v', q1, q2, _, q4⟩ := evRead_spec hB hw ht hr' (by rw [evOp_eq]; exact hk)
    exact ⟨v, v', q1, q2, q4⟩
end

theorem hasK_spec {j : Nat} {K : Bool → Prop} : ∀ {l : List Nat}, hasK j l K → (K true ∧ j ∈ l) ∨ (K false ∧ j ∉ l)
  | [], h => .inr ⟨h, by simp⟩
  | x :: l, h => by
    have h' : (match Nat.beq x j with | true => K true | false => hasK j l K) := h
    cases hb : Nat.beq x j with
    | true =>
      rw [hb] at h'
      have := Nat.eq_of_beq_eq_true hb
      subst this
      exact .inl ⟨h', by simp⟩
    | false =>
      rw [hb] at h'
      have hne : ¬ j = x := fun e => by rw [e, Nat.beq_refl] at hb; cases hb
      rcases hasK_spec h' with ⟨h1, h2⟩ | ⟨h1, h2⟩
      · exact .inl ⟨h1, by simp [h2]⟩
      · exact .inr ⟨h1, by simp [h2, hne]⟩

end Rn
end Go.Proofs.YtllbjkeahafleaaGreatDoor
