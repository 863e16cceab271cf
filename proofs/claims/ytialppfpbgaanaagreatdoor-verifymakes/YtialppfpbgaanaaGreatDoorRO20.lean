/-
  Regions whose order is drawn: an operation that reads alone may be taken first, if what it reads stays for as long as it may be pending.
  'S' is a condition on the world that hangs on what has come up: behind every operation that is carried out it is to be shown. While none of those that wait for operation i ('Wi') has come up, S says 'T': and in every world that meets T operation i yields its value.
-/
import Derived.Test.YtialppfpbgaanaaGreatDoorRO19
import Derived.OrdersHeld
set_option linter.unusedSimpArgs false
namespace Go.Proofs.YtialppfpbgaanaaGreatDoor
namespace Rn

section
variable {P : Program} {ops : Array Oper} {Q : Exit → Act → World → Prop} {md : Region.Mode}

/-- Whatever order is drawn from here on; behind every operation S holds. -/
def wpAnyS (P : Program) (md : Region.Mode) (ops : Array Oper) (Q : Exit → Act → World → Prop) (S : Array Bool → World → Prop) : Nat → Array Bool → Act → World → Prop
  | 0, L, a, w => Region.ready md ops L = [] ∧ Q .normal a w
  | n + 1, L, a, w => (Region.ready md ops L = [] → Q .normal a w) ∧
    ∀ i ∈ Region.ready md ops L, wpOp P ops Q i (fun a' w' => S (L.setIfInBounds i true) w' ∧ wpAnyS P md ops Q S n (L.setIfInBounds i true) a' w') a w

theorem wpAnyS.mono {S S' : Array Bool → World → Prop} (h : ∀ L w, S' L w → S L w) : ∀ {n : Nat} {L : Array Bool} {a : Act} {w : World}, wpAnyS P md ops Q S' n L a w → wpAnyS P md ops Q S n L a w
  | 0, _, _, _, g => g
  | _ + 1, _, _, _, g => ⟨g.1, fun i hi => wpOp_mono (fun _ _ k => ⟨h _ _ k.1, wpAnyS.mono h k.2⟩) (g.2 i hi)⟩
theorem wpAnyS.any {S : Array Bool → World → Prop} : ∀ {n : Nat} {L : Array Bool} {a : Act} {w : World}, wpAnyS P md ops Q S n L a w → wpAny P md ops Q n L a w
  | 0, _, _, _, g => g
  | _ + 1, _, _, _, g => ⟨g.1, fun i hi => wpOp_mono (fun _ _ k => wpAnyS.any k.2) (g.2 i hi)⟩
theorem wpAnyS.done {S : Array Bool → World → Prop} {L : Array Bool} {a : Act} {w : World} (hr : Region.ready md ops L = []) (h : Q .normal a w) : ∀ n, wpAnyS P md ops Q S n L a w
  | 0 => ⟨hr, h⟩
  | _ + 1 => ⟨fun _ => h, fun i hi => by rw [hr] at hi; cases hi⟩
/-- Just one may come up. -/
theorem wpAnyS.one {S : Array Bool → World → Prop} {i n : Nat} {L : Array Bool} {a : Act} {w : World} (hr : Region.ready md ops L = [i])
    (h : wpOp P ops Q i (fun a' w' => S (L.setIfInBounds i true) w' ∧ wpAnyS P md ops Q S n (L.setIfInBounds i true) a' w') a w) : wpAnyS P md ops Q S (n + 1) L a w :=
  ⟨fun e => (by rw [hr] at e; cases e), fun j hj => by rw [hr] at hj; cases List.mem_singleton.1 hj; exact h⟩

/-- It may be taken first. -/
theorem wpAnyS.first {S : Array Bool → World → Prop} {T : World → Prop} {Wi : Nat → Bool} {i : Nat} {oi : Oper} {v : Value} (hi : ops[i]? = some oi)
    (hsel : ∀ (j : Nat) (o : Oper) cs b, ops[j]? = some o → o.op ≠ .select cs b) (hQ : ∀ c a w, Q (.panic c) (a.put oi.dst v) w → Q (.panic c) a w)
    (hS : ∀ L w, S (L.setIfInBounds i true) w → S L w) (hS2 : ∀ L w, S L w → S (L.setIfInBounds i true) w)
    (hW : ∀ j oj, ops[j]? = some oj → Wi j = true → ∃ e ∈ oj.after, Region.binds md e = true ∧ (e.on = i ∨ Wi e.on = true))
    (hT : ∀ L w, (∀ j, Wi j = true → L.getD j false = false) → S L w → T w) :
    ∀ (n : Nat) (L : Array Bool) (a : Act) (w : World),
      (∀ j oj, ops[j]? = some oj → j ≠ i → L.getD j true = false → (∀ e ∈ oj.after, Region.binds md e = true → e.on ≠ i) → oi.apart ops oj = true) →
      i ∈ Region.ready md ops L → (∀ j, Wi j = true → L.getD j false = false) → YieldsIf P ops T oi v a → T w → S L w →
      wpAnyS P md ops Q S n (L.setIfInBounds i true) (a.put oi.dst v) w → wpAnyS P md ops Q S (n + 1) L a w := by
  intro n
  induction n with
  | zero =>
    intro L a w _ hr _ hy hTw hSw H
    refine ⟨fun h => (by rw [h] at hr; cases hr), fun j hj => ?_⟩
    by_cases hji : j = i
    · subst hji; exact hy.wpOp hi hTw ⟨hS2 _ _ hSw, H⟩
    · have := ready_mono hj hji
      rw [H.1] at this
      cases this
  | succ n ih =>
    intro L a w hfree hr hun hy hTw hSw H
    refine ⟨fun h => (by rw [h] at hr; cases hr), fun j hj => ?_⟩
    by_cases hji : j = i
    · subst hji; exact hy.wpOp hi hTw ⟨hS2 _ _ hSw, H⟩
    · have h1 := H.2 j (ready_mono hj hji)
      obtain ⟨hjun, oj, hoj, hall⟩ := mem_ready.1 hj
      have hi0 := (mem_ready.1 hr).1
      have hLi : L.getD i false ≠ true := fun h1 => by
        rcases Nat.lt_or_ge i L.size with h' | h'
        · simp [h'] at hi0 h1; rw [hi0] at h1; cases h1
        · simp [Array.getElem?_eq_none h'] at h1
      have hnot : ∀ e ∈ oj.after, Region.binds md e = true → e.on ≠ i := fun e he hb heq => hLi (heq ▸ hall e he hb)
      have hjW : Wi j ≠ true := fun hw => by
        obtain ⟨e, he, hb, h2⟩ := hW j oj hoj hw
        rcases h2 with h2 | h2
        · exact hnot e he hb h2
        · have h3 := hall e he hb
          rw [hun _ h2] at h3
          cases h3
      have hun' : ∀ k, Wi k = true → (L.setIfInBounds j true).getD k false = false := fun k hk => by
        have hne : j ≠ k := fun e => hjW (by rw [e]; exact hk)
        rw [getD_set_ne false hne]
        exact hun k hk
      have h2 := wpOp_putIf hoj (hfree j oj hoj hji hjun hnot) (fun cs b => hsel i oi cs b hi) (fun cs b => hsel j oj cs b hoj) hQ hy h1
      have hfree' : ∀ k ok, ops[k]? = some ok → k ≠ i → (L.setIfInBounds j true).getD k true = false →
          (∀ e ∈ ok.after, Region.binds md e = true → e.on ≠ i) → oi.apart ops ok = true := fun k ok hk hki hu hno => by
        refine hfree k ok hk hki ?_ hno
        by_cases hjk : j = k
        · subst hjk; exact hjun
        · rw [getD_set_ne true hjk] at hu; exact hu
      refine wpOp_mono (fun a' w' h3 => ?_) h2
      obtain ⟨h4, h5, h6⟩ := h3
      rw [Array.setIfInBounds_comm _ _ (Ne.symm hji)] at h5 h6
      have h7 := hS _ _ h5
      exact ⟨h7, ih (L.setIfInBounds j true) a' w' hfree' (ready_mono hr (Ne.symm hji)) hun' h4 (hT _ _ hun' h7) h7 h6⟩
end

end Rn
end Go.Proofs.YtialppfpbgaanaaGreatDoor
