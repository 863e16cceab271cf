/-
  Regions whose order is drawn: an operation that reads alone may be taken first, if what it reads stays for as long as it may be pending.
  'S' is a condition on the world that hangs on what has come up: behind every operation that is carried out it is to be shown. While none of those that wait for operation i ('Wi') has come up, S says 'T': and in every world that meets T operation i yields its value.
-/
import Derived.Test.YtllbjkeahafleaaGreatDoorRN19
import Derived.OrdersHeld
set_option linter.unusedSimpArgs false
namespace Go.Proofs.YtllbjkeahafleaaGreatDoor
namespace Rn

section
variable {P : Program} {ops : Array Oper} {Q : Exit → Act → World → Prop} {md : Region.Mode}

theorem yields_op {ro : Option Nat} {S : World → Prop} {i : Nat} {o : Oper} {v : Value} {a : Act} (hnd : ∀ c, o.op ≠ .defer c) (hi : ops[i]? = some o) (hy : YieldsIf P ops S o v a)
    {K : Act → World → Prop} {w : World} (hS : S w) (h : K (a.put o.dst v) w) : wpOpIn (fen ro) 0 P ops Q i K a w := by
  unfold wpOpIn
  simp only [hi]
  rcases hy with ⟨hw, hv⟩ | ⟨hw, rfl⟩
  · simp only [hw, if_true]
    refine ⟨fun _ _ => trivial, ?_⟩
    change o.uponIn (fen ro) 0 P a K Q ((o.semAt ro a.eval).run P w)
    rw [Oper.semAt_eq ro _ _ hnd, hv w hS]
    exact h
  · simp only [hw, Bool.false_eq_true, if_false]
    exact ⟨fun _ _ => trivial, h⟩
/-- One operation, apart from another one: whether the other one's value is already in its temporary makes no difference to it, and it makes none to the other one. -/
theorem op_putIf {ro : Option Nat} {S : World → Prop} {j : Nat} {oi oj : Oper} {v : Value} (hnd : ∀ c, oj.op ≠ .defer c) (hj : ops[j]? = some oj) (hap : oi.apart ops oj = true)
    (hsi : ∀ cs b, oi.op ≠ .select cs b) (hsj : ∀ cs b, oj.op ≠ .select cs b)
    (hQ : ∀ c a w, Q (.panic c) (a.put oi.dst v) w → Q (.panic c) a w) {K : Act → World → Prop} {a : Act} {w : World}
    (hy : YieldsIf P ops S oi v a) (h : wpOpIn (fen ro) 0 P ops Q j K (a.put oi.dst v) w) :
    wpOpIn (fen ro) 0 P ops Q j (fun a' w' => YieldsIf P ops S oi v a' ∧ K (a'.put oi.dst v) w') a w := by
  obtain ⟨h1, h2, h3⟩ := Oper.apart_spec hap
  have keep : ∀ (a : Act), YieldsIf P ops S oi v a → ∀ u, YieldsIf P ops S oi v (a.put oj.dst u) := fun a hy u =>
    hy.of_same (execOp_put oi hsi a oj.dst u h3) (wanted_put oi a oj.dst u h3)
  have keepD : ∀ d, YieldsIf P ops S oi v { a with defers := d :: a.defers } := fun d => hy.of_same rfl rfl
  unfold wpOpIn at *
  simp only [hj] at *
  rw [wanted_put oj a oi.dst v h1] at h
  split
  · rename_i hw
    simp only [hw, if_true] at h
    refine ⟨fun _ _ => trivial, ?_⟩
    have h := h.2
    change oj.uponIn (fen ro) 0 P (a.put oi.dst v) K Q ((oj.semAt ro (a.put oi.dst v).eval).run P w) at h
    change oj.uponIn (fen ro) 0 P a _ Q ((oj.semAt ro a.eval).run P w)
    rw [Oper.semAt_eq ro _ _ hnd] at h ⊢
    rw [execOp_put oj hsj a oi.dst v h1] at h
    generalize (execOp a.eval oj).run P w = r at *
    cases r with
    | ok n w' =>
      cases n <;> simp only [Oper.uponIn] at h ⊢
      case value u => exact ⟨keep a hy u, by rw [← Act.put_comm a v u h2]; exact h⟩
      case skip => exact ⟨keep a hy _, by rw [← Act.put_comm a v undef h2]; exact h⟩
      case defer d =>
        refine ⟨keep _ (keepD d) _, ?_⟩
        rw [← Act.put_comm _ v undef h2, ← Act.put_defers]
        exact h
      case enter f args =>
        refine ⟨h.1, CallsIn.mono h.2 fun e w'' he => ?_⟩
        cases e with
        | returned u => exact ⟨keep a hy u, by rw [← Act.put_comm a v u h2]; exact he⟩
        | panicked c => exact hQ _ _ _ he
        | outgrown => exact he
      case row row args => exact ⟨h.1, RowsIn.mono h.2 fun u w'' he => ⟨keep a hy u, by rw [← Act.put_comm a v u h2]; exact he⟩⟩
      case round l f tmps assign body =>
        refine ⟨h.1, RoundIn.mono h.2 fun e w'' he => ?_⟩
        cases e with
        | returned u => exact ⟨keep a hy u, by rw [← Act.put_comm a v u h2]; exact he⟩
        | panicked c => exact hQ _ _ _ he
        | outgrown => exact he
    | halt x w' =>
      cases x <;> simp only [Oper.uponIn] at h ⊢
      case panic u => exact hQ _ _ _ h
  · rename_i hw
    simp only [hw] at h
    exact ⟨fun _ _ => trivial, keep a hy _, by rw [← Act.put_comm a v undef h2]; exact h.2⟩

/-- Whatever order is drawn from here on; behind every operation S holds. -/
def wpAnyS (ro : Option Nat) (P : Program) (md : Region.Mode) (ops : Array Oper) (Q : Exit → Act → World → Prop) (S : Array Bool → World → Prop) : Nat → Array Bool → Act → World → Prop
  | 0, L, a, w => Region.ready md ops L = [] ∧ Q .normal a w
  | n + 1, L, a, w => (Region.ready md ops L = [] → Q .normal a w) ∧
    ∀ i ∈ Region.ready md ops L, wpOpIn (fen ro) 0 P ops Q i (fun a' w' => S (L.setIfInBounds i true) w' ∧ wpAnyS ro P md ops Q S n (L.setIfInBounds i true) a' w') a w

theorem wpAnyS.mono {ro : Option Nat} {S S' : Array Bool → World → Prop} (h : ∀ L w, S' L w → S L w) : ∀ {n : Nat} {L : Array Bool} {a : Act} {w : World}, wpAnyS ro P md ops Q S' n L a w → wpAnyS ro P md ops Q S n L a w
  | 0, _, _, _, g => g
  | _ + 1, _, _, _, g => ⟨g.1, fun i hi => wpOpIn_mono (fun _ _ k => ⟨h _ _ k.1, wpAnyS.mono h k.2⟩) (g.2 i hi)⟩
theorem wpAnyS.any {ro : Option Nat} {S : Array Bool → World → Prop} : ∀ {n : Nat} {L : Array Bool} {a : Act} {w : World}, wpAnyS ro P md ops Q S n L a w → wpAnyIn (fen ro) 0 P md ops Q n L a w
  | 0, _, _, _, g => g
  | _ + 1, _, _, _, g => ⟨g.1, fun i hi => wpOpIn_mono (fun _ _ k => wpAnyS.any k.2) (g.2 i hi)⟩
theorem wpAnyS.done {ro : Option Nat} {S : Array Bool → World → Prop} {L : Array Bool} {a : Act} {w : World} (hr : Region.ready md ops L = []) (h : Q .normal a w) : ∀ n, wpAnyS ro P md ops Q S n L a w
  | 0 => ⟨hr, h⟩
  | _ + 1 => ⟨fun _ => h, fun i hi => by rw [hr] at hi; cases hi⟩
/-- Just one may come up. -/
theorem wpAnyS.one {ro : Option Nat} {S : Array Bool → World → Prop} {i n : Nat} {L : Array Bool} {a : Act} {w : World} (hr : Region.ready md ops L = [i])
    (h : wpOpIn (fen ro) 0 P ops Q i (fun a' w' => S (L.setIfInBounds i true) w' ∧ wpAnyS ro P md ops Q S n (L.setIfInBounds i true) a' w') a w) : wpAnyS ro P md ops Q S (n + 1) L a w :=
  ⟨fun e => (by rw [hr] at e; cases e), fun j hj => by rw [hr] at hj; cases List.mem_singleton.1 hj; exact h⟩

/-- It may be taken first. -/
theorem wpAnyS.first {ro : Option Nat} {S : Array Bool → World → Prop} {T : World → Prop} {Wi : Nat → Bool} {i : Nat} {oi : Oper} {v : Value} (hi : ops[i]? = some oi) (hnd : ∀ (j : Nat) (o : Oper) c, ops[j]? = some o → o.op ≠ .defer c)
    (hsel : ∀ (j : Nat) (o : Oper) cs b, ops[j]? = some o → o.op ≠ .select cs b) (hQ : ∀ c a w, Q (.panic c) (a.put oi.dst v) w → Q (.panic c) a w)
    (hS : ∀ L w, S (L.setIfInBounds i true) w → S L w) (hS2 : ∀ L w, S L w → S (L.setIfInBounds i true) w)
    (hW : ∀ j oj, ops[j]? = some oj → Wi j = true → ∃ e ∈ oj.after, Region.binds md e = true ∧ (e.on = i ∨ Wi e.on = true))
    (hT : ∀ L w, (∀ j, Wi j = true → L.getD j false = false) → S L w → T w) :
    ∀ (n : Nat) (L : Array Bool) (a : Act) (w : World),
      (∀ j oj, ops[j]? = some oj → j ≠ i → L.getD j true = false → (∀ e ∈ oj.after, Region.binds md e = true → e.on ≠ i) → oi.apart ops oj = true) →
      i ∈ Region.ready md ops L → (∀ j, Wi j = true → L.getD j false = false) → YieldsIf P ops T oi v a → T w → S L w →
      wpAnyS ro P md ops Q S n (L.setIfInBounds i true) (a.put oi.dst v) w → wpAnyS ro P md ops Q S (n + 1) L a w := by
  intro n
  induction n with
  | zero =>
    intro L a w _ hr _ hy hTw hSw H
    refine ⟨fun h => (by rw [h] at hr; cases hr), fun j hj => ?_⟩
    by_cases hji : j = i
    · subst hji; exact yields_op (fun c => hnd _ _ c hi) hi hy hTw ⟨hS2 _ _ hSw, H⟩
    · have := ready_mono hj hji
      rw [H.1] at this
      cases this
  | succ n ih =>
    intro L a w hfree hr hun hy hTw hSw H
    refine ⟨fun h => (by rw [h] at hr; cases hr), fun j hj => ?_⟩
    by_cases hji : j = i
    · subst hji; exact yields_op (fun c => hnd _ _ c hi) hi hy hTw ⟨hS2 _ _ hSw, H⟩
    · have h1 := H.2 j (ready_mono hj hji)
      obtain ⟨hjun, oj, hoj, hall⟩ := mem_ready.1 hj
      have hi0 := (mem_ready.1 hr).1
      have hLi : L.getD i false ≠ true := fun h1 => by
        rcases Nat.lt_or_ge i L.size with h' | h'
        · simp [h'] at hi0 h1; rw [hi0] at h1; cases h1
        · simp [Array.getElem?_eq_none h'] at h1
      have hnot : ∀ e ∈ oj.after, Region.binds md e = true → e.on ≠ i := fun e he hb heq => hLi (heq ▸ hall e he hb)
      have hjW : Wi j ≠ true := fun hw => by
        obtain ⟨e, he, hb, h2⟩ := hW j oj hoj hw
        rcases h2 with h2 | h2
        · exact hnot e he hb h2
        · have h3 := hall e he hb
          rw [hun _ h2] at h3
          cases h3
      have hun' : ∀ k, Wi k = true → (L.setIfInBounds j true).getD k false = false := fun k hk => by
        have hne : j ≠ k := fun e => hjW (by rw [e]; exact hk)
        rw [getD_set_ne false hne]
        exact hun k hk
      have h2 := op_putIf (fun c => hnd _ _ c hoj) hoj (hfree j oj hoj hji hjun hnot) (fun cs b => hsel i oi cs b hi) (fun cs b => hsel j oj cs b hoj) hQ hy h1
      have hfree' : ∀ k ok, ops[k]? = some ok → k ≠ i → (L.setIfInBounds j true).getD k true = false →
          (∀ e ∈ ok.after, Region.binds md e = true → e.on ≠ i) → oi.apart ops ok = true := fun k ok hk hki hu hno => by
        refine hfree k ok hk hki ?_ hno
        by_cases hjk : j = k
        · subst hjk; exact hjun
        · rw [getD_set_ne true hjk] at hu; exact hu
      refine wpOpIn_mono (fun a' w' h3 => ?_) h2
      obtain ⟨h4, h5, h6⟩ := h3
      rw [Array.setIfInBounds_comm _ _ (Ne.symm hji)] at h5 h6
      have h7 := hS _ _ h5
      exact ⟨h7, ih (L.setIfInBounds j true) a' w' hfree' (ready_mono hr (Ne.symm hji)) hun' h4 (hT _ _ hun' h7) h7 h6⟩
end

end Rn
end Go.Proofs.YtllbjkeahafleaaGreatDoor
