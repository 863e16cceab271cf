/-
  Regions whose order is drawn: what was read is read again.
-/
import Derived.Test.YtllbjkeahafleaaGreatDoorRN21
set_option linter.unusedSimpArgs false
namespace Go.Proofs.YtllbjkeahafleaaGreatDoor
namespace Rn

def effB (ops : Array Oper) (j : Nat) : Bool := match ops[j]? with
  | some o => !readsO o
  | none => false
def Un (ops : Array Oper) (L : Array Bool) (l : List Nat) : Prop := ∀ j ∈ l, effB ops j = true → L.getD j false = false
/-- What was taken: the entry, the frame, the value. -/
structure Tk where
  e : En
  a : Act
  v : Value
def TT (P : Program) (p : Tk) (w : World) : Prop := (execOp p.a.eval p.e.o).run P w = .ok (.value p.v) w
def SF (P : Program) (ops : Array Oper) (F : List Tk) (L : Array Bool) (w : World) : Prop := ∀ p ∈ F, Un ops L p.e.wait → TT P p w

section
variable {P : Program} {B : Tb} {φ : Fi} {h : Hp} {w : World} {ops : Array Oper} {ds : List Deferred}

theorem SF.add {F : List Tk} {L : Array Bool} {i : Nat} (g : SF P ops F L w) : SF P ops F (L.setIfInBounds i true) w := fun p hp hu => g p hp fun j hj he => by
  have := hu j hj he
  cases hh : L.getD j false with
  | false => rfl
  | true => rw [getD_set_true hh] at this; cases this
theorem SF.read {F : List Tk} {L : Array Bool} {i : Nat} (hi : effB ops i = false) (g : SF P ops F (L.setIfInBounds i true) w) : SF P ops F L w := fun p hp hu => g p hp fun j hj he => by
  have hne : i ≠ j := fun e => by rw [e, he] at hi; cases hi
  rw [getD_set_ne false hne]
  exact hu j hj he

theorem againK_spec {j : Nat} {K : List En → Prop} (hB : TOK P B) (hw : WR B φ h w) : ∀ {A : List En}, (∀ e ∈ A, readsO e.o = true ∧ ∃ a, TR ds φ e.t a) → againK B j h A K →
    ∃ A', K A' ∧ (∀ e ∈ A', e ∈ A) ∧ ∀ e ∈ A, j ∈ e.wait ∨ (e ∈ A' ∧ ∃ C, evVal B e.o e.t h fun v => eqH v e.v C)
  | [], _, hk => ⟨[], hk, fun _ h => h, fun _ h => by cases h⟩
  | e :: A, hA, hk => by
    have hk' : hasK j e.wait fun c => match c with
      | true => againK B j h A K
      | false => evVal B e.o e.t h fun v => eqH v e.v (againK B j h A fun l => K (e :: l)) := hk
    have hA' : ∀ e ∈ A, readsO e.o = true ∧ ∃ a, TR ds φ e.t a := fun x hx => hA x (by simp [hx])
    rcases hasK_spec hk' with ⟨h1, h2⟩ | ⟨h1, h2⟩
    · obtain ⟨A', g1, g2, g3⟩ := againK_spec hB hw hA' h1
      refine ⟨A', g1, fun x hx => by simp [g2 x hx], fun x hx => ?_⟩
      rcases List.mem_cons.1 hx with rfl | hx
      · exact .inl h2
      · exact g3 x hx
    · obtain ⟨hr, a0, ha0⟩ := hA e (by simp)
      obtain ⟨v, v', _, _, q3⟩ := evVal_spec hB hw ha0 hr h1
      obtain ⟨_, _, q5⟩ := eqH_spec q3
      obtain ⟨A', g1, g2, g3⟩ := againK_spec (K := fun l => K (e :: l)) hB hw hA' q5
      refine ⟨e :: A', g1, fun x hx => ?_, fun x hx => ?_⟩
      · rcases List.mem_cons.1 hx with rfl | hx
        · simp
        · simp [g2 x hx]
      · rcases List.mem_cons.1 hx with rfl | hx
        · exact .inr ⟨by simp, _, h1⟩
        · rcases g3 x hx with g | ⟨g, g'⟩
          · exact .inl g
          · exact .inr ⟨by simp [g], g'⟩

/-- What is read again is what was read. -/
theorem again_tt {p : Tk} {C : Prop} (hB : TOK P B) (hw : WR B φ h w) (hr : readsO p.e.o = true) (ht : TR ds φ p.e.t p.a) (hv : VR φ p.e.v p.v) (hk : evVal B p.e.o p.e.t h fun v => eqH v p.e.v C) : TT P p w := by
  obtain ⟨v, v', q1, q2, q3⟩ := evVal_spec hB hw ht hr hk
  obtain ⟨e1, e2, _⟩ := eqH_spec q3
  subst e1
  have := e2 φ _ _ q2 hv
  subst this
  exact q1

/-- What was taken and is kept: the plan's list of what has come up, and those that make a new row whenever they like. -/
structure Live (P : Program) (B : Tb) (φ : Fi) (X : List Nat) (L : Array Bool) (A : List En) (h : Hp) (w : World) (p : Tk) : Prop where
  mem : p.e ∈ A
  tr : ∃ ds, TR ds φ p.e.t p.a
  vr : VR φ p.e.v p.v
  says : TT P p w
  re : (∀ x ∈ X, L.getD x false = true ∨ x ∈ p.e.wait) ∨ ∃ C, evVal B p.e.o p.e.t h fun v => eqH v p.e.v C
def Keeps (P : Program) (B : Tb) (φ : Fi) (ops : Array Oper) (X : List Nat) (L L' : Array Bool) (A : List En) (F : List Tk) (h : Hp) (w : World) : Prop :=
  ∀ p ∈ F, (∃ j ∈ p.e.wait, effB ops j = true ∧ L'.getD j false = true) ∨ Live P B φ X L A h w p
theorem Keeps.sf {X : List Nat} {L L' : Array Bool} {A : List En} {F : List Tk} (g : Keeps P B φ ops X L L' A F h w) : SF P ops F L' w := fun p hp hu => by
  rcases g p hp with ⟨j, h1, h2, h3⟩ | hl
  · rw [hu j h1 h2] at h3; cases h3
  · exact hl.says
end

end Rn
end Go.Proofs.YtllbjkeahafleaaGreatDoor
