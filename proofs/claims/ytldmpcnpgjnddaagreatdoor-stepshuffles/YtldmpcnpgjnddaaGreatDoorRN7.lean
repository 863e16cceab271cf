/-
  What the runner's operations say of the machine's: operations on two values, conversions, structs and rows that are built, slices.
-/
import Derived.Test.YtldmpcnpgjnddaaGreatDoorRN6
namespace Go.Proofs.YtldmpcnpgjnddaaGreatDoor
namespace Rn

section
variable {P : Program} {B : Tb} {φ : Fi} {h : Hp} {w : World} {K : KV}

theorem eqGuard_run {op : BinOp} {t : Nat} {x y : Operand} {a b : Value} (h1 : a = .nilIface → b = .nilIface → lits x y = true) (h2 : ∀ xs ys, a = .agg xs → b = .agg ys → P.eqGuardType P.depth t = false) :
    (eqGuard op t x y a b).run P w = .ok () w := by
  by_cases ha : ∃ xs ys, a = .agg xs ∧ b = .agg ys
  · obtain ⟨xs, ys, rfl, rfl⟩ := ha
    exact run_eqGuard_agg w op t x y xs ys (h2 xs ys rfl rfl)
  · by_cases hn : a = .nilIface ∧ b = .nilIface
    · obtain ⟨rfl, rfl⟩ := hn
      have hl := h1 rfl rfl
      unfold lits at hl
      cases op <;> cases x <;> cases y <;> first
        | (simp at hl; done)
        | rfl
    · unfold eqGuard
      cases op <;> cases a <;> cases b <;> first
        | rfl
        | exact absurd ⟨rfl, rfl⟩ hn
        | exact absurd ⟨_, _, rfl, rfl⟩ ha

/-- Values that are held against one another are no numbers and no texts. -/
theorem binOp_eq {t : Nat} {x y : Value} {b : Bool} (h1 : ∀ k n, x ≠ .int k n) (h2 : ∀ s, x ≠ .string s) (h3 : ∀ k n, x ≠ .float k n) (h4 : ∀ k a b, x ≠ .complex k a b) (hq : (Op.equalIn 10000 t x y).run P w = .ok b w) :
    (binOp .eql t x y).run P w = .ok (.bool b) w ∧ (binOp .neq t x y).run P w = .ok (.bool (!b)) w := by
  have e1 : binOp .eql t x y = (do pure (.bool (← Op.equal t x y))) := by
    cases x <;> first | rfl | exact absurd rfl (h1 _ _) | exact absurd rfl (h2 _) | exact absurd rfl (h3 _ _) | exact absurd rfl (h4 _ _ _)
  have e2 : binOp .neq t x y = (do pure (.bool (!(← Op.equal t x y)))) := by
    cases x <;> first | rfl | exact absurd rfl (h1 _ _) | exact absurd rfl (h2 _) | exact absurd rfl (h3 _ _) | exact absurd rfl (h4 _ _ _)
  have hq' : (Op.equal t x y).run P w = .ok b w := hq
  exact ⟨by rw [e1]; simp only [Sem.run_bind, hq', Result.andThen_ok, Sem.run_pure], by rw [e2]; simp only [Sem.run_bind, hq', Result.andThen_ok, Sem.run_pure]⟩

theorem sameK_head {f t : Nat} {x y : Value} {K : Bool → Prop} (hk : sameK B (f + 1) t x y K) : (∀ c, x ≠ .chan c) ∧ (∀ xs, x = .agg xs → ∃ i, tget W B t = some i ∧ i.eq = true) := by
  unfold sameK at hk
  obtain ⟨i, h1, h2⟩ := tyK_spec hk
  constructor
  · rintro c rfl
    simp only at h2
    split at h2 <;> first
      | exact h2
      | (split at h2 <;> exact h2)
  · rintro xs rfl
    refine ⟨i, h1, ?_⟩
    simp only at h2
    split at h2 <;> first
      | exact h2.elim
      | (split at h2 <;> first | assumption | exact h2.elim)

theorem eqK_spec {ox oy : Operand} {op : BinOp} {t : Nat} {x x' y y' : Value} {K : Bool → Prop} (hB : TOK P B) (hx : VR φ x x') (hy : VR φ y y')
    (n1 : ∀ k n, x ≠ .int k n) (n2 : ∀ s, x ≠ .string s) (n3 : ∀ k a b, x ≠ .complex k a b) (hk : eqK B (lits ox oy) t x y K) :
    ∃ b, K b ∧ (eqGuard op t ox oy x' y').run P w = .ok () w ∧ (binOp .eql t x' y').run P w = .ok (.bool b) w ∧ (binOp .neq t x' y').run P w = .ok (.bool (!b)) w := by
  have key : sameK B 20 t x y K ∧ (x = .nilIface → y' = .nilIface → lits ox oy = true) := by
    unfold eqK at hk
    split at hk
    · split at hk
      · rename_i hl; exact ⟨hk, fun _ _ => hl⟩
      · split at hk
        · refine ⟨hk, fun _ e => ?_⟩
          subst e
          obtain ⟨_, e, _⟩ := hy.inv
          cases e
        · exact hk.elim
    · rename_i hn
      exact ⟨hk, fun e => absurd e hn⟩
  obtain ⟨hs, hl⟩ := key
  obtain ⟨b, h1, h2⟩ := sameK_spec (P := P) (w := w) hB 20 10000 t x x' y y' K (by omega) hx hy hs
  obtain ⟨c1, c2⟩ := sameK_head hs
  have hg := hx.inv
  have shape : (∀ k n, x' ≠ .int k n) ∧ (∀ s, x' ≠ .string s) ∧ (∀ k n, x' ≠ .float k n) ∧ (∀ k a b, x' ≠ .complex k a b) ∧ (x' = .nilIface → x = .nilIface) ∧ (∀ xs, x' = .agg xs → ∃ ys, x = .agg ys) := by
    unfold Sh at hg
    split at hg <;> first
      | exact absurd rfl (n1 _ _)
      | exact absurd rfl (n2 _)
      | exact absurd rfl (n3 _ _ _)
      | exact absurd rfl (c1 _)
      | exact hg.elim
      | (subst hg; simp; done)
      | (obtain ⟨_, _, _, _, _, _, rfl, _⟩ := hg; simp; done)
      | (obtain ⟨_, _, rfl⟩ := hg; simp; done)
      | (rcases hg with ⟨_, _, _, _, rfl, _⟩ | ⟨_, _, _, _, rfl, _⟩ <;> simp; done)
      | (obtain ⟨_, _, rfl, _⟩ := hg; simp; done)
      | (obtain ⟨_, rfl, _⟩ := hg; simp; done)
  obtain ⟨s1, s2, s3, s4, s5, s6⟩ := shape
  obtain ⟨g1, g2⟩ := binOp_eq s1 s2 s3 s4 h1
  refine ⟨b, h2, eqGuard_run (fun e e' => hl (s5 e) e') (fun xs ys e _ => ?_), g1, g2⟩
  obtain ⟨zs, hz⟩ := s6 xs e
  obtain ⟨i, h3, h4⟩ := c2 zs hz
  exact ((hB.ok t i h3).eqs h4).1

/-- A symbol held against another value. -/
theorem symOpK_spec {op : BinOp} {k : FloatKind} {t r m : Nat} {x' y y' : Value} {K : Value → Prop} (hx : VR φ (.complex k r m) x') (hy : VR φ y y') (hk : symOpK k op r m y K) :
    ∃ v, (binOp op t x' y').run P w = .ok v w ∧ VR φ v v ∧ K v ∧ ((∃ n, x' = .int .i64 n) ∨ ∃ s, x' = .string s) := by
  unfold symOpK at hk
  split at hk
  · exact hk.elim
  · split at hk
    · split at hk
      · rename_i hm
        obtain ⟨c, g1, rfl, rfl, g4⟩ := symSame_spec hx hy hk
        rcases symV_or g1 (Nat.le_of_ble_eq_true hm) with ⟨n, e⟩ | ⟨s, e⟩ <;> rw [e]
        · obtain ⟨v, q1, q2, q3⟩ := intOpK_spec (P := P) (w := w) (φ := φ) (t := t) (op := .eql) (k := .i64) (a := n) (b := n) (K := K) (by simp only [intOpK, fB_eq, intEq_eq]; simpa using g4)
          exact ⟨v, q1, q2, q3, .inl ⟨n, rfl⟩⟩
        · obtain ⟨v, q1, q2, q3⟩ := strOpK_spec (P := P) (w := w) (φ := φ) (t := t) (op := .eql) (a := s) (b := s) (K := K) (by simp only [strOpK, bytesEqK_eq]; simpa using g4)
          exact ⟨v, q1, q2, q3, .inr ⟨s, rfl⟩⟩
      · exact hk.elim
    · split at hk
      · rename_i hm
        obtain ⟨c, g1, rfl, rfl, g4⟩ := symSame_spec hx hy hk
        rcases symV_or g1 (Nat.le_of_ble_eq_true hm) with ⟨n, e⟩ | ⟨s, e⟩ <;> rw [e]
        · obtain ⟨v, q1, q2, q3⟩ := intOpK_spec (P := P) (w := w) (φ := φ) (t := t) (op := .neq) (k := .i64) (a := n) (b := n) (K := K) (by simp only [intOpK, fB_eq, intEq_eq, notB_eq]; simpa using g4)
          exact ⟨v, q1, q2, q3, .inl ⟨n, rfl⟩⟩
        · obtain ⟨v, q1, q2, q3⟩ := strOpK_spec (P := P) (w := w) (φ := φ) (t := t) (op := .neq) (a := s) (b := s) (K := K) (by simp only [strOpK, bytesEqK_eq, fB_eq, notB_eq]; simpa using g4)
          exact ⟨v, q1, q2, q3, .inr ⟨s, rfl⟩⟩
      · exact hk.elim
    · unfold lenBelow at hk
      split at hk
      · split at hk
        · rename_i a
          split at hk
          · rename_i hm
            have := Nat.eq_of_beq_eq_true hm
            subst this
            split at hk
            · rename_i hb
              have hle := Nat.le_of_ble_eq_true hb
              obtain ⟨s, h1, h2, rfl⟩ := hx.inv
              have e2 : y' = .int .i64 (.ofNat a) := hy.inv
              subst e2
              have hlt : ¬ ((s.b : Int) < (a : Int)) := by have : LONG ≤ s.b := h2.1; omega
              obtain ⟨v, q1, q2, q3⟩ := intOpK_spec (P := P) (w := w) (φ := φ) (t := t) (op := .lss) (k := .i64) (a := (s.b : Int)) (b := (a : Int)) (K := K) (by simp only [intOpK, fB_eq, intLt_eq]; simpa [hlt] using hk)
              exact ⟨v, q1, q2, q3, .inl ⟨_, rfl⟩⟩
            · exact hk.elim
          · exact hk.elim
        · exact hk.elim
      · exact hk.elim
theorem belowLen_spec {op : BinOp} {k : IntKind} {a : Int} {t r m : Nat} {y' : Value} {K : Value → Prop} (hy : VR φ (.complex .f32 r m) y') (hk : belowLen op k a m K) :
    ∃ v, (binOp op t (.int k a) y').run P w = .ok v w ∧ VR φ v v ∧ K v := by
  unfold belowLen at hk
  split at hk
  · split at hk
    · split at hk
      · rename_i a
        split at hk
        · rename_i hm
          have := Nat.eq_of_beq_eq_true hm
          subst this
          split at hk
          · exact hk.elim
          · rename_i hb
            obtain ⟨s, h1, h2, rfl⟩ := hy.inv
            have hlt : a < LONG := by
              rcases Nat.lt_or_ge a LONG with g | g
              · exact g
              · rw [Nat.ble_eq_true_of_le g] at hb; cases hb
            have hlt' : ((a : Int) < (s.b : Int)) := by have : LONG ≤ s.b := h2.1; omega
            exact intOpK_spec (P := P) (w := w) (φ := φ) (t := t) (op := .lss) (k := .i64) (a := (a : Int)) (b := (s.b : Int)) (K := K) (by simp only [intOpK, fB_eq, intLt_eq]; simpa [hlt'] using hk)
        · exact hk.elim
      · exact hk.elim
    · exact hk.elim
  · exact hk.elim

theorem binOpK_spec {ox oy : Operand} {op : BinOp} {t : Nat} {x x' y y' : Value} (hB : TOK P B) (hw : WR B φ h w) (hx : VR φ x x') (hy : VR φ y y') (hk : binOpK B (lits ox oy) op t x y fun v => K v h) :
    DoneR B φ h w ((do eqGuard op t ox oy x' y'; binOp op t x' y' : Sem Value).run P w) K := by
  unfold binOpK at hk
  split at hk
  · obtain ⟨v, h1, h2, h3, h4⟩ := symOpK_spec (P := P) (w := w) (t := t) hx hy hk
    have hg : (eqGuard op t ox oy x' y').run P w = .ok () w := eqGuard_run (fun e => by rcases h4 with ⟨n, h4⟩ | ⟨n, h4⟩ <;> rw [h4] at e <;> cases e) (fun _ _ e => by rcases h4 with ⟨n, h4⟩ | ⟨n, h4⟩ <;> rw [h4] at e <;> cases e)
    simp only [Sem.run_bind, hg, Result.andThen_ok, h1]
    exact .same hw h2 h3
  · split at hk
    · rename_i k a _ r m
      have e1 : x' = .int k a := hx.inv
      subst e1
      obtain ⟨v, h1, h2, h3⟩ := belowLen_spec (P := P) (w := w) (t := t) hy hk
      have hg : (eqGuard op t ox oy (.int k a) y').run P w = .ok () w := eqGuard_run (fun e => by cases e) (fun _ _ e => by cases e)
      simp only [Sem.run_bind, hg, Result.andThen_ok, h1]
      exact .same hw h2 h3
    · rename_i k a _ k' b
      have e1 : x' = .int k a := hx.inv
      have e2 : y' = .int k' b := hy.inv
      subst e1 e2
      split at hk
      · obtain ⟨v, h1, h2, h3⟩ := shiftK_spec (l := true) (P := P) (w := w) (φ := φ) (t := t) (k' := k') hk
        have hg : (eqGuard .shl t ox oy (.int k a) (.int k' b)).run P w = .ok () w := eqGuard_run (fun e => by cases e) (fun _ _ e => by cases e)
        simp only at h1
        simp only [Sem.run_bind, hg, Result.andThen_ok, h1]
        exact .same hw h2 h3
      · obtain ⟨v, h1, h2, h3⟩ := shiftK_spec (l := false) (P := P) (w := w) (φ := φ) (t := t) (k' := k') hk
        have hg : (eqGuard .shr t ox oy (.int k a) (.int k' b)).run P w = .ok () w := eqGuard_run (fun e => by cases e) (fun _ _ e => by cases e)
        simp only at h1
        simp only [Sem.run_bind, hg, Result.andThen_ok, h1]
        exact .same hw h2 h3
      split at hk
      · rename_i hb
        have := ikN_inj hb
        subst this
        obtain ⟨v, h1, h2, h3⟩ := intOpK_spec (P := P) (w := w) (φ := φ) (t := t) hk
        have hg : (eqGuard op t ox oy (.int k' a) (.int k' b)).run P w = .ok () w := eqGuard_run (fun e => by cases e) (fun _ _ e => by cases e)
        simp only [Sem.run_bind, hg, Result.andThen_ok, h1]
        exact .same hw h2 h3
      · exact hk.elim
    · exact hk.elim
  · split at hk
    · rename_i a _ b
      have e1 : x' = .string a := hx.inv
      have e2 : y' = .string b := hy.inv
      subst e1 e2
      obtain ⟨v, h1, h2, h3⟩ := strOpK_spec (P := P) (w := w) (φ := φ) (t := t) hk
      have hg : (eqGuard op t ox oy (.string a) (.string b)).run P w = .ok () w := eqGuard_run (fun e => by cases e) (fun _ _ e => by cases e)
      simp only [Sem.run_bind, hg, Result.andThen_ok, h1]
      exact .same hw h2 h3
    · exact hk.elim
  · rename_i n3 n1 n2
    split at hk
    · obtain ⟨b, h1, h2, h3, _⟩ := eqK_spec (P := P) (w := w) (op := .eql) hB hx hy (fun k n e => n1 k n e) (fun s e => n2 s e) (fun k a b e => n3 k a b e) hk
      simp only [Sem.run_bind, h2, Result.andThen_ok, h3]
      exact .same hw bool_vr h1
    · obtain ⟨b, h1, h2, _, h3⟩ := eqK_spec (P := P) (w := w) (op := .neq) hB hx hy (fun k n e => n1 k n e) (fun s e => n2 s e) (fun k a b e => n3 k a b e) hk
      rw [fB_eq, notB_eq] at h1
      simp only [Sem.run_bind, h2, Result.andThen_ok, h3]
      exact .same hw bool_vr h1
    · exact hk.elim

theorem oUn_spec {op : UnOp} {x x' : Value} (hw : WR B φ h w) (hx : VR φ x x') (hk : oUn op x h K) : DoneR B φ h w ((Op.unary op x').run P w) K := by
  unfold oUn at hk
  split at hk
  · split at hk
    · rename_i b
      have e1 : x' = .bool b := hx.inv
      subst e1
      rw [fB_eq, notB_eq] at hk
      exact .same hw bool_vr hk
    · exact hk.elim
  · split at hk
    · rename_i k n
      have e1 : x' = .int k n := hx.inv
      subst e1
      obtain ⟨h1, h2⟩ := fitK_spec hk
      have h1' : k.wrap (0 - n) = 0 - n := h1
      simp only [Op.unary, Op.intArith, h1', Sem.run_pure]
      exact .same hw int_vr h2
    · exact hk.elim
  · exact hk.elim

theorem oPick_spec {c c' a a' b b' : Value} (hw : WR B φ h w) (hc : VR φ c c') (ha : VR φ a a') (hb : VR φ b b') (hk : oPick c a b h K) :
    ∃ t, (asBool c').run P w = .ok t w ∧ DoneR B φ h w (.ok (if t then a' else b') w) K := by
  unfold oPick at hk
  split at hk
  · have e : c' = .bool true := hc.inv
    subst e
    exact ⟨true, rfl, .same hw ha hk⟩
  · have e : c' = .bool false := hc.inv
    subst e
    exact ⟨false, rfl, .same hw hb hk⟩
  · exact hk.elim
end

end Rn
end Go.Proofs.YtldmpcnpgjnddaaGreatDoor
