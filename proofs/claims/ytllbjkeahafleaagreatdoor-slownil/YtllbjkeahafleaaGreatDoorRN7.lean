/-
  What the runner's operations say of the machine's: operations on two values, conversions, structs and rows that are built, slices.
-/
import Derived.Test.YtllbjkeahafleaaGreatDoorRN6
namespace Go.Proofs.YtllbjkeahafleaaGreatDoor
namespace Rn

section
variable {P : Program} {B : Tb} {φ : Fi} {h : Hp} {w : World} {K : KV}

theorem eqGuard_run {op : BinOp} {t : Nat} {x y : Operand} {a b : Value} (h1 : a = .nilIface → b = .nilIface → lits x y = true) (h2 : ∀ xs ys, a = .agg xs → b = .agg ys → P.eqGuardType P.depth t = false) :
    (eqGuard op t x y a b).run P w = .ok () w := by
  by_cases ha : ∃ xs ys, a = .agg xs ∧ b = .agg ys
  · obtain ⟨xs, ys, rfl, rfl⟩ := ha
    exact run_eqGuard_agg w op t x y xs ys (h2 xs ys rfl rfl)
  · by_cases hn : a = .nilIface ∧ b = .nilIface
    · obtain ⟨rfl, rfl⟩ := hn
      have hl := h1 rfl rfl
      unfold lits at hl
      cases op <;> cases x <;> cases y <;> first
        | (simp at hl; done)
        | rfl
    · unfold eqGuard
      cases op <;> cases a <;> cases b <;> first
        | rfl
        | exact absurd ⟨rfl, rfl⟩ hn
        | exact absurd ⟨_, _, rfl, rfl⟩ ha

/-- Values that are held against one another are no numbers and no texts. -/
theorem binOp_eq {t : Nat} {x y : Value} {b : Bool} (h1 : ∀ k n, x ≠ .int k n) (h2 : ∀ s, x ≠ .string s) (h3 : ∀ k n, x ≠ .float k n) (h4 : ∀ k a b, x ≠ .complex k a b) (hq : (Op.equalIn 10000 t x y).run P w = .ok b w) :
    (binOp .eql t x y).run P w = .ok (.bool b) w ∧ (binOp .neq t x y).run P w = .ok (.bool (!b)) w := by
  have e1 : binOp .eql t x y = (do pure (.bool (← Op.equal t x y))) := by
    cases x <;> first | rfl | exact absurd rfl (h1 _ _) | exact absurd rfl (h2 _) | exact absurd rfl (h3 _ _) | exact absurd rfl (h4 _ _ _)
  have e2 : binOp .neq t x y = (do pure (.bool (!(← Op.equal t x y)))) := by
    cases x <;> first | rfl | exact absurd rfl (h1 _ _) | exact absurd rfl (h2 _) | exact absurd rfl (h3 _ _) | exact absurd rfl (h4 _ _ _)
  have hq' : (Op.equal t x y).run P w = .ok b w := hq
  exact ⟨by rw [e1]; simp only [Sem.run_bind, hq', Result.andThen_ok, Sem.run_pure], by rw [e2]; simp only [Sem.run_bind, hq', Result.andThen_ok, Sem.run_pure]⟩

theorem sameK_head {f t : Nat} {x y : Value} {K : Bool → Prop} (hk : sameK B (f + 1) t x y K) : (∀ c, x ≠ .chan c) ∧ (∀ xs, x = .agg xs → ∃ i, tget W B t = some i ∧ i.eq = true) := by
  unfold sameK at hk
  obtain ⟨i, h1, h2⟩ := tyK_spec hk
  constructor
  · rintro c rfl
    simp only at h2
    split at h2 <;> first
      | exact h2
      | (split at h2 <;> exact h2)
  · rintro xs rfl
    refine ⟨i, h1, ?_⟩
    simp only at h2
    split at h2 <;> first
      | exact h2.elim
      | (split at h2 <;> first | assumption | exact h2.elim)

theorem eqK_spec {ox oy : Operand} {op : BinOp} {t : Nat} {x x' y y' : Value} {K : Bool → Prop} (hB : TOK P B) (hx : VR φ x x') (hy : VR φ y y')
    (n1 : ∀ k n, x ≠ .int k n) (n2 : ∀ s, x ≠ .string s) (n3 : ∀ k a b, x ≠ .complex k a b) (n4 : ∀ k a, x ≠ .float k a) (hk : eqK B (lits ox oy) t x y K) :
    ∃ b, K b ∧ (eqGuard op t ox oy x' y').run P w = .ok () w ∧ (binOp .eql t x' y').run P w = .ok (.bool b) w ∧ (binOp .neq t x' y').run P w = .ok (.bool (!b)) w := by
  have key : sameK B 20 t x y K ∧ (x = .nilIface → y' = .nilIface → lits ox oy = true) := by
    unfold eqK at hk
    split at hk
    · split at hk
      · rename_i hl; exact ⟨hk, fun _ _ => hl⟩
      · split at hk
        · refine ⟨hk, fun _ e => ?_⟩
          subst e
          obtain ⟨_, e, _⟩ := hy.inv
          cases e
        · exact hk.elim
    · rename_i hn
      exact ⟨hk, fun e => absurd e hn⟩
  obtain ⟨hs, hl⟩ := key
  obtain ⟨b, h1, h2⟩ := sameK_spec (P := P) (w := w) hB 20 10000 t x x' y y' K (by omega) hx hy hs
  obtain ⟨c1, c2⟩ := sameK_head hs
  have hg := hx.inv
  have shape : (∀ k n, x' ≠ .int k n) ∧ (∀ s, x' ≠ .string s) ∧ (∀ k n, x' ≠ .float k n) ∧ (∀ k a b, x' ≠ .complex k a b) ∧ (x' = .nilIface → x = .nilIface) ∧ (∀ xs, x' = .agg xs → ∃ ys, x = .agg ys) := by
    unfold Sh at hg
    split at hg <;> first
      | exact absurd rfl (n1 _ _)
      | exact absurd rfl (n2 _)
      | exact absurd rfl (n3 _ _ _)
      | exact absurd rfl (n4 _ _)
      | exact absurd rfl (c1 _)
      | exact hg.elim
      | (subst hg; simp; done)
      | (obtain ⟨_, _, _, _, _, _, rfl, _⟩ := hg; simp; done)
      | (obtain ⟨_, _, rfl⟩ := hg; simp; done)
      | (rcases hg with ⟨_, _, _, _, rfl, _⟩ | ⟨_, _, _, _, rfl, _⟩ <;> simp; done)
      | (obtain ⟨_, _, rfl, _⟩ := hg; simp; done)
      | (obtain ⟨_, rfl, _⟩ := hg; simp; done)
  obtain ⟨s1, s2, s3, s4, s5, s6⟩ := shape
  obtain ⟨g1, g2⟩ := binOp_eq s1 s2 s3 s4 h1
  refine ⟨b, h2, eqGuard_run (fun e e' => hl (s5 e) e') (fun xs ys e _ => ?_), g1, g2⟩
  obtain ⟨zs, hz⟩ := s6 xs e
  obtain ⟨i, h3, h4⟩ := c2 zs hz
  exact ((hB.ok t i h3).eqs h4).1

theorem wrap_congr {x y : Int} (h : x % 18446744073709551616 = y % 18446744073709551616) : IntKind.i64.wrap x = IntKind.i64.wrap y := by
  unfold IntKind.wrap
  rw [show ((2 : Int) ^ IntKind.i64.bits) = 18446744073709551616 from rfl, h]
theorem wrap_mod (x : Int) : IntKind.i64.wrap x % 18446744073709551616 = x % 18446744073709551616 := by
  unfold IntKind.wrap
  rw [show ((2 : Int) ^ IntKind.i64.bits) = 18446744073709551616 from rfl]
  simp only []
  split <;> omega
theorem toW_mod (n : Int) : ((toW n : Nat) : Int) % 18446744073709551616 = n % 18446744073709551616 := by
  cases n with
  | ofNat n =>
    show (((n % 18446744073709551616 : Nat)) : Int) % 18446744073709551616 = ((n : Nat) : Int) % 18446744073709551616
    omega
  | negSucc n =>
    show (((18446744073709551616 - 1 - n % 18446744073709551616 : Nat)) : Int) % 18446744073709551616 = Int.negSucc n % 18446744073709551616
    omega
theorem toW_lt (n : Int) : toW n < 18446744073709551616 := by
  cases n with
  | ofNat n =>
    show n % 18446744073709551616 < 18446744073709551616
    omega
  | negSucc n =>
    show 18446744073709551616 - 1 - n % 18446744073709551616 < 18446744073709551616
    omega
/-- What is kept of a number that hangs on another one. -/
theorem linV_congr {a b a' b' c : Nat} {z : Int} (h : ((a : Int) * ((c : Int) - 9223372036854775808) + (b : Int)) % 18446744073709551616 = z % 18446744073709551616)
    (ha : (a' : Int) % 18446744073709551616 = (a : Int) % 18446744073709551616) (hb : (b' : Int) % 18446744073709551616 = (b : Int) % 18446744073709551616) : linV a' b' c = IntKind.i64.wrap z := by
  refine wrap_congr (Eq.trans ?_ h)
  rw [Int.add_emod, Int.mul_emod, ha, hb, ← Int.mul_emod, ← Int.add_emod]
theorem linV_one {c : Nat} (hc : c < 18446744073709551616) : linV 1 0 c = (c : Int) - 9223372036854775808 := by
  unfold linV IntKind.wrap
  rw [show ((2 : Int) ^ IntKind.i64.bits) = 18446744073709551616 from rfl, show ((2 : Int) ^ (IntKind.i64.bits - 1)) = 9223372036854775808 from rfl, show IntKind.i64.signed = true from rfl]
  simp only [Bool.true_and, decide_eq_true_eq]
  split <;> omega
theorem linK_spec {r a b c : Nat} {s : Sl} {z : Int} {K : Value → Prop} (hs : φ r = some s) (hb : s.b = c) (hc : c < 18446744073709551616) (hz : ((a : Int) * ((c : Int) - 9223372036854775808) + (b : Int)) % 18446744073709551616 = z % 18446744073709551616) (hk : linK r a b K) :
    ∃ v, VR φ v (.int .i64 (IntKind.i64.wrap z)) ∧ K v := by
  unfold linK at hk
  rw [fN_eq] at hk
  have e1 : lR ((r * 18446744073709551616 + a % 18446744073709551616) * 18446744073709551616 + b % 18446744073709551616) = r := by
    show ((r * 18446744073709551616 + a % 18446744073709551616) * 18446744073709551616 + b % 18446744073709551616) / 18446744073709551616 / 18446744073709551616 = r
    omega
  have e2 : lA ((r * 18446744073709551616 + a % 18446744073709551616) * 18446744073709551616 + b % 18446744073709551616) = a % 18446744073709551616 := by
    show ((r * 18446744073709551616 + a % 18446744073709551616) * 18446744073709551616 + b % 18446744073709551616) / 18446744073709551616 % 18446744073709551616 = a % 18446744073709551616
    omega
  have e3 : lB ((r * 18446744073709551616 + a % 18446744073709551616) * 18446744073709551616 + b % 18446744073709551616) = b % 18446744073709551616 := by
    show ((r * 18446744073709551616 + a % 18446744073709551616) * 18446744073709551616 + b % 18446744073709551616) % 18446744073709551616 = b % 18446744073709551616
    omega
  refine ⟨_, VR.mk (v := .float .f32 _) ⟨s, ?_, by rw [hb]; exact hc, ?_⟩, hk⟩
  · show φ (lR ((r * 18446744073709551616 + a % 18446744073709551616) * 18446744073709551616 + b % 18446744073709551616)) = some s
    rw [e1]
    exact hs
  · show Value.int .i64 (IntKind.i64.wrap z) = .int .i64 (linV (lA ((r * 18446744073709551616 + a % 18446744073709551616) * 18446744073709551616 + b % 18446744073709551616)) (lB ((r * 18446744073709551616 + a % 18446744073709551616) * 18446744073709551616 + b % 18446744073709551616)) s.b)
    rw [e2, e3, hb, linV_congr hz (by omega) (by omega)]
theorem mul_same {x y n m : Int} (h1 : x % 18446744073709551616 = y % 18446744073709551616) (h2 : n % 18446744073709551616 = m % 18446744073709551616) : (x * n) % 18446744073709551616 = (y * m) % 18446744073709551616 := by
  rw [Int.mul_emod, h1, h2, ← Int.mul_emod]
theorem linL_spec {op : BinOp} {t r a b : Nat} {n : Int} {s : Sl} {K : Value → Prop} (hs : φ r = some s) (hc : s.b < 18446744073709551616) (hk : linL op r a b n K) :
    ∃ v v', (binOp op t (.int .i64 (linV a b s.b)) (.int .i64 n)).run P w = .ok v' w ∧ VR φ v v' ∧ K v := by
  have hm := wrap_mod ((a : Int) * ((s.b : Int) - 9223372036854775808) + (b : Int))
  have hn := toW_mod n
  have hlt := toW_lt n
  unfold linL at hk
  split at hk
  · obtain ⟨v, h1, h2⟩ := linK_spec (z := linV a b s.b + n) hs rfl hc (by
      unfold linV
      show ((a : Int) * ((s.b : Int) - 9223372036854775808) + ((b + toW n : Nat) : Int)) % 18446744073709551616 = _
      generalize (a : Int) * ((s.b : Int) - 9223372036854775808) = q at hm ⊢
      omega) hk
    exact ⟨v, _, rfl, h1, h2⟩
  · obtain ⟨v, h1, h2⟩ := linK_spec (z := linV a b s.b - n) hs rfl hc (by
      unfold linV
      show ((a : Int) * ((s.b : Int) - 9223372036854775808) + ((b + (18446744073709551616 - toW n) : Nat) : Int)) % 18446744073709551616 = _
      generalize (a : Int) * ((s.b : Int) - 9223372036854775808) = q at hm ⊢
      omega) hk
    exact ⟨v, _, rfl, h1, h2⟩
  · obtain ⟨v, h1, h2⟩ := linK_spec (z := linV a b s.b * n) hs rfl hc (by
      unfold linV
      refine Eq.trans ?_ (mul_same hm.symm hn)
      show (((a * toW n : Nat) : Int) * ((s.b : Int) - 9223372036854775808) + ((b * toW n : Nat) : Int)) % 18446744073709551616 = _
      rw [Int.natCast_mul, Int.natCast_mul, Int.add_mul, Int.mul_right_comm]) hk
    exact ⟨v, _, rfl, h1, h2⟩
  · exact hk.elim
theorem linR_spec {op : BinOp} {t r a b : Nat} {n : Int} {s : Sl} {K : Value → Prop} (hs : φ r = some s) (hc : s.b < 18446744073709551616) (hk : linR op n r a b K) :
    ∃ v v', (binOp op t (.int .i64 n) (.int .i64 (linV a b s.b))).run P w = .ok v' w ∧ VR φ v v' ∧ K v := by
  have hm := wrap_mod ((a : Int) * ((s.b : Int) - 9223372036854775808) + (b : Int))
  have hn := toW_mod n
  have hlt := toW_lt n
  unfold linR at hk
  split at hk
  · obtain ⟨v, h1, h2⟩ := linK_spec (z := n + linV a b s.b) hs rfl hc (by
      unfold linV
      show ((a : Int) * ((s.b : Int) - 9223372036854775808) + ((b + toW n : Nat) : Int)) % 18446744073709551616 = _
      generalize (a : Int) * ((s.b : Int) - 9223372036854775808) = q at hm ⊢
      omega) hk
    exact ⟨v, _, rfl, h1, h2⟩
  · obtain ⟨v, h1, h2⟩ := linK_spec (z := n - linV a b s.b) hs rfl hc (by
      unfold linV
      have e : ((18446744073709551616 - a % 18446744073709551616 : Nat) : Int) * ((s.b : Int) - 9223372036854775808) % 18446744073709551616 = (-(a : Int)) * ((s.b : Int) - 9223372036854775808) % 18446744073709551616 := mul_same (by omega) rfl
      rw [Int.neg_mul] at e
      show (((18446744073709551616 - a % 18446744073709551616 : Nat) : Int) * ((s.b : Int) - 9223372036854775808) + ((toW n + (18446744073709551616 - b % 18446744073709551616) : Nat) : Int)) % 18446744073709551616 = _
      generalize (a : Int) * ((s.b : Int) - 9223372036854775808) = q at hm e ⊢
      generalize ((18446744073709551616 - a % 18446744073709551616 : Nat) : Int) * ((s.b : Int) - 9223372036854775808) = q' at e ⊢
      omega) hk
    exact ⟨v, _, rfl, h1, h2⟩
  · obtain ⟨v, h1, h2⟩ := linK_spec (z := n * linV a b s.b) hs rfl hc (by
      unfold linV
      rw [Int.mul_comm n]
      refine Eq.trans ?_ (mul_same hm.symm hn)
      show (((a * toW n : Nat) : Int) * ((s.b : Int) - 9223372036854775808) + ((b * toW n : Nat) : Int)) % 18446744073709551616 = _
      rw [Int.natCast_mul, Int.natCast_mul, Int.add_mul, Int.mul_right_comm]) hk
    exact ⟨v, _, rfl, h1, h2⟩
  · exact hk.elim
theorem symLin_spec {op : BinOp} {t r m : Nat} {x' y y' : Value} {K : Value → Prop} (hx : VR φ (.complex .f32 r m) x') (hy : VR φ y y') (hk : symLin op r m y K) :
    ∃ v v', (binOp op t x' y').run P w = .ok v' w ∧ VR φ v v' ∧ K v ∧ ∃ n, x' = .int .i64 n := by
  unfold symLin at hk
  split at hk
  · split at hk
    · rename_i b
      obtain ⟨s, h1, h2, rfl⟩ := hx.inv
      have e2 : y' = .int .i64 b := hy.inv
      subst e2
      have h2' : s.b < 18446744073709551616 := h2
      obtain ⟨v, v', q1, q2, q3⟩ := linL_spec (P := P) (w := w) (t := t) h1 h2' hk
      rw [linV_one h2'] at q1
      exact ⟨v, v', q1, q2, q3, _, rfl⟩
    · exact hk.elim
  · exact hk.elim
theorem linOpK_spec {op : BinOp} {t n : Nat} {x' y y' : Value} {K : Value → Prop} (hx : VR φ (.float .f32 n) x') (hy : VR φ y y') (hk : linOpK op n y K) :
    ∃ v v', (binOp op t x' y').run P w = .ok v' w ∧ VR φ v v' ∧ K v ∧ ∃ n, x' = .int .i64 n := by
  unfold linOpK at hk
  split at hk
  · obtain ⟨z, rfl, rfl, g4⟩ := linSame_spec hx hy hk
    obtain ⟨v, q1, q2, q3⟩ := intOpK_spec (P := P) (w := w) (φ := φ) (t := t) (op := .eql) (k := .i64) (a := z) (b := z) (K := K) (by simp only [intOpK, fB_eq, intEq_eq]; simpa using g4)
    exact ⟨v, v, q1, q2, q3, _, rfl⟩
  · obtain ⟨z, rfl, rfl, g4⟩ := linSame_spec hx hy hk
    obtain ⟨v, q1, q2, q3⟩ := intOpK_spec (P := P) (w := w) (φ := φ) (t := t) (op := .neq) (k := .i64) (a := z) (b := z) (K := K) (by simp only [intOpK, fB_eq, intEq_eq, notB_eq]; simpa using g4)
    exact ⟨v, v, q1, q2, q3, _, rfl⟩
  · split at hk
    · rename_i b
      obtain ⟨s, h1, h2, rfl⟩ := hx.inv
      have e2 : y' = .int .i64 b := hy.inv
      subst e2
      obtain ⟨v, v', q1, q2, q3⟩ := linL_spec (P := P) (w := w) (t := t) h1 h2 hk
      exact ⟨v, v', q1, q2, q3, _, rfl⟩
    · exact hk.elim
/-- A symbol held against another value. -/
theorem symOpK_spec {op : BinOp} {k : FloatKind} {t r m : Nat} {x' y y' : Value} {K : Value → Prop} (hx : VR φ (.complex k r m) x') (hy : VR φ y y') (hk : symOpK k op r m y K) :
    ∃ v v', (binOp op t x' y').run P w = .ok v' w ∧ VR φ v v' ∧ K v ∧ ((∃ n, x' = .int .i64 n) ∨ ∃ s, x' = .string s) := by
  unfold symOpK at hk
  split at hk
  · exact hk.elim
  · split at hk
    · split at hk
      · rename_i hm
        obtain ⟨c, g1, rfl, rfl, g4⟩ := symSame_spec hx hy hk
        rcases symV_or g1 (Nat.le_of_ble_eq_true hm) with ⟨n, e⟩ | ⟨s, e⟩ <;> rw [e]
        · obtain ⟨v, q1, q2, q3⟩ := intOpK_spec (P := P) (w := w) (φ := φ) (t := t) (op := .eql) (k := .i64) (a := n) (b := n) (K := K) (by simp only [intOpK, fB_eq, intEq_eq]; simpa using g4)
          exact ⟨v, v, q1, q2, q3, .inl ⟨n, rfl⟩⟩
        · obtain ⟨v, q1, q2, q3⟩ := strOpK_spec (P := P) (w := w) (φ := φ) (t := t) (op := .eql) (a := s) (b := s) (K := K) (by simp only [strOpK, bytesEqK_eq]; simpa using g4)
          exact ⟨v, v, q1, q2, q3, .inr ⟨s, rfl⟩⟩
      · exact hk.elim
    · split at hk
      · rename_i hm
        obtain ⟨c, g1, rfl, rfl, g4⟩ := symSame_spec hx hy hk
        rcases symV_or g1 (Nat.le_of_ble_eq_true hm) with ⟨n, e⟩ | ⟨s, e⟩ <;> rw [e]
        · obtain ⟨v, q1, q2, q3⟩ := intOpK_spec (P := P) (w := w) (φ := φ) (t := t) (op := .neq) (k := .i64) (a := n) (b := n) (K := K) (by simp only [intOpK, fB_eq, intEq_eq, notB_eq]; simpa using g4)
          exact ⟨v, v, q1, q2, q3, .inl ⟨n, rfl⟩⟩
        · obtain ⟨v, q1, q2, q3⟩ := strOpK_spec (P := P) (w := w) (φ := φ) (t := t) (op := .neq) (a := s) (b := s) (K := K) (by simp only [strOpK, bytesEqK_eq, fB_eq, notB_eq]; simpa using g4)
          exact ⟨v, v, q1, q2, q3, .inr ⟨s, rfl⟩⟩
      · exact hk.elim
    · obtain ⟨v, v', q1, q2, q3, q4⟩ := symLin_spec (P := P) (w := w) (t := t) hx hy hk
      exact ⟨v, v', q1, q2, q3, .inl q4⟩
    · obtain ⟨v, v', q1, q2, q3, q4⟩ := symLin_spec (P := P) (w := w) (t := t) hx hy hk
      exact ⟨v, v', q1, q2, q3, .inl q4⟩
    · obtain ⟨v, v', q1, q2, q3, q4⟩ := symLin_spec (P := P) (w := w) (t := t) hx hy hk
      exact ⟨v, v', q1, q2, q3, .inl q4⟩
    · unfold lenBelow at hk
      split at hk
      · split at hk
        · rename_i a
          split at hk
          · rename_i hm
            have := Nat.eq_of_beq_eq_true hm
            subst this
            split at hk
            · rename_i hb
              have hle := Nat.le_of_ble_eq_true hb
              obtain ⟨s, h1, h2, rfl⟩ := hx.inv
              have e2 : y' = .int .i64 (.ofNat a) := hy.inv
              subst e2
              have hlt : ¬ ((s.b : Int) < (a : Int)) := by have : LONG ≤ s.b := h2.1; omega
              obtain ⟨v, q1, q2, q3⟩ := intOpK_spec (P := P) (w := w) (φ := φ) (t := t) (op := .lss) (k := .i64) (a := (s.b : Int)) (b := (a : Int)) (K := K) (by simp only [intOpK, fB_eq, intLt_eq]; simpa [hlt] using hk)
              exact ⟨v, v, q1, q2, q3, .inl ⟨_, rfl⟩⟩
            · exact hk.elim
          · exact hk.elim
        · exact hk.elim
      · exact hk.elim
theorem belowLen_spec {op : BinOp} {k : IntKind} {a : Int} {t r m : Nat} {y' : Value} {K : Value → Prop} (hy : VR φ (.complex .f32 r m) y') (hk : belowLen op k a m K) :
    ∃ v, (binOp op t (.int k a) y').run P w = .ok v w ∧ VR φ v v ∧ K v := by
  unfold belowLen at hk
  split at hk
  · split at hk
    · split at hk
      · rename_i a
        split at hk
        · rename_i hm
          have := Nat.eq_of_beq_eq_true hm
          subst this
          split at hk
          · exact hk.elim
          · rename_i hb
            obtain ⟨s, h1, h2, rfl⟩ := hy.inv
            have hlt : a < LONG := by
              rcases Nat.lt_or_ge a LONG with g | g
              · exact g
              · rw [Nat.ble_eq_true_of_le g] at hb; cases hb
            have hlt' : ((a : Int) < (s.b : Int)) := by have : LONG ≤ s.b := h2.1; omega
            exact intOpK_spec (P := P) (w := w) (φ := φ) (t := t) (op := .lss) (k := .i64) (a := (a : Int)) (b := (s.b : Int)) (K := K) (by simp only [intOpK, fB_eq, intLt_eq]; simpa [hlt'] using hk)
        · exact hk.elim
      · exact hk.elim
    · exact hk.elim
  · exact hk.elim

theorem knownSym_spec {op : BinOp} {k : IntKind} {a : Int} {t r m : Nat} {y' : Value} {K : Value → Prop} (hy : VR φ (.complex .f32 r m) y') (hk : knownSym op k a r m K) :
    ∃ v v', (binOp op t (.int k a) y').run P w = .ok v' w ∧ VR φ v v' ∧ K v := by
  unfold knownSym at hk
  split at hk
  · obtain ⟨v, h1, h2, h3⟩ := belowLen_spec (P := P) (w := w) (t := t) hy hk
    exact ⟨v, v, h1, h2, h3⟩
  · split at hk
    · rename_i hi
      split at hk
      · obtain ⟨s, h1, h2, rfl⟩ := hy.inv
        have h2' : s.b < 18446744073709551616 := h2
        obtain ⟨v, v', q1, q2, q3⟩ := linR_spec (P := P) (w := w) (t := t) h1 h2' hk
        rw [linV_one h2'] at q1
        obtain rfl : k = .i64 := by cases k <;> first | rfl | cases hi
        exact ⟨v, v', q1, q2, q3⟩
      · exact hk.elim
    · exact hk.elim
theorem knownLin_spec {op : BinOp} {k : IntKind} {f : FloatKind} {a : Int} {t n : Nat} {y' : Value} {K : Value → Prop} (hy : VR φ (.float f n) y') (hk : knownLin op k a f n K) :
    ∃ v v', (binOp op t (.int k a) y').run P w = .ok v' w ∧ VR φ v v' ∧ K v := by
  unfold knownLin at hk
  split at hk
  · rename_i hf
    split at hk
    · rename_i hi
      obtain rfl : f = .f32 := by cases f <;> first | rfl | cases hf
      obtain rfl : k = .i64 := by cases k <;> first | rfl | cases hi
      obtain ⟨s, h1, h2, rfl⟩ := hy.inv
      obtain ⟨v, v', q1, q2, q3⟩ := linR_spec (P := P) (w := w) (t := t) h1 h2 hk
      exact ⟨v, v', q1, q2, q3⟩
    · exact hk.elim
  · exact hk.elim
theorem binOpK_spec {ox oy : Operand} {op : BinOp} {t : Nat} {x x' y y' : Value} (hB : TOK P B) (hw : WR B φ h w) (hx : VR φ x x') (hy : VR φ y y') (hk : binOpK B (lits ox oy) op t x y fun v => K v h) :
    DoneR B φ h w ((do eqGuard op t ox oy x' y'; binOp op t x' y' : Sem Value).run P w) K := by
  unfold binOpK at hk
  split at hk
  · obtain ⟨v, v', h1, h2, h3, h4⟩ := symOpK_spec (P := P) (w := w) (t := t) hx hy hk
    have hg : (eqGuard op t ox oy x' y').run P w = .ok () w := eqGuard_run (fun e => by rcases h4 with ⟨n, h4⟩ | ⟨n, h4⟩ <;> rw [h4] at e <;> cases e) (fun _ _ e => by rcases h4 with ⟨n, h4⟩ | ⟨n, h4⟩ <;> rw [h4] at e <;> cases e)
    simp only [Sem.run_bind, hg, Result.andThen_ok, h1]
    exact .same hw h2 h3
  · rename_i k n
    split at hk
    · rename_i hf
      obtain rfl : k = .f32 := by cases k <;> first | rfl | cases hf
      obtain ⟨v, v', h1, h2, h3, z, rfl⟩ := linOpK_spec (P := P) (w := w) (t := t) hx hy hk
      have hg : (eqGuard op t ox oy (.int .i64 z) y').run P w = .ok () w := eqGuard_run (fun e => by cases e) (fun _ _ e => by cases e)
      simp only [Sem.run_bind, hg, Result.andThen_ok, h1]
      exact .same hw h2 h3
    · exact hk.elim
  · split at hk
    · rename_i k a _ r m
      have e1 : x' = .int k a := hx.inv
      subst e1
      obtain ⟨v, v', h1, h2, h3⟩ := knownSym_spec (P := P) (w := w) (t := t) hy hk
      have hg : (eqGuard op t ox oy (.int k a) y').run P w = .ok () w := eqGuard_run (fun e => by cases e) (fun _ _ e => by cases e)
      simp only [Sem.run_bind, hg, Result.andThen_ok, h1]
      exact .same hw h2 h3
    · rename_i k a _ f n
      have e1 : x' = .int k a := hx.inv
      subst e1
      obtain ⟨v, v', h1, h2, h3⟩ := knownLin_spec (P := P) (w := w) (t := t) hy hk
      have hg : (eqGuard op t ox oy (.int k a) y').run P w = .ok () w := eqGuard_run (fun e => by cases e) (fun _ _ e => by cases e)
      simp only [Sem.run_bind, hg, Result.andThen_ok, h1]
      exact .same hw h2 h3
    · rename_i k a _ k' b
      have e1 : x' = .int k a := hx.inv
      have e2 : y' = .int k' b := hy.inv
      subst e1 e2
      split at hk
      · obtain ⟨v, h1, h2, h3⟩ := shiftK_spec (l := true) (P := P) (w := w) (φ := φ) (t := t) (k' := k') hk
        have hg : (eqGuard .shl t ox oy (.int k a) (.int k' b)).run P w = .ok () w := eqGuard_run (fun e => by cases e) (fun _ _ e => by cases e)
        simp only at h1
        simp only [Sem.run_bind, hg, Result.andThen_ok, h1]
        exact .same hw h2 h3
      · obtain ⟨v, h1, h2, h3⟩ := shiftK_spec (l := false) (P := P) (w := w) (φ := φ) (t := t) (k' := k') hk
        have hg : (eqGuard .shr t ox oy (.int k a) (.int k' b)).run P w = .ok () w := eqGuard_run (fun e => by cases e) (fun _ _ e => by cases e)
        simp only at h1
        simp only [Sem.run_bind, hg, Result.andThen_ok, h1]
        exact .same hw h2 h3
      split at hk
      · rename_i hb
        have := ikN_inj hb
        subst this
        obtain ⟨v, h1, h2, h3⟩ := intOpK_spec (P := P) (w := w) (φ := φ) (t := t) hk
        have hg : (eqGuard op t ox oy (.int k' a) (.int k' b)).run P w = .ok () w := eqGuard_run (fun e => by cases e) (fun _ _ e => by cases e)
        simp only [Sem.run_bind, hg, Result.andThen_ok, h1]
        exact .same hw h2 h3
      · exact hk.elim
    · exact hk.elim
  · split at hk
    · rename_i a _ b
      have e1 : x' = .string a := hx.inv
      have e2 : y' = .string b := hy.inv
      subst e1 e2
      obtain ⟨v, h1, h2, h3⟩ := strOpK_spec (P := P) (w := w) (φ := φ) (t := t) hk
      have hg : (eqGuard op t ox oy (.string a) (.string b)).run P w = .ok () w := eqGuard_run (fun e => by cases e) (fun _ _ e => by cases e)
      simp only [Sem.run_bind, hg, Result.andThen_ok, h1]
      exact .same hw h2 h3
    · exact hk.elim
  · rename_i n3 n4 n1 n2
    split at hk
    · obtain ⟨b, h1, h2, h3, _⟩ := eqK_spec (P := P) (w := w) (op := .eql) hB hx hy (fun k n e => n1 k n e) (fun s e => n2 s e) (fun k a b e => n3 k a b e) (fun k a e => n4 k a e) hk
      simp only [Sem.run_bind, h2, Result.andThen_ok, h3]
      exact .same hw bool_vr h1
    · obtain ⟨b, h1, h2, _, h3⟩ := eqK_spec (P := P) (w := w) (op := .neq) hB hx hy (fun k n e => n1 k n e) (fun s e => n2 s e) (fun k a b e => n3 k a b e) (fun k a e => n4 k a e) hk
      rw [fB_eq, notB_eq] at h1
      simp only [Sem.run_bind, h2, Result.andThen_ok, h3]
      exact .same hw bool_vr h1
    · exact hk.elim

theorem oUn_spec {op : UnOp} {x x' : Value} (hw : WR B φ h w) (hx : VR φ x x') (hk : oUn op x h K) : DoneR B φ h w ((Op.unary op x').run P w) K := by
  unfold oUn at hk
  split at hk
  · split at hk
    · rename_i b
      have e1 : x' = .bool b := hx.inv
      subst e1
      rw [fB_eq, notB_eq] at hk
      exact .same hw bool_vr hk
    · exact hk.elim
  · split at hk
    · rename_i k n
      have e1 : x' = .int k n := hx.inv
      subst e1
      obtain ⟨h1, h2⟩ := fitK_spec hk
      have h1' : k.wrap (0 - n) = 0 - n := h1
      simp only [Op.unary, Op.intArith, h1', Sem.run_pure]
      exact .same hw int_vr h2
    · exact hk.elim
  · exact hk.elim

theorem oPick_spec {c c' a a' b b' : Value} (hw : WR B φ h w) (hc : VR φ c c') (ha : VR φ a a') (hb : VR φ b b') (hk : oPick c a b h K) :
    ∃ t, (asBool c').run P w = .ok t w ∧ DoneR B φ h w (.ok (if t then a' else b') w) K := by
  unfold oPick at hk
  split at hk
  · have e : c' = .bool true := hc.inv
    subst e
    exact ⟨true, rfl, .same hw ha hk⟩
  · have e : c' = .bool false := hc.inv
    subst e
    exact ⟨false, rfl, .same hw hb hk⟩
  · exact hk.elim
end

end Rn
end Go.Proofs.YtllbjkeahafleaaGreatDoor
