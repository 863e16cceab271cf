/-
  What the runner's operations say of the machine's: numbers, texts, what is the same.
-/
import Derived.Test.YtllbjkeahafleaaGreatDoorRN5
import Derived.Laws.StructEq
namespace Go.Proofs.YtllbjkeahafleaaGreatDoor
namespace Rn

section
variable {P : Program} {B : Tb} {φ : Fi} {h : Hp} {w : World} {K : KV}

theorem fitK_spec {k : IntKind} {n : Int} {K : Value → Prop} (hk : fitK k n K) : k.wrap n = n ∧ K (.int k n) := by
  unfold fitK at hk
  split at hk
  · rename_i m
    split at hk
    · exact hk.elim
    · rename_i hb
      rw [fN_eq] at hk
      refine ⟨?_, hk⟩
      have hlt : m < ikMax k := by
        rcases Nat.lt_or_ge m (ikMax k) with g | g
        · exact g
        · rw [Nat.ble_eq_true_of_le g] at hb; cases hb
      cases k <;> simp only [ikMax] at hlt <;> simp only [IntKind.wrap, IntKind.bits, IntKind.signed, Int.ofNat_eq_natCast] <;> simp <;> omega
  · rename_i m
    split at hk
    · exact hk.elim
    · rename_i hs
      split at hk
      · exact hk.elim
      · rename_i hb
        rw [fN_eq] at hk
        refine ⟨?_, hk⟩
        have hlt : m < ikMax k := by
          rcases Nat.lt_or_ge m (ikMax k) with g | g
          · exact g
          · rw [Nat.ble_eq_true_of_le g] at hb; cases hb
        rw [Int.negSucc_eq]
        cases k <;> first
          | (simp only [ikMax] at hlt; simp only [IntKind.wrap, IntKind.bits, IntKind.signed]; simp; omega)
          | (exfalso; revert hs; decide)

theorem fB_eq (b : Bool) (K : Bool → Prop) : fB b K = K b := by cases b <;> rfl
theorem notB_eq (b : Bool) : notB b = !b := by cases b <;> rfl
theorem intEq_eq (a b : Int) : intEq a b = (a == b) := by
  cases a <;> cases b <;> simp only [intEq]
  · rename_i a b
    rw [Bool.eq_iff_iff]
    constructor
    · intro h; rw [Nat.eq_of_beq_eq_true h]; simp
    · intro h; have : a = b := Int.ofNat.inj (eq_of_beq h)
      subst this; exact Nat.beq_refl a
  · symm; simp only [beq_eq_false_iff_ne]; intro h; cases h
  · symm; simp only [beq_eq_false_iff_ne]; intro h; cases h
  · rename_i a b
    rw [Bool.eq_iff_iff]
    constructor
    · intro h; rw [Nat.eq_of_beq_eq_true h]; simp
    · intro h; have : a = b := by simpa using h
      subst this; exact Nat.beq_refl a
theorem ble_eq (a b : Nat) : Nat.ble a b = decide (a ≤ b) := by
  rw [Bool.eq_iff_iff]
  simp
theorem intLt_eq (a b : Int) : intLt a b = decide (a < b) := by
  cases a <;> cases b <;> simp only [intLt, ble_eq]
  · rename_i a b
    have : (a.succ ≤ b) ↔ (Int.ofNat a < Int.ofNat b) := by simp only [Int.ofNat_eq_natCast]; omega
    simp only [this]
  · rename_i a b
    have : ¬ (Int.ofNat a < Int.negSucc b) := by rw [Int.negSucc_eq, Int.ofNat_eq_natCast]; omega
    exact (decide_eq_false this).symm
  · rename_i a b
    have : (Int.negSucc a < Int.ofNat b) := by rw [Int.negSucc_eq, Int.ofNat_eq_natCast]; omega
    exact (decide_eq_true this).symm
  · rename_i a b
    have : (b.succ ≤ a) ↔ (Int.negSucc a < Int.negSucc b) := by rw [Int.negSucc_eq, Int.negSucc_eq]; omega
    simp only [this]
theorem ikN_inj {k k' : IntKind} (h : Nat.beq (ikN k) (ikN k') = true) : k' = k := by
  have := Nat.eq_of_beq_eq_true h
  cases k <;> cases k' <;> first | rfl | (simp [ikN] at this)
theorem bytesEqK_eq (K : Bool → Prop) : ∀ (x y : List UInt8), bytesEqK x y K = K (x == y)
  | [], [] => rfl
  | [], _ :: _ => rfl
  | _ :: _, [] => rfl
  | a :: x, b :: y => by
    have ih := bytesEqK_eq K x y
    change bytesStep K (fun y => bytesEqK x y K) a b y = _
    unfold bytesStep
    cases hb : Nat.beq a.toNat b.toNat with
    | true =>
      have : a = b := UInt8.toNat_inj.1 (Nat.eq_of_beq_eq_true hb)
      subst this
      simp only [ih, List.cons_beq_cons, beq_self_eq_true, Bool.true_and]
    | false =>
      have : ¬ a = b := by rintro rfl; rw [Nat.beq_refl] at hb; cases hb
      have h2 : (a == b) = false := by simpa using this
      simp only [List.cons_beq_cons, h2, Bool.false_and]

theorem wrapK_spec {k : IntKind} {n : Int} {K : Value → Prop} (hk : wrapK k n K) : K (.int k (k.wrap n)) := by
  unfold wrapK at hk
  split at hk
  · rename_i m
    split at hk
    · rwa [fI_eq] at hk
    · rename_i hb
      have hf : fitK k (.ofNat m) K := by
        simp only [fitK, hb]
        exact hk
      obtain ⟨h1, h2⟩ := fitK_spec hf
      rwa [h1]
  · rwa [fI_eq] at hk
theorem shiftK_spec {l : Bool} {t : Nat} {k k' : IntKind} {a b : Int} {K : Value → Prop} (hk : shiftK l k a b K) : ∃ v, (binOp (match l with | true => .shl | false => .shr) t (.int k a) (.int k' b)).run P w = .ok v w ∧ VR φ v v ∧ K v := by
  unfold shiftK at hk
  split at hk
  · rename_i m
    split at hk
    · rename_i n
      split at hk
      · rename_i hb
        have hle := Nat.le_of_ble_eq_true hb
        have hbits : ikBits k = k.bits := by cases k <;> rfl
        rw [hbits] at hle
        have hmin : min (Int.ofNat n).toNat k.bits = n := by
          show min n k.bits = n
          omega
        have hneg : ¬ (Int.ofNat n < 0) := by simp
        split at hk
        · obtain ⟨h1, h2⟩ := fitK_spec hk
          refine ⟨_, ?_, int_vr, h2⟩
          have e : Int.ofNat m * 2 ^ n = Int.ofNat (Nat.mul m (Nat.pow 2 n)) := by
            show (m : Int) * 2 ^ n = ((m * 2 ^ n : Nat) : Int)
            simp
          simp only [binOp, Op.shift, hneg, if_false, hmin, e, h1, Sem.run_pure]
        · rw [fN_eq] at hk
          refine ⟨_, ?_, int_vr, hk⟩
          have e : (Int.ofNat m).fdiv (2 ^ n) = Int.ofNat (Nat.div m (Nat.pow 2 n)) := by
            show ((m : Int)).fdiv (2 ^ n) = ((m / 2 ^ n : Nat) : Int)
            have h2 : (2 : Int) ^ n = ((2 ^ n : Nat) : Int) := by simp
            rw [h2, Int.fdiv_eq_ediv_of_nonneg _ (Int.natCast_nonneg _)]
            simp
          simp only [binOp, Op.shift, hneg, if_false, hmin, e, Sem.run_pure]
      · exact hk.elim
    · exact hk.elim
  · exact hk.elim
theorem intOpK_spec {op : BinOp} {t : Nat} {k : IntKind} {a b : Int} {K : Value → Prop} (hk : intOpK op k a b K) : ∃ v, (binOp op t (.int k a) (.int k b)).run P w = .ok v w ∧ VR φ v v ∧ K v := by
  unfold intOpK at hk
  split at hk
  · obtain ⟨h1, h2⟩ := fitK_spec hk
    refine ⟨_, ?_, int_vr, h2⟩
    have : k.wrap (a + b) = a + b := h1
    simp only [binOp, ne_eq, not_true, if_false, Op.intArith, this, Sem.run_pure]
    rfl
  · obtain ⟨h1, h2⟩ := fitK_spec hk
    refine ⟨_, ?_, int_vr, h2⟩
    have : k.wrap (a - b) = a - b := h1
    simp only [binOp, ne_eq, not_true, if_false, Op.intArith, this, Sem.run_pure]
    rfl
  · obtain ⟨h1, h2⟩ := fitK_spec hk
    refine ⟨_, ?_, int_vr, h2⟩
    have : k.wrap (a * b) = a * b := h1
    simp only [binOp, ne_eq, not_true, if_false, Op.intArith, this, Sem.run_pure]
    rfl
  · split at hk
    · exact hk.elim
    · rename_i h0
      obtain ⟨h1, h2⟩ := fitK_spec hk
      refine ⟨_, ?_, int_vr, h2⟩
      have hb : ¬ b = 0 := by rw [intEq_eq] at h0; simpa using h0
      have : k.wrap (a.tdiv b) = a.tdiv b := h1
      simp only [binOp, ne_eq, not_true, if_false, Op.intDiv, hb, this, Sem.run_pure]
  · split at hk
    · exact hk.elim
    · rename_i h0
      rw [fI_eq] at hk
      refine ⟨_, ?_, int_vr, hk⟩
      have hb : ¬ b = 0 := by rw [intEq_eq] at h0; simpa using h0
      simp only [binOp, ne_eq, not_true, if_false, Op.intDiv, hb, Sem.run_pure]
  · rw [fB_eq, intEq_eq] at hk
    exact ⟨_, by simp only [binOp, ne_eq, not_true, if_false, Op.intCmp, Sem.run_pure], bool_vr, hk⟩
  · rw [fB_eq, fB_eq, intEq_eq, notB_eq] at hk
    exact ⟨_, by simp only [binOp, ne_eq, not_true, if_false, Op.intCmp, Sem.run_pure]; rfl, bool_vr, hk⟩
  · rw [fB_eq, intLt_eq] at hk
    exact ⟨_, by simp only [binOp, ne_eq, not_true, if_false, Op.intCmp, Sem.run_pure], bool_vr, hk⟩
  · rw [fB_eq, intLt_eq] at hk
    exact ⟨_, by simp only [binOp, ne_eq, not_true, if_false, Op.intCmp, Sem.run_pure], bool_vr, hk⟩
  · rw [fB_eq, fB_eq, intLt_eq, notB_eq] at hk
    refine ⟨_, ?_, bool_vr, hk⟩
    have : (!decide (b < a)) = decide (a ≤ b) := by rw [Bool.eq_iff_iff]; simp
    simp only [binOp, ne_eq, not_true, if_false, Op.intCmp, Sem.run_pure, this]
  · rw [fB_eq, fB_eq, intLt_eq, notB_eq] at hk
    refine ⟨_, ?_, bool_vr, hk⟩
    have : (!decide (a < b)) = decide (a ≥ b) := by rw [Bool.eq_iff_iff]; simp
    simp only [binOp, ne_eq, not_true, if_false, Op.intCmp, Sem.run_pure, this]
  · rw [fI_eq] at hk
    exact ⟨_, by simp only [binOp, ne_eq, not_true, if_false, Op.intBits, Sem.run_pure], int_vr, hk⟩
  · rw [fI_eq] at hk
    exact ⟨_, by simp only [binOp, ne_eq, not_true, if_false, Op.intBits, Sem.run_pure], int_vr, hk⟩
  · rw [fI_eq] at hk
    exact ⟨_, by simp only [binOp, ne_eq, not_true, if_false, Op.intBits, Sem.run_pure], int_vr, hk⟩
  · rw [fI_eq] at hk
    exact ⟨_, by simp only [binOp, ne_eq, not_true, if_false, Op.intBits, Sem.run_pure], int_vr, hk⟩
  · exact hk.elim

theorem strOpK_spec {op : BinOp} {t : Nat} {a b : ByteArray} {K : Value → Prop} (hk : strOpK op a b K) : ∃ v, (binOp op t (.string a) (.string b)).run P w = .ok v w ∧ VR φ v v ∧ K v := by
  unfold strOpK at hk
  split at hk
  · rw [bytesEqK_eq] at hk
    exact ⟨_, by simp only [binOp, Op.stringOp, ByteArray.toList_eq, Sem.run_pure], bool_vr, hk⟩
  · rw [bytesEqK_eq, fB_eq, notB_eq] at hk
    exact ⟨_, by simp only [binOp, Op.stringOp, ByteArray.toList_eq, Sem.run_pure], bool_vr, hk⟩
  · rw [appK_eq, lenK_eq] at hk
    split at hk
    · rename_i hb
      have hle := Nat.le_of_ble_eq_true hb
      simp only [List.length_append, Array.length_toList] at hle
      have hle' : a.data.size + b.data.size ≤ 1000000000 := hle
      refine ⟨_, ?_, str_vr, hk⟩
      have hs : ¬ (((a.size + b.size : Nat) : Int) > IntKind.i64.max) := by
        have : a.size + b.size = a.data.size + b.data.size := rfl
        rw [this]
        simp only [IntKind.max, IntKind.signed, IntKind.bits]
        simp
        omega
      have he : a ++ b = ⟨⟨a.data.toList ++ b.data.toList⟩⟩ := by
        apply ByteArray.ext
        rw [ByteArray.data_append]
        apply Array.ext'
        simp
      simp only [binOp, Op.stringOp, hs, if_false, Sem.run_pure, he]
    · exact hk.elim
  · exact hk.elim

/-- A symbol is the same as itself. -/
theorem symSame_spec {r m : Nat} {y x' y' : Value} {K : Prop} (hx : VR φ (.complex .f32 r m) x') (hy : VR φ y y') (hk : symSame r m y K) : ∃ c, symOK m c ∧ x' = symV m c ∧ y' = symV m c ∧ K := by
  unfold symSame at hk
  split at hk
  · split at hk
    · rename_i hb
      have := Nat.eq_of_beq_eq_true hb
      subst this
      split at hk
      · rename_i hb
        have := Nat.eq_of_beq_eq_true hb
        subst this
        obtain ⟨s, h1, h2, h3⟩ := hx.inv
        obtain ⟨s', h4, h5, h6⟩ := hy.inv
        rw [h1] at h4
        cases h4
        exact ⟨s.b, h2, h3, h6, hk⟩
      · exact hk.elim
    · exact hk.elim
  · exact hk.elim
theorem linSame_spec {n : Nat} {y x' y' : Value} {K : Prop} (hx : VR φ (.float .f32 n) x') (hy : VR φ y y') (hk : linSame n y K) : ∃ z, x' = .int .i64 z ∧ y' = .int .i64 z ∧ K := by
  unfold linSame at hk
  split at hk
  · split at hk
    · rename_i hb
      have := Nat.eq_of_beq_eq_true hb
      subst this
      obtain ⟨s, h1, h2, h3⟩ := hx.inv
      obtain ⟨s', h4, h5, h6⟩ := hy.inv
      rw [h1] at h4
      cases h4
      exact ⟨_, h3, h6, hk⟩
    · exact hk.elim
  · exact hk.elim
/-- Two values of a type are held against one another. -/
theorem sameK_spec (hB : TOK P B) : ∀ (f d t : Nat) (x x' y y' : Value) (K : Bool → Prop), f ≤ d → VR φ x x' → VR φ y y' → sameK B f t x y K → ∃ b, (Op.equalIn d t x' y').run P w = .ok b w ∧ K b
  | 0, _, _, _, _, _, _, _, _, _, _, hk => hk.elim
  | f + 1, 0, _, _, _, _, _, _, hd, _, _, _ => absurd hd (by omega)
  | f + 1, d + 1, t, x, x', y, y', K, hd, hx, hy, hk => by
    have IH := fun t x x' y y' K => sameK_spec hB f d t x x' y y' K (by omega)
    unfold sameK at hk IH
    obtain ⟨i, h1, h2⟩ := tyK_spec hk
    have hi := hB.ok t i h1
    obtain ⟨dd, h3, h4⟩ := hi.under
    have hu := run_underlying h3 w
    split at h2
    · rename_i hki
      rw [hki] at h4
      obtain rfl : dd = .bool := h4
      split at h2
      · split at h2
        · rename_i a _ b
          have e1 : x' = .bool a := hx.inv
          have e2 : y' = .bool b := hy.inv
          subst e1 e2
          refine ⟨a == b, run_equalIn_bool w d t a b h3, ?_⟩
          cases a <;> cases b <;> exact h2
        · exact h2.elim
      · exact h2.elim
    · rename_i ki hki
      rw [hki] at h4
      obtain rfl : dd = .int ki := h4
      split at h2
      · split at h2
        · rename_i k a _ k' b
          have e1 : x' = .int k a := hx.inv
          have e2 : y' = .int k' b := hy.inv
          subst e1 e2
          split at h2
          · rename_i hb
            have := ikN_inj hb
            subst this
            rw [fB_eq, intEq_eq] at h2
            exact ⟨_, run_equalIn_int w d t k' ki a b h3, h2⟩
          · exact h2.elim
        · exact h2.elim
      · split at h2
        · rename_i hm
          obtain ⟨c, g1, rfl, rfl, g4⟩ := symSame_spec hx hy h2
          obtain ⟨n, g5⟩ := symV_int g1 hm
          rw [g5]
          exact ⟨_, run_equalIn_int w d t .i64 ki n n h3, by simpa using g4⟩
        · exact h2.elim
      · obtain ⟨z, rfl, rfl, g4⟩ := linSame_spec hx hy h2
        exact ⟨_, run_equalIn_int w d t .i64 ki z z h3, by simpa using g4⟩
      · exact h2.elim
    · rename_i hki
      rw [hki] at h4
      obtain rfl : dd = .string := h4
      split at h2
      · split at h2
        · rename_i a _ b
          have e1 : x' = .string a := hx.inv
          have e2 : y' = .string b := hy.inv
          subst e1 e2
          rw [bytesEqK_eq] at h2
          exact ⟨_, run_equalIn_string w d t a b h3, by rw [ByteArray.toList_eq, ByteArray.toList_eq]; exact h2⟩
        · exact h2.elim
      · split at h2
        · rename_i hm
          obtain ⟨c, g1, rfl, rfl, g4⟩ := symSame_spec hx hy h2
          obtain ⟨n, g5⟩ := symV_str (c := c) hm
          rw [g5]
          exact ⟨_, run_equalIn_string w d t n n h3, by simpa using g4⟩
        · exact h2.elim
      · exact h2.elim
    · rename_i e hki
      rw [hki] at h4
      obtain rfl : dd = .pointer e := h4
      split at h2
      · split at h2
        · rename_i b
          have e1 : x' = .pointer none := hx.inv
          subst e1
          rw [fB_eq] at h2
          cases b with
          | none =>
            have e2 : y' = .pointer none := hy.inv
            subst e2
            exact ⟨true, by simp only [Op.equalIn, Sem.run_bind, hu, Result.andThen_ok, Sem.run_pure]; rfl, h2⟩
          | some a =>
            obtain ⟨r, o, sp⟩ := a
            cases sp with
            | some _ =>
              have e2 : y' = .pointer (some ⟨r, o, none⟩) := hy.inv
              subst e2
              exact ⟨false, by simp only [Op.equalIn, Sem.run_bind, hu, Result.andThen_ok, Sem.run_pure]; rfl, h2⟩
            | none =>
              obtain ⟨s, _, rfl⟩ := hy.inv
              exact ⟨false, by simp only [Op.equalIn, Sem.run_bind, hu, Result.andThen_ok, Sem.run_pure]; rfl, h2⟩
        · exact h2.elim
      · rename_i a
        split at h2
        · have e2 : y' = .pointer none := hy.inv
          subst e2
          obtain ⟨r, o, sp⟩ := a
          cases sp with
          | some _ =>
            have e1 : x' = .pointer (some ⟨r, o, none⟩) := hx.inv
            subst e1
            exact ⟨false, by simp only [Op.equalIn, Sem.run_bind, hu, Result.andThen_ok, Sem.run_pure], h2⟩
          | none =>
            obtain ⟨s, _, rfl⟩ := hx.inv
            exact ⟨false, by simp only [Op.equalIn, Sem.run_bind, hu, Result.andThen_ok, Sem.run_pure], h2⟩
        · exact h2.elim
      · exact h2.elim
    · rename_i ms hki
      rw [hki] at h4
      obtain ⟨ms', rfl⟩ : ∃ ms, dd = .interface ms := h4
      split at h2
      · have e1 : x' = .nilIface := hx.inv
        subst e1
        split at h2
        · have e2 : y' = .nilIface := hy.inv
          subst e2
          exact ⟨true, by simp only [Op.equalIn, Sem.run_bind, hu, Result.andThen_ok, Sem.run_pure], h2⟩
        · obtain ⟨_, rfl, _⟩ := hy.inv
          exact ⟨false, by simp only [Op.equalIn, Sem.run_bind, hu, Result.andThen_ok, Sem.run_pure], h2⟩
        · exact h2.elim
      · obtain ⟨_, rfl, _⟩ := hx.inv
        split at h2
        · have e2 : y' = .nilIface := hy.inv
          subst e2
          exact ⟨false, by simp only [Op.equalIn, Sem.run_bind, hu, Result.andThen_ok, Sem.run_pure], h2⟩
        · exact h2.elim
      · exact h2.elim
    · rename_i e hki
      rw [hki] at h4
      obtain rfl : dd = .slice e := h4
      split at h2
      · rename_i n c
        have e1 : x' = .slice none n c := hx.inv
        subst e1
        split at h2
        · rename_i b n2 c2
          rw [fB_eq] at h2
          cases b with
          | none =>
            have e2 : y' = .slice none n2 c2 := hy.inv
            subst e2
            exact ⟨true, by simp only [Op.equalIn, Sem.run_bind, hu, Result.andThen_ok, Sem.run_pure]; rfl, h2⟩
          | some a =>
            obtain ⟨r, o, sp⟩ := a
            obtain ⟨_, _, rfl, _⟩ := slice_shape hy
            exact ⟨false, by simp only [Op.equalIn, Sem.run_bind, hu, Result.andThen_ok, Sem.run_pure]; rfl, h2⟩
        · exact h2.elim
      · rename_i a n c
        split at h2
        · rename_i n2 c2
          have e2 : y' = .slice none n2 c2 := hy.inv
          subst e2
          obtain ⟨r, o, sp⟩ := a
          obtain ⟨_, _, rfl, _⟩ := slice_shape hx
          exact ⟨false, by simp only [Op.equalIn, Sem.run_bind, hu, Result.andThen_ok, Sem.run_pure], h2⟩
        · exact h2.elim
      · exact h2.elim
    · rename_i a b hki
      rw [hki] at h4
      obtain rfl : dd = .map a b := h4
      split at h2
      · have e1 : x' = .map none := hx.inv
        subst e1
        split at h2
        · rename_i b
          rw [fB_eq] at h2
          cases b with
          | none =>
            have e2 : y' = .map none := hy.inv
            subst e2
            exact ⟨true, by simp only [Op.equalIn, Sem.run_bind, hu, Result.andThen_ok, Sem.run_pure]; rfl, h2⟩
          | some a =>
            obtain ⟨_, _, rfl⟩ := hy.inv
            exact ⟨false, by simp only [Op.equalIn, Sem.run_bind, hu, Result.andThen_ok, Sem.run_pure]; rfl, h2⟩
        · exact h2.elim
      · obtain ⟨_, _, rfl⟩ := hx.inv
        split at h2
        · have e2 : y' = .map none := hy.inv
          subst e2
          exact ⟨false, by simp only [Op.equalIn, Sem.run_bind, hu, Result.andThen_ok, Sem.run_pure], h2⟩
        · exact h2.elim
      · exact h2.elim
    · rename_i hki
      rw [hki] at h4
      obtain ⟨a, b, c, rfl⟩ : ∃ a b c, dd = .func a b c := h4
      split at h2
      · have e1 : x' = .nilFunc := hx.inv
        subst e1
        split at h2
        · have e2 : y' = .nilFunc := hy.inv
          subst e2
          exact ⟨true, by simp only [Op.equalIn, Sem.run_bind, hu, Result.andThen_ok, Sem.run_pure], h2⟩
        · obtain ⟨_, _, rfl, _⟩ := hy.inv
          exact ⟨false, by simp only [Op.equalIn, Sem.run_bind, hu, Result.andThen_ok, Sem.run_pure], h2⟩
        · exact h2.elim
      · obtain ⟨_, _, rfl, _⟩ := hx.inv
        split at h2
        · have e2 : y' = .nilFunc := hy.inv
          subst e2
          exact ⟨false, by simp only [Op.equalIn, Sem.run_bind, hu, Result.andThen_ok, Sem.run_pure], h2⟩
        · exact h2.elim
      · exact h2.elim
    · rename_i fs hki
      obtain ⟨fs', rfl, h5⟩ := kd_struct hki h4
      split at h2
      · rename_i heq
        split at h2
        · rename_i xs
          split at h2
          · rename_i ys
            obtain ⟨xs', rfl, hxs⟩ := hx.inv
            obtain ⟨ys', rfl, hys⟩ := hy.inv
            have hf : P.fieldsOf t = fs' := by simp only [Program.fieldsOf, h3]
            rw [run_equalIn_struct w d t xs' ys' (by rw [hf]; exact h3) (hi.eqs heq).2, hf]
            have hfs := h5
            clear hk
            revert h2 hfs
            generalize fs'.toList = l'
            generalize fs.toList = l
            intro h2 hfs
            induction l generalizing l' with
            | nil =>
              cases hfs
              exact ⟨true, by simp only [Op.eqFields, Sem.run_pure], h2⟩
            | cons f l ih =>
              cases l' with
              | nil => exact hfs.elim
              | cons f' l' =>
                obtain ⟨⟨hft, hfo, hfn⟩, hrest⟩ := hfs
                obtain ⟨j, g1, g2⟩ := tyK_spec h2
                rw [dropK_iff, dropK_iff] at g2
                obtain ⟨va, va', g3, g4, g5, g6⟩ := ofCellsK_spec (All2.drop f.offset hxs) g2.2.2
                obtain ⟨vb, vb', g7, g8, g9, g10⟩ := ofCellsK_spec (All2.drop f.offset hys) g3
                obtain ⟨b, g11, g12⟩ := IH f.type va va' vb vb' _ g4 g8 g7
                have p1 := part_run (P := P) (w := w) (cs := xs') (off := f.offset) (v' := va') (hB.ok f.type j g1) g5 fun h => (g6 h).1
                have p2 := part_run (P := P) (w := w) (cs := ys') (off := f.offset) (v' := vb') (hB.ok f.type j g1) g9 fun h => (g10 h).1
                simp only [Op.eqFields, hfn, ne_eq, not_false_eq_true, if_true, Sem.run_bind, hft, hfo, p1, p2, g11, Result.andThen_ok]
                cases b with
                | true =>
                  simp only [Bool.not_true, Bool.false_eq_true, if_false]
                  exact ih l' g12 hrest
                | false => exact ⟨false, by simp only [Bool.not_false, if_true, Sem.run_pure], g12⟩
          · exact h2.elim
        · exact h2.elim
      · exact h2.elim
    · exact h2.elim
end

end Rn
end Go.Proofs.YtllbjkeahafleaaGreatDoor
