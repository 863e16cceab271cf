/-
  Calls over rows that are handed in; symbols for what is known of a value.
-/
import Derived.Test.YtllbjkeahafleaaGreatDoorRN28
set_option linter.unusedSimpArgs false
namespace Go.Proofs.YtllbjkeahafleaaGreatDoor
namespace Rn
open Go.RowKit

section
variable {P : Program} {B : Tb} {O : Ov} {G : Plans} {φ : Fi} {h : Hp} {w : World}

theorem st_below_h {φ' : Fi} {h' : Hp} {w' : World} (hl : ∀ r o, tget W h.rows r = some o → r < h.low) (hst : St φ h w φ' h' w') : Below w.heap.size w w' :=
  ⟨hst.sm.1, hst.sm.2.1, hst.sm.2.2, hst.size, fun k hk => by
    by_cases hx : ∃ r o s, tget W h.rows r = some o ∧ φ r = some s ∧ s.b = k
    · obtain ⟨r, o, s, h1, h2, rfl⟩ := hx
      exact (hst.still r o s (hl r o h1) h1 h2 hk).2
    · exact hst.keep k hk fun r o s h1 h2 h3 => hx ⟨r, o, s, h1, h2, h3⟩⟩

/-- A call that the runner has followed, over rows that are handed in and that nobody may write. -/
theorem ranH {f g : Nat} {args args' : List Value} (hB : TOK P B) (hG : PlansOK P G) (hO : OvOK P B O) (hw : WR B φ h w) (hl : ∀ r o, tget W h.rows r = some o → r < h.low) (hargs : All2 (VR φ) args args') {T : Prop} (hk0 : evCall P B O G f g args h yes = T) (hT : T) :
    Calls P g args'.toArray w fun e w' => e = .returned (.bool true) ∧ Below w.heap.size w w' := by
  have hk : evCall P B O G f g args h yes := Eq.mpr hk0 hT
  refine ((callN_ok hB hG (evCode_ok hB hG hO f [] [] trivial)).run (φ := φ) hw trivial hargs hk).mono ?_
  rintro e w' ⟨φ', h', v, v', rfl, h1, h2, h3, h4⟩
  refine ⟨?_, st_below_h hl h3⟩
  unfold yes at h4
  split at h4
  · have : v' = .bool true := h1.inv
    rw [this]
  · exact h4.elim

/-- Does a call answer just this value? -/
def tells (u : Value) (v : Value) (_ : Hp) : Prop := eqH v u True
/-- A call that answers a value that is told, whatever the memory. -/
theorem ranV {f g : Nat} {args args' : List Value} {u : Value} (hB : TOK P B) (hG : PlansOK P G) (hO : OvOK P B O) (w : World) (hargs : All2 (VR fun _ => none) args args') (hk0 : evCall P B O G f g args ⟨none, 1000, 0⟩ (tells u) = True) (hu : ∀ φ v, VR φ u v → v = u) :
    Calls P g args'.toArray w fun e w' => e = .returned u ∧ Below w.heap.size w w' := by
  have hk : evCall P B O G f g args ⟨none, 1000, 0⟩ (tells u) := Eq.mpr hk0 trivial
  refine ((callN_ok hB hG (evCode_ok hB hG hO f [] [] trivial)).run (φ := fun _ => none) (wr_none w fun _ _ => rfl) trivial hargs hk).mono ?_
  rintro e w' ⟨φ', h', v, v', rfl, h1, h2, h3, h4⟩
  refine ⟨?_, st_below h3⟩
  obtain ⟨rfl, _, _⟩ := eqH_spec h4
  rw [hu _ _ h1]

/-- A number more, at which whatever stands. -/
theorem WR.symbol (s : Sl) {K : Nat → Hp → Prop} (hw : WR B φ h w) (hk : newL h K) :
    ∃ φ' h', WR B φ' h' w ∧ St φ h w φ' h' w ∧ φ' h.next = some s ∧ K h.next h' := by
  obtain ⟨rows, next, low⟩ := h
  simp only [newL] at hk
  split at hk
  case h_2 => exact hk.elim
  rename_i hb
  have hn : next ≤ MOST := Nat.le_of_ble_eq_true hb
  rw [fN_eq] at hk
  have hext : ∀ r s', φ r = some s' → (if r = next then some s else φ r) = some s' := fun r s' hs' => by
    have : r ≠ next := by rintro rfl; rw [hw.below _ (Nat.le_refl _)] at hs'; cases hs'
    simp [this, hs']
  have hback : ∀ r o s', tget W rows r = some o → (if r = next then some s else φ r) = some s' → φ r = some s' := fun r o s' ho hs' => by
    have : r ≠ next := by have := (hw.live r o ho).1; show r ≠ next; exact Nat.ne_of_lt this
    simpa [this] using hs'
  refine ⟨fun r => if r = next then some s else φ r, ⟨rows, next + 1, low⟩, ⟨fun r o ho => ?_, fun r r' o o' s1 hl ho ho' h1 h2 => ?_, fun r hr => ?_, fun r o ho => ?_, ?_, ?_⟩, ⟨hext, Nat.le_refl _, fun _ _ _ => rfl, fun r o s1 ho h1 => .inr ⟨r, o, s1, ho, hback r o s1 ho h1, rfl⟩, Sm.refl _, rfl, fun r o s1 _ ho _ _ => ⟨ho, rfl⟩⟩, by simp, hk⟩
  · obtain ⟨s1, h1, h2⟩ := hw.rows r o ho
    exact ⟨s1, hext r s1 h1, h2.keep hext (Nat.le_refl _) rfl⟩
  · obtain ⟨s2, h2, h3⟩ := h2
    exact hw.apart r r' o o' s1 hl ho ho' (hback r o s1 ho h1) ⟨s2, hback r' o' s2 ho' h2, h3⟩
  · have h1 : ¬ r = next := by have : next + 1 ≤ r := hr; omega
    simp only [h1, if_false]
    exact hw.below r (by have : next + 1 ≤ r := hr; show next ≤ r; omega)
  · have := hw.live r o ho
    exact ⟨Nat.lt_succ_of_lt this.1, this.2⟩
  · show next + 1 ≤ MOST + 1
    omega
  · exact ⟨Nat.le_succ_of_le hw.low.1, hw.low.2.new hw.low.1⟩

/-- What is known of a value, by a number. -/
structure KindOK (P : Program) (g : Nat) : Prop where
  body : ∃ fn c, P.funcs[g]? = some fn ∧ fn.body = some c
  run : ∀ (x : Int) (c : Nat) (w : World), -9223372036854775808 ≤ x → x < 9223372036854775808 → c < 8 → left x 8 = (c : Int) →
    Calls P g #[.int .i64 x] w fun e w' => e = .returned (.agg ⟨kcells c⟩) ∧ Below w.heap.size w w'
theorem kcells_vr {c : Nat} : VR φ (.agg ⟨kcells c⟩) (.agg ⟨kcells c⟩) := by
  obtain ⟨a, b, s, d, e⟩ := kcells_shape c
  rw [e]
  exact VR.mk ⟨_, rfl, ⟨int_vr, trivial⟩, ⟨int_vr, trivial⟩, ⟨str_vr, trivial⟩, ⟨int_vr, trivial⟩, rfl⟩
theorem kcells_only {c : Nat} {v : Value} (hv : VR φ (.agg ⟨kcells c⟩) v) : v = .agg ⟨kcells c⟩ := by
  obtain ⟨a, b, s, d, e⟩ := kcells_shape c
  rw [e] at hv ⊢
  obtain ⟨⟨ys⟩, rfl, hy⟩ := hv.inv
  match ys, hy with
  | [y0, y1, y2, y3], ⟨h0, h1, h2, h3, _⟩ =>
    have e0 : y0 = .int .i64 a := h0.1.inv
    have e1 : y1 = .int .i64 b := h1.1.inv
    have e2 : y2 = .string s := h2.1.inv
    have e3 : y3 = .int .i64 d := h3.1.inv
    rw [e0, e1, e2, e3]
theorem sym_cells {q c : Nat} {s : Sl} (hq : φ q = some s) (hs : s.b = c) (hc : c < 8) : VR φ (.agg ⟨[.complex .f32 q 2, .complex .f32 q 3, .complex .f32 q 4, .complex .f32 q 5]⟩) (.agg ⟨kcells c⟩) := by
  have one : ∀ m, 2 ≤ m → m < 6 → VR φ (.complex .f32 q m) (symV m c) := fun m h1 h2 => VR.mk (v := .complex .f32 q m) ⟨s, hq, by
    rw [hs]
    rcases (by omega : m = 2 ∨ m = 3 ∨ m = 4 ∨ m = 5) with rfl | rfl | rfl | rfl <;> exact ⟨hc, by omega⟩, by rw [hs]⟩
  have k2 := one 2 (by omega) (by omega)
  have k3 := one 3 (by omega) (by omega)
  have k4 := one 4 (by omega) (by omega)
  have k5 := one 5 (by omega) (by omega)
  obtain ⟨a, b, t, d, e⟩ := kcells_shape c
  simp only [symV, e] at k2 k3 k4 k5
  rw [e]
  exact VR.mk ⟨_, rfl, ⟨k2, trivial⟩, ⟨k3, trivial⟩, ⟨k4, trivial⟩, ⟨k5, trivial⟩, rfl⟩
theorem symOK_mask {m c : Nat} (hm : Nat.ble 16 m = true) (h : symOK m c) : c < 18446744073709551616 ∧ ∃ k, k < 8 ∧ left ((c : Int) - 9223372036854775808) 8 = ((k : Nat) : Int) ∧ bitOf (m - 16) k = true := by
  have h16 := Nat.le_of_ble_eq_true hm
  unfold symOK at h
  split at h <;> first
    | omega
    | (rw [hm] at h; exact h)
theorem symV_mask {m c : Nat} (hm : Nat.ble 16 m = true) : symV m c = .int .i64 ((c : Int) - 9223372036854775808) := by
  have h16 := Nat.le_of_ble_eq_true hm
  unfold symV
  split <;> first
    | omega
    | (rw [hm])
theorem kBit_spec {m c : Nat} {x rest : Prop} (h : kBit m c x rest) : (bitOf m c = true → x) ∧ rest := by
  unfold kBit at h
  split at h
  · exact ⟨fun _ => h.1, h.2⟩
  · rename_i hb
    exact ⟨(fun e => by rw [hb] at e; cases e), h⟩
theorem kMask_spec {m c : Nat} {K : KV} (hb : bitOf m c = true) (hc : c < 8) (hk : kMask m h K) : K (.agg ⟨kcells c⟩) h := by
  unfold kMask at hk
  obtain ⟨k0, hk⟩ := kBit_spec hk
  obtain ⟨k1, hk⟩ := kBit_spec hk
  obtain ⟨k2, hk⟩ := kBit_spec hk
  obtain ⟨k3, hk⟩ := kBit_spec hk
  obtain ⟨k4, hk⟩ := kBit_spec hk
  obtain ⟨k5, hk⟩ := kBit_spec hk
  obtain ⟨k6, hk⟩ := kBit_spec hk
  obtain ⟨k7, _⟩ := kBit_spec hk
  rcases (by omega : c = 0 ∨ c = 1 ∨ c = 2 ∨ c = 3 ∨ c = 4 ∨ c = 5 ∨ c = 6 ∨ c = 7) with rfl | rfl | rfl | rfl | rfl | rfl | rfl | rfl
  · exact k0 hb
  · exact k1 hb
  · exact k2 hb
  · exact k3 hb
  · exact k4 hb
  · exact k5 hb
  · exact k6 hb
  · exact k7 hb
theorem kindK_ok {g : Nat} (hI : KindOK P g) : ExOK P B g kindK := {
  body := hI.body
  run := fun {args args' h K N φ w} hw hargs hk => by
    unfold kindK at hk
    split at hk
    · rename_i x
      match args', hargs with
      | x' :: [], ⟨hx, _⟩ =>
      split at hk
      · rename_i r m
        split at hk
        · right
          obtain ⟨s, h1, h2, rfl⟩ := hx.inv
          have h2' : s.b < 18446744073709551616 := h2
          obtain ⟨c, hc, hl⟩ := left_lt (x := (s.b : Int) - 9223372036854775808) (n := 8) (by omega)
          refine (hI.run _ c w (by omega) (by omega) hc hl).mono ?_
          rintro e w' ⟨rfl, bel⟩
          have hw1 := hw.behind bel.size bel.block
          obtain ⟨φ', h', a1, a2, a3, a4⟩ := hw1.symbol ⟨c, 0, 0, 0⟩ hk
          exact ⟨φ', h', _, _, rfl, sym_cells a3 rfl hc, a1, (St.behind bel.size bel.block ⟨bel.os, bel.tape, bel.output⟩).trans a2, a4⟩
        · right
          obtain ⟨s, h1, h2, rfl⟩ := hx.inv
          have h2' : s.b < 18446744073709551616 := h2
          obtain ⟨c, hc, hl⟩ := left_lt (x := (s.b : Int) - 9223372036854775808) (n := 8) (by omega)
          refine (hI.run _ c w (by omega) (by omega) hc hl).mono ?_
          rintro e w' ⟨rfl, bel⟩
          refine ⟨φ, h, .agg ⟨kcells c⟩, _, rfl, kcells_vr, hw.behind bel.size bel.block, St.behind bel.size bel.block ⟨bel.os, bel.tape, bel.output⟩, ?_⟩
          obtain ⟨k0, k1, k2, k3, k4, k5, k6, k7⟩ := hk
          rcases (by omega : c = 0 ∨ c = 1 ∨ c = 2 ∨ c = 3 ∨ c = 4 ∨ c = 5 ∨ c = 6 ∨ c = 7) with rfl | rfl | rfl | rfl | rfl | rfl | rfl | rfl <;> assumption
        · rename_i m
          split at hk
          · rename_i hb
            right
            rw [fN_eq] at hk
            obtain ⟨s, h1, h2, h3⟩ := hx.inv
            have hb' : Nat.ble 16 (m + 2) = true := Nat.ble_eq_true_of_le (by have := Nat.le_of_ble_eq_true hb; omega)
            obtain ⟨h4, c, hc, hl, hbit⟩ := symOK_mask hb' h2
            rw [symV_mask hb'] at h3
            subst h3
            refine (hI.run _ c w (by omega) (by omega) hc hl).mono ?_
            rintro e w' ⟨rfl, bel⟩
            refine ⟨φ, h, .agg ⟨kcells c⟩, _, rfl, kcells_vr, hw.behind bel.size bel.block, St.behind bel.size bel.block ⟨bel.os, bel.tape, bel.output⟩, ?_⟩
            exact kMask_spec (by rw [show Nat.sub m 14 = m + 2 - 16 from by show m - 14 = _; omega]; exact hbit) hc hk
          · exact .inl hk
      · exact .inl hk
    · exact .inl hk }
end

end Rn
end Go.Proofs.YtllbjkeahafleaaGreatDoor
