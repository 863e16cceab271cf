/-
  What the runner's operations say of the machine's: lengths, slices, conversions.
-/
import Derived.Test.YtllbjkeahafleaaGreatDoorRN10
set_option linter.unusedSimpArgs false
namespace Go.Proofs.YtllbjkeahafleaaGreatDoor
namespace Rn

section
variable {P : Program} {B : Tb} {φ : Fi} {h : Hp} {w : World} {K : KV} {ds : List Deferred}

theorem entriesK_spec {m m' : Value} {K : List MapEntry → Prop} (hw : WR B φ h w) (hm : VR φ m m') (hk : entriesK h m K) :
    ∃ es es' : List MapEntry, K es ∧ All2 (fun (e e' : MapEntry) => VR φ e.key e'.key ∧ VR φ e.val e'.val ∧ e'.born = e.born) es es' ∧
      ((m' = .map none ∧ es' = []) ∨ ∃ b clock, m' = .map (some b) ∧ w.heap[b]? = some (.map ⟨es'⟩ clock)) := by
  unfold entriesK at hk
  split at hk
  · have e : m' = .map none := hm.inv
    exact ⟨[], [], hk, rfl, .inl ⟨e, rfl⟩⟩
  · rename_i r
    obtain ⟨o, h1, h2⟩ := rowK_spec hk
    split at h2
    · rename_i es clock
      obtain ⟨s, h3, h4⟩ := hw.rows r _ h1
      obtain ⟨es', h5, h6⟩ := h4
      obtain ⟨s', h7, h8⟩ := hm.inv
      rw [h3] at h7
      cases h7
      exact ⟨_, es'.toList, h2, h6, .inr ⟨s.b, clock, h8, h5⟩⟩
    · exact h2.elim
  · exact hk.elim

theorem run_getMap {b clock : Nat} {es : Array MapEntry} (hb : w.heap[b]? = some (.map es clock)) : (getObj b).run P w = .ok (.map es clock) w := by simp only [getObj, Sem.run, hb]

theorem oLen_spec {t ty : Nat} {x x' : Value} (hB : TOK P B) (hw : WR B φ h w) (hx : VR φ x x') (hk : oLen B t x h K) : DoneR B φ h w ((Builtin.len_ #[t] ty #[x']).run P w) K := by
  obtain ⟨i, h1, h2⟩ := tyK_spec hk
  obtain ⟨d, h3, h4⟩ := (hB.ok t i h1).under
  have hu := run_underlying h3 w
  split at h2
  · rename_i hki
    rw [hki] at h4
    obtain rfl : d = .string := h4
    split at h2
    · rename_i s
      have e : x' = .string s := hx.inv
      subst e
      rw [lenK_eq] at h2
      have e2 : (Builtin.len_ #[t] ty #[.string s]).run P w = .ok (.int .i64 s.data.toList.length) w := by
        simp only [Builtin.len_, List.getElem?_toArray, List.getElem?_cons_zero, Sem.run_bind, hu, Result.andThen_ok, Sem.run_pure, goInt]
        rfl
      rw [e2]
      exact .same hw int_vr h2
    · exact h2.elim
  · rename_i e0 hki
    rw [hki] at h4
    obtain rfl : d = .slice e0 := h4
    split at h2
    · rename_i a n c
      have hshape : ∃ a' c', x' = .slice a' n c' := by
        cases a with
        | none => exact ⟨_, _, hx.inv⟩
        | some a =>
          obtain ⟨a', c', e1, _⟩ := slice_shape hx
          exact ⟨_, _, e1⟩
      obtain ⟨a', c', rfl⟩ := hshape
      have e2 : (Builtin.len_ #[t] ty #[.slice a' n c']).run P w = .ok (.int .i64 n) w := by
        simp only [Builtin.len_, List.getElem?_toArray, List.getElem?_cons_zero, Sem.run_bind, hu, Result.andThen_ok, Sem.run_pure, goInt]
      rw [e2]
      exact .same hw int_vr h2
    · rename_i r q
      obtain ⟨s, t', c', h8, h9, h10, h11, rfl⟩ := hx.inv
      have e2 : (Builtin.len_ #[t] ty #[.slice (some ⟨s.b, s.base, none⟩) t'.b c']).run P w = .ok (.int .i64 t'.b) w := by
        simp only [Builtin.len_, List.getElem?_toArray, List.getElem?_cons_zero, Sem.run_bind, hu, Result.andThen_ok, Sem.run_pure, goInt]
      rw [e2]
      exact .same hw (VR.mk (v := .complex .f32 q 6) ⟨t', h9, ⟨h10, h11⟩, rfl⟩) h2
    · exact h2.elim
  · rename_i n e0 hki
    rw [hki] at h4
    obtain rfl : d = .array n e0 := h4
    have e2 : (Builtin.len_ #[t] ty #[x']).run P w = .ok (.int .i64 n) w := by
      simp only [Builtin.len_, List.getElem?_toArray, List.getElem?_cons_zero, Sem.run_bind, hu, Result.andThen_ok, Sem.run_pure, goInt]
    rw [e2]
    exact .same hw int_vr h2
  · rename_i a0 b0 hki
    rw [hki] at h4
    obtain rfl : d = .map a0 b0 := h4
    obtain ⟨es, es', h5, h6, h7⟩ := entriesK_spec hw hx h2
    rw [lenK_eq] at h5
    have hl := h6.length
    rcases h7 with ⟨rfl, rfl⟩ | ⟨b, clock, rfl, h8⟩
    · have e2 : (Builtin.len_ #[t] ty #[.map none]).run P w = .ok (.int .i64 (0 : Nat)) w := by
        simp only [Builtin.len_, List.getElem?_toArray, List.getElem?_cons_zero, Sem.run_bind, hu, Result.andThen_ok, Sem.run_pure, goInt]
        rfl
      rw [e2]
      rw [← hl] at h5
      exact .same hw int_vr h5
    · have e2 : (Builtin.len_ #[t] ty #[.map (some b)]).run P w = .ok (.int .i64 es'.length) w := by
        simp only [Builtin.len_, List.getElem?_toArray, List.getElem?_cons_zero, Sem.run_bind, hu, Result.andThen_ok, run_getMap h8, Sem.run_pure, goInt]
        rfl
      rw [e2]
      rw [← hl] at h5
      exact .same hw int_vr h5
  · exact h2.elim

theorem oCap_spec {t ty : Nat} {x x' : Value} (hB : TOK P B) (hw : WR B φ h w) (hx : VR φ x x') (hk : oCap B t x h K) : DoneR B φ h w ((Builtin.cap_ #[t] ty #[x']).run P w) K := by
  obtain ⟨i, h1, h2⟩ := tyK_spec hk
  obtain ⟨d, h3, h4⟩ := (hB.ok t i h1).under
  have hu := run_underlying h3 w
  split at h2
  · rename_i e0 hki
    rw [hki] at h4
    obtain rfl : d = .slice e0 := h4
    split at h2
    · rename_i a n c
      split at h2
      · exact h2.elim
      · rename_i hT
        have hT' : c ≠ TOP := fun e => by rw [e, Nat.beq_refl] at hT; cases hT
        have hshape : ∃ a', x' = .slice a' n c := by
          cases a with
          | none => exact ⟨_, hx.inv⟩
          | some a =>
            obtain ⟨a', c', e1, e2, _⟩ := slice_shape hx
            exact ⟨_, by rw [e1, e2 hT']⟩
        obtain ⟨a', rfl⟩ := hshape
        have e2 : (Builtin.cap_ #[t] ty #[.slice a' n c]).run P w = .ok (.int .i64 c) w := by
          simp only [Builtin.cap_, List.getElem?_toArray, List.getElem?_cons_zero, Sem.run_bind, hu, Result.andThen_ok, Sem.run_pure, goInt]
        rw [e2]
        exact .same hw int_vr h2
    · exact h2.elim
  · exact h2.elim

theorem oMin_spec {ts : Array Nat} {ty : Nat} {x x' y y' : Value} (hw : WR B φ h w) (hx : VR φ x x') (hy : VR φ y y') (hk : oMin x y h K) : DoneR B φ h w ((Builtin.min_ ts ty #[x', y']).run P w) K := by
  unfold oMin at hk
  split at hk
  · rename_i k a
    have e1 : x' = .int k a := hx.inv
    subst e1
    split at hk
    · rename_i k' b
      have e2 : y' = .int k' b := hy.inv
      subst e2
      rw [intLt_eq] at hk
      have e : (Builtin.min_ ts ty #[.int k a, .int k' b]).run P w = .ok (.int k (if b < a then b else a)) w := by
        simp only [Builtin.min_, List.foldlM_cons, List.foldlM_nil, Builtin.min2, Sem.run_bind, Sem.run_pure, Result.andThen_ok]
      rw [e]
      split at hk
      · rename_i hb
        have hb' : b < a := by simpa using hb
        rw [if_pos hb']
        exact .same hw int_vr hk
      · rename_i hb
        have hb' : ¬ b < a := by simpa using hb
        rw [if_neg hb']
        exact .same hw int_vr hk
    · exact hk.elim
  · exact hk.elim

theorem oMax_spec {ts : Array Nat} {ty : Nat} {x x' y y' : Value} (hw : WR B φ h w) (hx : VR φ x x') (hy : VR φ y y') (hk : oMax x y h K) : DoneR B φ h w ((Builtin.max_ ts ty #[x', y']).run P w) K := by
  unfold oMax at hk
  split at hk
  · rename_i k a
    have e1 : x' = .int k a := hx.inv
    subst e1
    split at hk
    · rename_i k' b
      have e2 : y' = .int k' b := hy.inv
      subst e2
      rw [intLt_eq] at hk
      have e : (Builtin.max_ ts ty #[.int k a, .int k' b]).run P w = .ok (.int k (if b > a then b else a)) w := by
        simp only [Builtin.max_, List.foldlM_cons, List.foldlM_nil, Builtin.max2, Sem.run_bind, Sem.run_pure, Result.andThen_ok]
      rw [e]
      split at hk
      · rename_i hb
        have hb' : a < b := by simpa using hb
        rw [if_pos hb']
        exact .same hw int_vr hk
      · rename_i hb
        have hb' : ¬ a < b := by simpa using hb
        rw [if_neg hb']
        exact .same hw int_vr hk
    · exact hk.elim
  · exact hk.elim

/-- Cells are put where a slice begins. -/
def into (d : Value) (l : List Value) : Sem Unit := match d with
  | .slice (some a) _ _ => storeCells a l
  | _ => pure ()
theorem copyN_spec {size n dl dc : Nat} {base : Option Addr} {d' s s' : Value} (hw : WR B φ h w) (hd : VR φ (.slice base dl dc) d') (hs : VR φ s s') (hn : n ≤ dl) (hk : copyN h base size n s K) {f : Sem Value}
    (hf : f = (do let cells ← Builtin.firstCells size n s'; into d' cells.toList; pure (goInt n) : Sem Value)) : Done B φ h w (f.run P w) K := by
  obtain ⟨l, l', h1, h2, h3, h4⟩ := firstK_spec (P := P) hw hs hk
  subst hf
  split at h1
  · have hl' : l' = [] := List.eq_nil_of_length_eq_zero (by rw [h2.length]; rfl)
    subst hl'
    have e : ((do let cells ← Builtin.firstCells size n s'; into d' cells.toList; pure (goInt n)) : Sem Value).run P w = .ok (.int .i64 (n : Nat)) w := by
      simp only [Sem.run_bind, h4 w rfl, Result.andThen_ok, into]
      split <;> rfl
    rw [e]
    exact .same hw int_vr h1
  · rename_i c cs
    split at h1
    · rename_i r o
      obtain ⟨q, h', w', g1, g2, g3, g4, g5⟩ := storeK_spec (P := P) hw h2 h1
      rcases hd.inv with ⟨_, h0, _⟩ | ⟨_, q', c', k1, rfl, _⟩
      · exfalso
        have : n = 0 := by omega
        rw [this] at h3
        simp at h3
      · rw [g1] at k1
        cases k1
        have e : ((do let cells ← Builtin.firstCells size n s'; into (.slice (some ⟨q.b, q.base + o, none⟩) dl c') cells.toList; pure (goInt n)) : Sem Value).run P w = .ok (.int .i64 (n : Nat)) w' := by
          simp only [Sem.run_bind, h4 w rfl, Result.andThen_ok, into, g2]
          rfl
        rw [e]
        exact ⟨φ, h', w', _, _, rfl, int_vr, g3, g4, g5⟩
    · exact h1.elim
theorem oCopy_spec {dt st ty : Nat} {d d' s s' : Value} (hB : TOK P B) (hw : WR B φ h w) (hd : VR φ d d') (hs : VR φ s s') (hk : oCopy B dt d s h K) : Done B φ h w ((Builtin.copy_ #[dt, st] ty #[d', s']).run P w) K := by
  obtain ⟨i, h1, h2⟩ := tyK_spec hk
  obtain ⟨dd, h3, h4⟩ := (hB.ok dt i h1).under
  split at h2
  · rename_i e hki
    have hdd := kd_slice hki h4
    subst hdd
    obtain ⟨j, h5, h6, hso⟩ := tySK_spec h2
    split at h6
    · rename_i base dl dc
      obtain ⟨n, h7, h8⟩ := lenVK_spec (P := P) (w := w) hs h6
      have hshape : ∃ b' dc', d' = .slice b' dl dc' := by
        cases base with
        | none => exact ⟨none, dc, hd.inv⟩
        | some a =>
          obtain ⟨a', c', e1, _, _⟩ := slice_shape hd
          exact ⟨_, _, e1⟩
      obtain ⟨b', dc', rfl⟩ := hshape
      have fin : ∀ m, m = Nat.min n dl → copyN h base j.size m s K → Done B φ h w ((Builtin.copy_ #[dt, st] ty #[.slice b' dl dc', s']).run P w) K := fun m hm hkk => by
        have hle : m ≤ dl := by rw [hm]; exact Nat.min_le_right _ _
        have := copyN_spec (P := P) (f := do let cells ← Builtin.firstCells j.size m s'; into (.slice b' dl dc') cells.toList; pure (goInt m)) hw hd hs hle hkk rfl
        have e2 : (Builtin.copy_ #[dt, st] ty #[.slice b' dl dc', s']).run P w = ((do let cells ← Builtin.firstCells j.size m s'; into (.slice b' dl dc') cells.toList; pure (goInt m)) : Sem Value).run P w := by
          simp only [Builtin.copy_, List.getElem?_toArray, List.getElem?_cons_zero, List.getElem?_cons_succ, Sem.run_bind, run_underlying h3, Result.andThen_ok, h8, (hB.ok e j h5).size, ← hm]
          cases b' with
          | none => rfl
          | some a => simp only [into, Sem.run_bind]
        rw [e2]
        exact this
      split at h7
      · rename_i hb
        rw [fN_eq] at h7
        exact fin n (by have := Nat.le_of_ble_eq_true hb; exact (Nat.min_eq_left this).symm) h7
      · rename_i hb
        rw [fN_eq] at h7
        have : ¬ n ≤ dl := fun q => by rw [Nat.ble_eq_true_of_le q] at hb; cases hb
        exact fin dl (Nat.min_eq_right (by omega)).symm h7
    · exact h6.elim
  · exact h2.elim

theorem uptoK_spec {v v' : Value} {n y : Nat} {code : BoundsCode} {K : Nat → Prop} (hv : VR φ v v') (hn : n ≤ y) (hk : uptoK v n K) : ∃ m, K m ∧ m ≤ n ∧ (Instr.sliceBound v' y code).run P w = .ok m w := by
  obtain ⟨k, m, rfl, h1⟩ := natK_spec hv hk
  split at h1
  · rename_i hb
    have hle := Nat.le_of_ble_eq_true hb
    refine ⟨m, h1, hle, ?_⟩
    have : (0 : Int) ≤ Int.ofNat m ∧ Int.ofNat m ≤ (y : Int) := ⟨Int.natCast_nonneg m, by simp only [Int.ofNat_eq_natCast]; omega⟩
    simp only [Instr.sliceBound, asIntOf, Sem.run_bind, Sem.run_pure, Result.andThen_ok, this, and_self, if_true]
    rfl
  · exact h1.elim

theorem reach_le {n c c' : Nat} (hc1 : c ≠ TOP → c' = c) (hc2 : c = TOP → n ≤ c') : reach n c ≤ c' := by
  unfold reach
  split
  · rename_i hb; exact hc2 (Nat.eq_of_beq_eq_true hb)
  · rename_i hb
    have : c ≠ TOP := fun e => by rw [e, Nat.beq_refl] at hb; cases hb
    rw [hc1 this]
    exact Nat.le_refl _
theorem lowK_spec {t : Tm} {a : Act} {x : Nat} {lo : Option Operand} {code : BoundsCode} {K : Nat → Prop} (ht : TR ds φ t a) (hk : lowK t x lo K) :
    ∃ l, K l ∧ l ≤ x ∧ (match lo.map a.eval with | some v => Instr.sliceBound v x code | none => pure 0 : Sem Nat).run P w = .ok l w := by
  unfold lowK at hk
  split at hk
  · exact ⟨0, hk, Nat.zero_le _, rfl⟩
  · obtain ⟨v, h1, h2⟩ := valK_spec ht hk
    obtain ⟨l, h3, h4, h5⟩ := uptoK_spec (P := P) (w := w) (code := code) h2 (Nat.le_refl _) h1
    exact ⟨l, h3, h4, h5⟩
/-- The bounds of a slice expression. -/
theorem bounds_spec {t : Tm} {a : Act} {isS : Bool} {n c c' : Nat} {lo hi mx : Option Operand} {K : Nat → Nat → Nat → Prop} (ht : TR ds φ t a) (hc1 : c ≠ TOP → c' = c) (hc2 : c = TOP → n ≤ c')
    (hk : maxK t n c mx fun m => highK t n m hi mx fun x => lowK t x lo fun l => K m x l) :
    ∃ m x l m', K m x l ∧ (Instr.sliceBounds isS n c' (lo.map a.eval) (hi.map a.eval) (mx.map a.eval)).run P w = .ok (l, x, m') w ∧ l ≤ x ∧ (m = TOP → m' = c' ∧ c = TOP ∧ x ≤ n) ∧ (m ≠ TOP → m' = m) ∧ (mx = none → m = c ∧ x ≤ max n (reach n c)) := by
  have hreach := reach_le hc1 hc2
  cases mx with
  | none =>
    have hk' : highK t n c hi none fun x => lowK t x lo fun l => K c x l := hk
    cases hi with
    | none =>
      have hk2 : lowK t n lo fun l => K c n l := hk'
      obtain ⟨l, h1, h2, h3⟩ := lowK_spec (P := P) (w := w) (code := .sliceB) ht hk2
      refine ⟨c, n, l, c', h1, ?_, h2, fun e => ⟨rfl, e, Nat.le_refl _⟩, hc1, fun _ => ⟨rfl, Nat.le_max_left _ _⟩⟩
      simp only [Instr.sliceBounds, Option.map_none, Sem.run_bind, Sem.run_pure, Result.andThen_ok, Option.isSome_none, Bool.false_eq_true, if_false]
      cases lo with
      | none =>
        have hl0 : 0 = l := by
          have hh : (pure 0 : Sem Nat).run P w = .ok l w := h3
          rw [Sem.run_pure] at hh
          cases hh
          rfl
        subst hl0
        simp only [Option.map_none, Sem.run_pure, Sem.run_bind, Result.andThen_ok]
      | some y2 =>
        have hh : (Instr.sliceBound (a.eval y2) n .sliceB).run P w = .ok l w := h3
        simp only [Option.map_some, hh, Sem.run_pure, Sem.run_bind, Result.andThen_ok]
    | some y =>
      have hk2 : valK t y fun v => uptoK v (reach n c) fun x => lowK t x lo fun l => K c x l := hk'
      obtain ⟨v, h1, h2⟩ := valK_spec ht hk2
      obtain ⟨x, h3, h4, h5⟩ := uptoK_spec (P := P) (w := w) (code := if isS then .sliceAcap else .sliceAlen) h2 hreach h1
      obtain ⟨l, h6, h7, h8⟩ := lowK_spec (P := P) (w := w) (code := .sliceB) ht h3
      refine ⟨c, x, l, c', h6, ?_, h7, fun e => ⟨rfl, e, ?_⟩, hc1, fun _ => ⟨rfl, Nat.le_trans h4 (Nat.le_max_right _ _)⟩⟩
      · simp only [Instr.sliceBounds, Option.map_none, Option.map_some, Sem.run_bind, Sem.run_pure, Result.andThen_ok, Option.isSome_none, Bool.false_eq_true, if_false, h5]
        cases lo with
        | none =>
          have hl0 : 0 = l := by
            have hh : (pure 0 : Sem Nat).run P w = .ok l w := h8
            rw [Sem.run_pure] at hh
            cases hh
            rfl
          subst hl0
          simp only [Option.map_none, Sem.run_pure, Sem.run_bind, Result.andThen_ok]
        | some y2 =>
          have hh : (Instr.sliceBound (a.eval y2) x .sliceB).run P w = .ok l w := h8
          simp only [Option.map_some, hh, Sem.run_pure, Sem.run_bind, Result.andThen_ok]
      · subst e
        have : reach n TOP = n := by unfold reach; rw [Nat.beq_refl]
        omega
  | some z =>
    have hk' : valK t z fun v => uptoK v (reach n c) fun m => match Nat.ble m MOST with
      | true => highK t n m hi (some z) fun x => lowK t x lo fun l => K m x l
      | false => False := hk
    obtain ⟨v, h1, h2⟩ := valK_spec ht hk'
    obtain ⟨m, h3, h4, h5⟩ := uptoK_spec (P := P) (w := w) (code := if isS then .slice3Acap else .slice3Alen) h2 hreach h1
    split at h3
    · rename_i hm
      have hmT : m ≠ TOP := by have := Nat.le_of_ble_eq_true hm; simp only [MOST] at this; simp only [TOP]; omega
      cases hi with
      | none => exact h3.elim
      | some y =>
        have hk2 : valK t y fun v => uptoK v (reach n m) fun x => lowK t x lo fun l => K m x l := h3
        obtain ⟨v2, g1, g2⟩ := valK_spec ht hk2
        have hrm : reach n m ≤ m := by
          unfold reach
          split
          · rename_i hb; exact absurd (Nat.eq_of_beq_eq_true hb) hmT
          · exact Nat.le_refl _
        obtain ⟨x, g3, g4, g5⟩ := uptoK_spec (P := P) (w := w) (code := .slice3B) g2 hrm g1
        obtain ⟨l, h6, h7, h8⟩ := lowK_spec (P := P) (w := w) (code := .slice3C) ht g3
        refine ⟨m, x, l, m, h6, ?_, h7, fun e => absurd e hmT, fun _ => rfl, fun e => by cases e⟩
        simp only [Instr.sliceBounds, Option.map_some, Sem.run_bind, Sem.run_pure, Result.andThen_ok, Option.isSome_some, if_true, h5, g5]
        cases lo with
        | none =>
          have hl0 : 0 = l := by
            have hh : (pure 0 : Sem Nat).run P w = .ok l w := h8
            rw [Sem.run_pure] at hh
            cases hh
            rfl
          subst hl0
          simp only [Option.map_none, Sem.run_pure, Sem.run_bind, Result.andThen_ok]
        | some y2 =>
          have hh : (Instr.sliceBound (a.eval y2) x .slice3C).run P w = .ok l w := h8
          simp only [Option.map_some, hh, Sem.run_pure, Sem.run_bind, Result.andThen_ok]
    · exact h3.elim

theorem someK_spec {r e : Nat} {no yes : Prop} (hk : someK h r e no yes) : no ∨ ∃ cs fz, tget W h.rows r = some (.cells cs e fz) ∧ yes := by
  obtain ⟨rows, next, low⟩ := h
  simp only [someK, tgetK_eq] at hk
  split at hk
  · rename_i cs e' fz ho
    split at hk
    · rename_i hb
      have := Nat.eq_of_beq_eq_true hb
      subst this
      exact .inr ⟨cs, fz, ho, hk⟩
    · exact .inl hk
  · exact .inl hk
theorem oSliceS_spec {t : Tm} {a : Act} {ty e n c : Nat} {j : TI} {ad : Option Addr} {x' : Value} {lo hi mx : Option Operand} (hB : TOK P B) (hw : WR B φ h w) (ht : TR ds φ t a) (hu : P.underlying ty = some (.slice e)) (hj : tget W B e = some j)
    (hx : VR φ (.slice ad n c) x') (hk : oSliceS t e j.size ad n c lo hi mx h K) : DoneR B φ h w ((Instr.slice ty x' (lo.map a.eval) (hi.map a.eval) (mx.map a.eval)).run P w) K := by
  have hjO := hB.ok e j hj
  unfold oSliceS at hk
  split at hk
  · rename_i r o
    -- what the slice is in the world
    have hshape : ∃ ad' c', x' = .slice (some ad') n c' ∧ (c ≠ TOP → c' = c) ∧ (c = TOP → n ≤ c') := by
      rcases hx.inv with ⟨_, rfl, ad', c', rfl, h1⟩ | ⟨_, s, c', _, rfl, h1, h2⟩
      · exact ⟨_, _, rfl, h1, fun _ => Nat.zero_le _⟩
      · exact ⟨_, _, rfl, h1, fun e => (h2 e).1⟩
    obtain ⟨ad', c', rfl, hc1, hc2⟩ := hshape
    obtain ⟨m, x, l, m', h1, h2, h3, h4, h5, _⟩ := bounds_spec (P := P) (w := w) (isS := true) ht hc1 hc2 hk
    have hrun : (Instr.slice ty (.slice (some ad') n c') (lo.map a.eval) (hi.map a.eval) (mx.map a.eval)).run P w = .ok (.slice (if m' = l then some ad' else some (ad'.add (l * j.size))) (x - l) (m' - l)) w := by
      simp only [Instr.slice, Sem.run_bind, run_underlying hu, Result.andThen_ok, h2, hjO.size, Sem.run_pure, Option.map_some]
    rw [hrun]
    split at h1
    · rename_i hT
      have hT' := Nat.eq_of_beq_eq_true hT
      obtain ⟨rfl, rfl, hxn⟩ := h4 hT'
      split at h1
      · rename_i hxl
        have hxl' := Nat.le_of_ble_eq_true hxl
        have hx0 : x - l = 0 := by omega
        rw [hx0]
        split at h1
        · have e1 : (if m' = 0 then some ad' else some (ad'.add (0 * j.size))) = some ad' := by rw [Nat.zero_mul]; simp [Addr.add]
          rw [e1, Nat.sub_zero]
          refine .same hw ?_ h1
          rcases hx.inv with ⟨hr, hn0, ad2, c2, he, _⟩ | ⟨hr, s, c2, hs, he, g1, g2⟩
          · exact VR.mk (v := .slice (some ⟨r, o, none⟩) 0 TOP) (.inl ⟨hr, rfl, ad', m', rfl, fun e => absurd rfl e⟩)
          · cases he
            exact slice_vr hr hs (fun e => absurd rfl e) (fun _ => ⟨Nat.zero_le _, (g2 rfl).2⟩)
        · rename_i k
          rcases someK_spec h1 with hno | ⟨cs, fz, hrow, hyes⟩
          · refine .same hw ?_ hno
            split
            · exact VR.mk (v := .slice (some ⟨NOWHERE, 0, none⟩) 0 TOP) (.inl ⟨rfl, rfl, _, _, rfl, fun e => absurd rfl e⟩)
            · exact VR.mk (v := .slice (some ⟨NOWHERE, 0, none⟩) 0 TOP) (.inl ⟨rfl, rfl, _, _, rfl, fun e => absurd rfl e⟩)
          · rw [fN_eq] at hyes
            rcases hx.inv with ⟨hr, _⟩ | ⟨hr, s, c2, hs, he, g1, g2⟩
            · exact absurd hr (hw.live r _ hrow).2
            · cases he
              obtain ⟨s', k3, k4⟩ := hw.rows r _ hrow
              rw [hs] at k3
              cases k3
              have hu' : s.u = j.size := k4.2.1 j hj
              obtain ⟨g3, g4, g5⟩ := g2 rfl
              refine .same hw ?_ hyes
              have hone : ∀ ad0 : Addr, (ad0 = ⟨s.b, s.base + o, none⟩ ∨ m' ≠ k + 1 ∧ ad0 = ⟨s.b, s.base + (o + (k + 1) * j.size), none⟩) → (m' - (k + 1) ≠ 0 → ad0 = ⟨s.b, s.base + (o + (k + 1) * j.size), none⟩) →
                  VR φ (.slice (some ⟨r, o + (k + 1) * j.size, some 0⟩) 0 TOP) (.slice (some ad0) 0 (m' - (k + 1))) := fun ad0 _ h => by
                refine VR.mk (v := .slice (some ⟨r, o + (k + 1) * j.size, some 0⟩) 0 TOP) ⟨rfl, rfl, s, ad0, m' - (k + 1), hs, rfl, fun hne => ⟨h hne, ?_, g5.1, by have := g5.2; omega⟩⟩
                rw [hu'] at g4 ⊢
                have : (m' - (k + 1)) * j.size + (k + 1) * j.size = m' * j.size := by rw [← Nat.add_mul]; congr 1; omega
                omega
              split
              · rename_i hm
                exact hone _ (.inl rfl) (fun hne => absurd (by omega) hne)
              · rename_i hm
                rw [add_plain, show s.base + o + (k + 1) * j.size = s.base + (o + (k + 1) * j.size) by omega]
                exact hone _ (.inr ⟨hm, rfl⟩) (fun _ => rfl)
      · rename_i hxl
        have hlt : l < x := by
          rcases Nat.lt_or_ge l x with g | g
          · exact g
          · rw [Nat.ble_eq_true_of_le g] at hxl; cases hxl
        obtain ⟨q, k1, k2⟩ := rowK_spec h1
        split at k2
        · rename_i cs e' fz
          split at k2
          · rename_i hee
            have hee' := Nat.eq_of_beq_eq_true hee
            subst hee'
            rw [fN_eq, fN_eq] at k2
            rcases hx.inv with ⟨hr, _⟩ | ⟨hr, s, c2, hs, he, g1, g2⟩
            · exact absurd hr (hw.live r _ k1).2
            · cases he
              obtain ⟨s', k3, k4⟩ := hw.rows r _ k1
              rw [hs] at k3
              cases k3
              have hu' : s.u = j.size := k4.2.1 j hj
              obtain ⟨g3, g4⟩ := g2 rfl
              have hne : ¬ m' = l := by omega
              rw [if_neg hne, add_plain, show s.base + o + l * j.size = s.base + (o + l * j.size) by omega]
              refine .same hw (slice_vr hr hs (fun e => absurd rfl e) fun _ => ⟨by omega, ?_⟩) k2
              rw [hu'] at g4 ⊢
              have : (m' - l) * j.size + l * j.size = m' * j.size := by rw [← Nat.add_mul]; congr 1; omega
              refine ⟨?_, g4.2.1, by have := g4.2.2; omega⟩
              have g5 := g4.1
              show o + l * j.size + (m' - l) * j.size = s.room
              omega
          · exact k2.elim
        · exact k2.elim
    · rename_i hT
      have hT' : m ≠ TOP := fun e => by rw [e, Nat.beq_refl] at hT; cases hT
      have hmm := h5 hT'
      subst hmm
      split at h1
      · rename_i hml
        have hml' := Nat.eq_of_beq_eq_true hml
        subst hml'
        split at h1
        · rename_i hxl
          have hxl' := Nat.le_of_ble_eq_true hxl
          rw [if_pos rfl, show x - m' = 0 by omega, Nat.sub_self]
          refine .same hw ?_ h1
          rcases hx.inv with ⟨hr, hn0, ad2, c2, he, _⟩ | ⟨hr, s, c2, hs, he, g1, g2⟩
          · exact VR.mk (v := .slice (some ⟨r, o, none⟩) 0 0) (.inl ⟨hr, rfl, ad', 0, rfl, fun _ => rfl⟩)
          · cases he
            exact slice_vr hr hs (fun _ => rfl) (fun e => by simp [TOP] at e)
        · exact h1.elim
      · rename_i hml
        have hne : ¬ m' = l := fun e => by rw [e, Nat.beq_refl] at hml; cases hml
        split at h1
        · exact h1.elim
        · rename_i hrn
          have hrn' : r ≠ NOWHERE := fun e => by rw [e, Nat.beq_refl] at hrn; cases hrn
          split at h1
          · rename_i hmo
            have hmo' := Nat.le_of_ble_eq_true hmo
            rw [fN_eq, fN_eq, fN_eq] at h1
            rcases hx.inv with ⟨hr, _⟩ | ⟨hr, s, c2, hs, he, g1, g2⟩
            · exact absurd hr hrn'
            · cases he
              rw [if_neg hne, add_plain, show s.base + o + l * j.size = s.base + (o + l * j.size) by omega]
              exact .same hw (slice_vr hr hs (fun _ => rfl) fun e => by simp only [TOP, MOST] at e hmo'; have : m' - l = 18446744073709551616 := e; omega) h1
          · exact h1.elim
  · split at hk
    · split at hk
      · split at hk
        · have hk' : maxK t 0 0 none fun m => highK t 0 m hi none fun x => lowK t x lo fun _ => K (.slice none 0 0) h := hk
          have e : x' = .slice none 0 0 := hx.inv
          subst e
          obtain ⟨m, x, l, m', h1, h2, h3, h4, h5, h6⟩ := bounds_spec (P := P) (w := w) (isS := true) (mx := none) (c' := 0) (K := fun _ _ _ => K (.slice none 0 0) h) ht (fun _ => rfl) (fun e => by simp [TOP] at e) hk'
          obtain ⟨rfl, h7⟩ := h6 rfl
          have hm' : m' = 0 := h5 (by simp [TOP])
          subst hm'
          have hr0 : reach 0 0 = 0 := rfl
          rw [hr0] at h7
          have hx0 : x = 0 := by simpa using h7
          subst hx0
          have hl0 : l = 0 := by omega
          subst hl0
          have hrun : (Instr.slice ty (.slice none 0 0) (lo.map a.eval) (hi.map a.eval) ((none : Option Operand).map a.eval)).run P w = .ok (.slice none 0 0) w := by
            simp only [Option.map_none] at h2
            simp only [Instr.slice, Sem.run_bind, run_underlying hu, Result.andThen_ok, hjO.size, Sem.run_pure, Option.map_none, h2, if_true, Nat.sub_zero]
          rw [hrun]
          exact .same hw hx h1
        · rename_i z
          have e : x' = .slice none 0 0 := hx.inv
          subst e
          obtain ⟨m, x, l, m', h1, h2, h3, h4, h5, h6⟩ := bounds_spec (P := P) (w := w) (isS := true) (mx := some z) (c := 0) (c' := 0) (n := 0) (K := fun m x _ => match Nat.beq m 0 with
            | true => match Nat.beq x 0 with
              | true => K (.slice none 0 0) h
              | false => False
            | false => False) ht (fun _ => rfl) (fun e => by simp [TOP] at e) hk
          split at h1
          · rename_i hm
            have := Nat.eq_of_beq_eq_true hm
            subst this
            split at h1
            · rename_i hx0
              have := Nat.eq_of_beq_eq_true hx0
              subst this
              have hm' : m' = 0 := h5 (by simp [TOP])
              subst hm'
              have hl0 : l = 0 := by omega
              subst hl0
              have hrun : (Instr.slice ty (.slice none 0 0) (lo.map a.eval) (hi.map a.eval) ((some z : Option Operand).map a.eval)).run P w = .ok (.slice none 0 0) w := by
                simp only [Instr.slice, Sem.run_bind, run_underlying hu, Result.andThen_ok, hjO.size, Sem.run_pure, h2, if_true, Nat.sub_zero, Option.map_none]
              rw [hrun]
              exact .same hw hx h1
            · exact h1.elim
          · exact h1.elim
      · exact hk.elim
    · exact hk.elim
  · rename_i r o p
    obtain ⟨ad', c', rfl, hc1, hc2⟩ := slice_shape hx
    obtain ⟨m, x, l, m', h1, h2, h3, h4, h5, _⟩ := bounds_spec (P := P) (w := w) (isS := true) ht hc1 hc2 hk
    have hrun : (Instr.slice ty (.slice (some ad') n c') (lo.map a.eval) (hi.map a.eval) (mx.map a.eval)).run P w = .ok (.slice (if m' = l then some ad' else some (ad'.add (l * j.size))) (x - l) (m' - l)) w := by
      simp only [Instr.slice, Sem.run_bind, run_underlying hu, Result.andThen_ok, h2, hjO.size, Sem.run_pure, Option.map_some]
    rw [hrun]
    split at h1
    · rename_i hT
      have hT' := Nat.eq_of_beq_eq_true hT
      obtain ⟨rfl, rfl, hxn⟩ := h4 hT'
      split at h1
      · have e1 : (if m' = 0 then some ad' else some (ad'.add (0 * j.size))) = some ad' := by rw [Nat.zero_mul]; simp [Addr.add]
        obtain ⟨hn0, _⟩ := hx.inv
        subst hn0
        have hx0 : x = 0 := by omega
        subst hx0
        rw [e1, Nat.sub_zero, Nat.sub_zero]
        exact .same hw hx h1
      · exact h1.elim
    · exact h1.elim
theorem oSlice_spec {t : Tm} {a : Act} {ty : Nat} {x x' : Value} {lo hi mx : Option Operand} (hB : TOK P B) (hw : WR B φ h w) (ht : TR ds φ t a) (hx : VR φ x x') (hk : oSlice B t ty x lo hi mx h K) :
    DoneR B φ h w ((Instr.sliceAt ty x' (lo.map a.eval) (hi.map a.eval) (mx.map a.eval)).run P w) K := by
  obtain ⟨i, h1, h2⟩ := tyK_spec hk
  obtain ⟨d, h3, h4⟩ := (hB.ok ty i h1).under
  split at h2
  · rename_i e hki
    have hd := kd_slice hki h4
    subst hd
    split at h2
    · rename_i ad n c
      obtain ⟨j, h5, h6⟩ := tyK_spec h2
      have := oSliceS_spec hB hw ht h3 h5 hx h6
      have e : (Instr.sliceAt ty x' (lo.map a.eval) (hi.map a.eval) (mx.map a.eval)).run P w = (Instr.slice ty x' (lo.map a.eval) (hi.map a.eval) (mx.map a.eval)).run P w := by
        simp only [Instr.sliceAt, Sem.run_bind, run_underlying h3, Result.andThen_ok]
      rw [e]
      exact this
    · exact h2.elim
  · rename_i hki
    rw [hki] at h4
    obtain rfl : d = .string := h4
    split at h2
    · rename_i s
      have e : x' = .string s := hx.inv
      subst e
      split at h2
      · exact h2.elim
      · rw [lenK_eq] at h2
        have h2' : maxK t s.data.toList.length s.data.toList.length none fun m => highK t s.data.toList.length m hi none fun x => lowK t x lo fun l => dropK l s.data.toList fun d => takeK (Nat.sub x l) d fun b => K (.string ⟨⟨b⟩⟩) h := h2
        obtain ⟨m, x, l, m', g1, g2, g3, g4, g5, g6⟩ := bounds_spec (P := P) (w := w) (isS := false) (c' := s.data.toList.length) ht (fun _ => rfl) (fun e => Nat.le_of_eq rfl) h2'
        rw [dropK_iff, takeK_iff] at g1
        obtain ⟨q1, q2, q3⟩ := g1
        have hsz : s.size = s.data.toList.length := rfl
        have hrun : (Instr.sliceAt ty (.string s) (lo.map a.eval) (hi.map a.eval) ((none : Option Operand).map a.eval)).run P w = .ok (.string (s.extract l x)) w := by
          simp only [Option.map_none] at g2
          simp only [Instr.sliceAt, Instr.slice, Sem.run_bind, run_underlying h3, Result.andThen_ok, Option.map_none, Option.isSome_none, Bool.false_eq_true, if_false, hsz, g2, Sem.run_pure]
        rw [hrun]
        have e : s.extract l x = ⟨⟨(s.data.toList.drop l).take (x - l)⟩⟩ := by
          apply ByteArray.ext
          rw [ByteArray.data_extract]
          apply Array.ext'
          simp [List.extract_eq_take_drop]
        rw [e]
        exact .same hw str_vr q3
    · exact h2.elim
  · exact h2.elim
end

end Rn
end Go.Proofs.YtllbjkeahafleaaGreatDoor
