/-
  What the runner says of the machine: regions, calls, code.
-/
import Derived.Test.YtllbjkeahafleaaGreatDoorRN16
import Derived.TacticsIn
import Derived.OrdersIn
import Derived.Tactics
set_option linter.unusedSimpArgs false
namespace Go.Proofs.YtllbjkeahafleaaGreatDoor
namespace Rn

section
variable {P : Program} {B : Tb} {φ : Fi} {h : Hp} {w : World} {K : KV} {ds : List Deferred}

theorem oAppend_spec {st xt ty : Nat} {s s' x x' : Value} (hB : TOK P B) (hw : WR B φ h w) (hs : VR φ s s') (hx : VR φ x x') (hk : oAppend B st xt s x h K) : Done B φ h w ((Builtin.append_ #[st, xt] ty #[s', x']).run P w) K := by
  obtain ⟨i, h1, h2⟩ := tyK_spec hk
  obtain ⟨d, h3, h4⟩ := (hB.ok xt i h1).under
  split at h2
  · rename_i k hki
    rw [hki] at h4
    obtain rfl : d = .int k := h4
    exact oAppendZeros_spec hB hw hs hx ⟨k, h3⟩ h2
  · rename_i e hki
    rw [hki] at h4
    obtain rfl : d = .slice e := h4
    exact appendK_spec hB hw hs hx ⟨_, h3, fun k e => by cases e⟩ h2
  · rename_i hki
    rw [hki] at h4
    obtain rfl : d = .string := h4
    exact appendK_spec hB hw hs hx ⟨_, h3, fun k e => by cases e⟩ h2
  · exact h2.elim

theorem oBuiltin_spec {b : Builtin} {ts : Array Nat} {ty : Nat} {cs : Array Bool} {vs : List Value} {vs' : List Value} (hB : TOK P B) (hw : WR B φ h w) (hv : All2 (VR φ) vs vs') (hk : oBuiltin B b ts.toList vs h K) :
    DoneN B φ h w ((builtin b ts ty cs vs'.toArray).run P w) K := by
  obtain ⟨ts⟩ := ts
  unfold oBuiltin at hk
  split at hk
  · rename_i x
    cases vs' with
    | nil => exact hv.elim
    | cons x' l =>
      obtain ⟨hx, hl⟩ := hv
      cases hl
      split at hk
      · rename_i t hts
        have hts' : ts = [t] := hts
        subst hts'
        split at hk
        · exact (oLen_spec hB hw hx hk).done.value
        · exact (oCap_spec hB hw hx hk).done.value
        · exact (oSliceData_spec hw hx hk).done.value
        · exact hk.elim
      · exact hk.elim
  · rename_i x y
    cases vs' with
    | nil => exact hv.elim
    | cons x' l =>
      obtain ⟨hx, hl⟩ := hv
      cases l with
      | nil => exact hl.elim
      | cons y' l =>
        obtain ⟨hy, hl⟩ := hl
        cases hl
        split at hk
        · rename_i t u hts
          have hts' : ts = [t, u] := hts
          subst hts'
          split at hk
          · exact (oAppend_spec hB hw hx hy hk).value
          · exact (oMin_spec hw hx hy hk).done.value
          · exact (oMax_spec hw hx hy hk).done.value
          · exact (oCopy_spec hB hw hx hy hk).value
          · exact (oUnsafeString_spec hB hw hx hy hk).value
          · exact hk.elim
        · exact hk.elim
  · exact hk.elim

theorem put_getD {a : Act} {d i : Nat} {v : Value} (h : i ≠ d) : (a.tmps.setIfInBounds d v).getD i undef = a.tmps.getD i undef := by
  simp only [Array.getD_eq_getD_getElem?, Array.getElem?_setIfInBounds]
  rw [if_neg fun q => h q.symm]
theorem tmPut_spec {t : Tm} {a : Act} {d : Option Nat} {v v' : Value} {K : Tm → Prop} (ht : TR ds φ t a) (hv : VR φ v v') (hk : tmPut t d v K) : ∃ t', K t' ∧ TR ds φ t' (a.put d v') := by
  unfold tmPut at hk
  split at hk
  · exact ⟨t, hk, ht⟩
  · rename_i d
    obtain ⟨n, tt, e, m⟩ := t
    have hk' : (Bool.rec (motive := fun _ => Prop) (Bool.rec (motive := fun _ => Prop) (K ⟨n, tt, (d, v) :: e, m⟩) (tputK W tt d (some v) fun t => K ⟨n, t, e, m⟩) (bitOf m d)) False (Nat.ble n d) : Prop) := hk
    cases hb : Nat.ble n d with
    | true => rw [hb] at hk'; exact hk'.elim
    | false =>
      rw [hb] at hk'
      have hlt := lt_of_ble hb
      have hn : n ≤ 1000000 := ht.few
      have hsz : a.tmps.size = n := ht.size
      have hat : (a.tmps.setIfInBounds d v').getD d undef = v' := by simp [Array.getD, hsz, hlt]
      cases hbd : bitOf m d with
      | true =>
        rw [hbd] at hk'
        simp only [tputK_eq] at hk'
        have hW : d + 1 < 2 ^ W := w_fits (by simp only [MOST]; omega)
        refine ⟨_, hk', ⟨by simpa [Act.put] using hsz, ht.defers, hn, fun i x hi hx => ?_, fun i x hi hx => ?_⟩⟩
        · show VR φ x ((a.tmps.setIfInBounds d v').getD i undef)
          have hx' : tget W (tput W tt d (some v)) i = some x := hx
          rw [tget_tput _ _ _ _ _ hW] at hx'
          by_cases e' : i = d
          · subst e'
            rw [if_pos rfl] at hx'
            cases hx'
            rw [hat]
            exact hv
          · rw [if_neg e'] at hx'
            rw [put_getD e']
            exact ht.tree i x hi hx'
        · show VR φ x ((a.tmps.setIfInBounds d v').getD i undef)
          have e' : i ≠ d := fun q => by
            have hi' : bitOf m i = false := hi
            rw [q, hbd] at hi'
            cases hi'
          rw [put_getD e']
          exact ht.envs i x hi hx
      | false =>
        rw [hbd] at hk'
        refine ⟨_, hk', ⟨by simpa [Act.put] using hsz, ht.defers, hn, fun i x hi hx => ?_, fun i x hi hx => ?_⟩⟩
        · show VR φ x ((a.tmps.setIfInBounds d v').getD i undef)
          have e' : i ≠ d := fun q => by
            have hi' : bitOf m i = true := hi
            rw [q, hbd] at hi'
            cases hi'
          rw [put_getD e']
          exact ht.tree i x hi hx
        · show VR φ x ((a.tmps.setIfInBounds d v').getD i undef)
          have hx' : (match Nat.beq d i with | true => some v | false => findE i e) = some x := hx
          cases hbi : Nat.beq d i with
          | true =>
            rw [hbi] at hx'
            cases hx'
            have := Nat.eq_of_beq_eq_true hbi
            subst this
            rw [hat]
            exact hv
          | false =>
            rw [hbi] at hx'
            have e' : i ≠ d := fun q => by rw [q, Nat.beq_refl] at hbi; cases hbi
            rw [put_getD e']
            exact ht.envs i x hi hx'

theorem evOne_eq {call : Nat → List Value → Hp → KV → Prop} {o : Oper} {t : Tm} {Kt : Tm → Hp → Prop} : evOne B call o t h Kt = evOneM B call o t h Kt := by
  unfold evOne evOneM
  cases o.op <;> first
    | rfl
    | (rename_i c; obtain ⟨callee, _, _⟩ := c; cases callee <;> rfl)
    | (rename_i x _; cases x <;> rfl)
    | (rename_i x; cases x <;> rfl)
    | (rename_i _ x; cases x <;> rfl)
theorem wantedK_spec {ops : Array Oper} {t : Tm} {a : Act} {o : Oper} {K : Bool → Prop} (ht : TR ds φ t a) (hk : wantedK ops.toList t o K) : ∃ c, K c ∧ Region.wanted o (yielded ops a.tmps) = c := by
  unfold wantedK at hk
  split at hk
  · rename_i hg
    exact ⟨true, hk, by simp only [Region.wanted, hg]⟩
  · rename_i j wt hg
    obtain ⟨p, h1, h2⟩ := (nthK_iff _ _ _).1 hk
    have h1' : ops[j]? = some p := by simpa using h1
    split at h2
    · rename_i d hd
      obtain ⟨v, h3, h4⟩ := valK_spec (x := .tmp d) ht h2
      have h4' : VR φ v (a.tmps.getD d undef) := h4
      split at h3
      · rename_i b
        have e : a.tmps.getD d undef = .bool b := h4'.inv
        have e2 : a.tmps[d]? = some (.bool b) := by
          rw [Array.getD_eq_getD_getElem?] at e
          cases hh : a.tmps[d]? with
          | none => rw [hh] at e; simp [undef] at e
          | some x => rw [hh] at e; simpa using e
        have hy : yielded ops a.tmps j = some b := by simp only [yielded, h1', Option.bind_some, hd, e2]
        split at h3
        · rw [fB_eq] at h3
          exact ⟨b, h3, by simp only [Region.wanted, hg, hy]; cases b <;> rfl⟩
        · rw [fB_eq, notB_eq] at h3
          exact ⟨!b, h3, by simp only [Region.wanted, hg, hy]; cases b <;> rfl⟩
      · obtain ⟨ys, e, _⟩ := h4'.inv
        have hy : yielded ops a.tmps j = none := by
          simp only [yielded, h1', Option.bind_some, hd]
          rw [Array.getD_eq_getD_getElem?] at e
          cases hh : a.tmps[d]? with
          | none => rfl
          | some x => rw [hh] at e; simp at e; rw [e]
        exact ⟨false, h3, by simp only [Region.wanted, hg, hy]; rfl⟩
      · exact h3.elim
    · rename_i hd
      have hy : yielded ops a.tmps j = none := by simp only [yielded, h1', Option.bind_some, hd, Option.bind_none]
      exact ⟨false, h2, by simp only [Region.wanted, hg, hy]; rfl⟩

theorem wantB_spec {ops : Array Oper} {t : Tm} {a : Act} {o : Oper} {x y : Prop} (ht : TR ds φ t a) (hk : wantB ops.toList t o x y) : (x ∧ Region.wanted o (yielded ops a.tmps) = true) ∨ (y ∧ Region.wanted o (yielded ops a.tmps) = false) := by
  have e : wantB ops.toList t o x y = wantedK ops.toList t o (pickB x y) := by
    unfold wantB
    cases hg : o.guard with
    | none => unfold wantedK; rw [hg]; rfl
    | some _ => rfl
  rw [e] at hk
  obtain ⟨c, h1, h2⟩ := wantedK_spec ht hk
  cases c with
  | true => exact .inl ⟨h1, h2⟩
  | false => exact .inr ⟨h1, h2⟩

/-- The frames that are spoken of: plain ones, or those of a loop's rounds. -/
def fen (ro : Option Nat) : Fence := { Fence.wide with round := ro }
theorem callsIn_fen {ro : Option Nat} {n : Nat} {f : FuncId} {args : Array Value} {w : World} {R : Ending → World → Prop} : CallsIn (fen ro) n P f args w R ↔ Calls P f args w R := callsIn_wide (n := n)
theorem no_depth {ro : Option Nat} {p : Prop} : (fen ro).depth.isSome = true → p := fun h => by cases h

/-- What a call comes to. -/
structure CallOK (P : Program) (B : Tb) (I : Fi → Hp → World → Prop) (call : Nat → List Value → Hp → KV → Prop) : Prop where
  step : ∀ {φ φ' : Fi} {h h' : Hp} {w w' : World}, St φ h w φ' h' w' → I φ h w → I φ' h' w'
  body : ∀ {g args h K}, Nat.ble YB g = false → call g args h K → ∃ fn c, P.funcs[g]? = some fn ∧ fn.body = some c
  run : ∀ {g : Nat} {args args' : List Value} {h : Hp} {K : KV} {φ : Fi} {w : World}, Nat.ble YB g = false → WR B φ h w → I φ h w → All2 (VR φ) args args' → call g args h K →
    Calls P g args'.toArray w fun e w' => ∃ φ' h' v v', e = .returned v' ∧ VR φ' v v' ∧ WR B φ' h' w' ∧ St φ h w φ' h' w' ∧ K v h'
  yld : ∀ (ro : Option Nat) {r : Nat} {s : Sl} {args args' : List Value} {h : Hp} {K : KV} {φ : Fi} {w : World}, WR B φ h w → I φ h w → φ r = some s → All2 (VR φ) args args' → call (Nat.add YB r) args h K →
    ∃ fn tmps assign body, (Instr.yield s.b args'.toArray).run P w = .ok (.round s.b fn tmps assign body) w ∧
      RoundIn (fen ro) 0 P s.b fn tmps assign body w fun e w' => ∃ φ' h' v v', e = .returned v' ∧ VR φ' v v' ∧ WR B φ' h' w' ∧ St φ h w φ' h' w' ∧ K v h'

/-- The machine's place, and the runner's. -/
def PlR (φ : Fi) (v : Bool) (x : Value) (pl : Place) : Prop := match v with
  | true => ∃ a, pl = .var a ∧ VR φ x (.pointer (some a))
  | false => ∃ x', pl = .val x' ∧ VR φ x x'
theorem plGet_spec {t : Nat} {v : Bool} {x : Value} {pl : Place} {K : Value → Prop} (hB : TOK P B) (hw : WR B φ h w) (hp : PlR φ v x pl) (hk : plGet B h t v x K) : ∃ y y', K y ∧ VR φ y y' ∧ (pl.get t).run P w = .ok y' w := by
  unfold plGet at hk
  split at hk
  · obtain ⟨a, rfl, ha⟩ := hp
    obtain ⟨y, y', h1, h2, h3⟩ := loadK_spec hB hw ha hk
    exact ⟨y, y', h1, h2, h3⟩
  · obtain ⟨x', rfl, hx⟩ := hp
    exact ⟨x, x', hk, hx, rfl⟩
theorem faK_spec {s : FieldStep} {x x' : Value} {K : Nat → Value → Prop} (hB : TOK P B) (hx : VR φ x x') (hk : faK B s x K) :
    ∃ fs f a a' y, x' = .pointer (some a) ∧ P.underlying s.struct = some (.struct fs) ∧ fs[s.index]? = some f ∧ (fieldPlace a f).run P w = .ok a' w ∧ VR φ y (.pointer (some a')) ∧ K f.type y := by
  obtain ⟨i, h1, h2⟩ := tyK_spec hk
  obtain ⟨d, h3, h4⟩ := (hB.ok s.struct i h1).under
  split at h2
  · rename_i fs hki
    obtain ⟨fs', rfl, h5⟩ := kd_struct hki h4
    split at h2
    · rename_i r o
      obtain ⟨q, h6, rfl⟩ := hx.inv
      obtain ⟨fd, h7, h8⟩ := (nthK_iff _ _ _).1 h2
      obtain ⟨fd', h9, h10, h11, _⟩ := h5.get s.index fd h7
      obtain ⟨j, h12, h13⟩ := tyK_spec h8
      split at h13
      · exact h13.elim
      · rename_i m hsz
        rw [fN_eq] at h13
        have h9' : fs'[s.index]? = some fd' := by simpa using h9
        have hj := (hB.ok fd.type j h12).size (w := w)
        have hne : ¬ j.size = 0 := by omega
        refine ⟨fs', fd', _, ⟨q.b, q.base + (o + fd.offset), none⟩, ptr r (o + fd.offset), rfl, h3, h9', ?_, ptr_vr h6, by rw [h10]; exact h13⟩
        simp only [fieldPlace, h10, Sem.run_bind, hj, Result.andThen_ok, hne, if_false, h11, add_plain, Nat.add_assoc, Sem.run_pure]
    · exact h2.elim
  · exact h2.elim
theorem fvK_spec {s : FieldStep} {x x' : Value} {K : Nat → Value → Prop} (hB : TOK P B) (hx : VR φ x x') (hk : fvK B s x K) :
    ∃ fs f cs y y', x' = .agg cs ∧ P.underlying s.struct = some (.struct fs) ∧ fs[s.index]? = some f ∧ (part f.type cs f.offset).run P w = .ok y' w ∧ VR φ y y' ∧ K f.type y := by
  obtain ⟨i, h1, h2⟩ := tyK_spec hk
  obtain ⟨d, h3, h4⟩ := (hB.ok s.struct i h1).under
  split at h2
  · rename_i fs hki
    obtain ⟨fs', rfl, h5⟩ := kd_struct hki h4
    split at h2
    · rename_i cs
      obtain ⟨ys, rfl, h6⟩ := hx.inv
      obtain ⟨fd, h7, h8⟩ := (nthK_iff _ _ _).1 h2
      obtain ⟨fd', h9, h10, h11, _⟩ := h5.get s.index fd h7
      obtain ⟨j, h12, h13⟩ := tyK_spec h8
      rw [dropK_iff] at h13
      obtain ⟨v, v', g1, g2, g3, g4⟩ := ofCellsK_spec (All2.drop fd.offset h6) h13.2
      have h9' : fs'[s.index]? = some fd' := by simpa using h9
      have hp := part_run (P := P) (w := w) (cs := ys) (off := fd.offset) (v' := v') (hB.ok fd.type j h12) g3 fun h => (g4 h).1
      exact ⟨fs', fd', ys, v, v', rfl, h3, h9', by rw [h10, h11]; exact hp, g2, by rw [h10]; exact g1⟩
    · exact h2.elim
  · exact h2.elim
theorem followK_spec (hB : TOK P B) (hw : WR B φ h w) : ∀ {path : List FieldStep} {t : Nat} {v : Bool} {x : Value} {pl : Place} {K : Nat → Bool → Value → Prop}, PlR φ v x pl → followK B h path t v x K →
    ∃ t' v' x' pl', (follow path t pl).run P w = .ok (t', pl') w ∧ PlR φ v' x' pl' ∧ K t' v' x'
  | [], t, v, x, pl, _, hp, hk => ⟨t, v, x, pl, rfl, hp, hk⟩
  | s :: path, t, v, x, pl, K, hp, hk => by
    have hk' : followStep B h s (fun t v x => followK B h path t v x K) t v x := hk
    unfold followStep at hk'
    split at hk'
    · rename_i hd
      obtain ⟨p, p', h1, h2, h3⟩ := plGet_spec hB hw hp hk'
      obtain ⟨fs, f, a, a', y, rfl, k2, k3, k4, k5, k6⟩ := faK_spec (P := P) (w := w) hB h2 h1
      obtain ⟨t2, v2, x2, pl2, q1, q2, q3⟩ := followK_spec hB hw (v := true) (pl := .var a') ⟨a', rfl, k5⟩ k6
      refine ⟨t2, v2, x2, pl2, ?_, q2, q3⟩
      simp only [follow, Sem.run_bind, run_underlying k2, Result.andThen_ok, k3, hd, if_true, h3, asAddr, Sem.run_pure, k4, q1]
    · rename_i hd
      split at hk'
      · obtain ⟨a0, rfl, ha⟩ := hp
        obtain ⟨fs, f, a, a', y, e, k2, k3, k4, k5, k6⟩ := faK_spec (P := P) (w := w) hB ha hk'
        cases e
        obtain ⟨t2, v2, x2, pl2, q1, q2, q3⟩ := followK_spec hB hw (v := true) (pl := .var a') ⟨a', rfl, k5⟩ k6
        refine ⟨t2, v2, x2, pl2, ?_, q2, q3⟩
        simp only [follow, Sem.run_bind, run_underlying k2, Result.andThen_ok, k3, hd, Bool.false_eq_true, if_false, k4, q1]
      · obtain ⟨x0, rfl, hx⟩ := hp
        obtain ⟨fs, f, cs, y, y', rfl, k2, k3, k4, k5, k6⟩ := fvK_spec (P := P) (w := w) hB hx hk'
        obtain ⟨t2, v2, x2, pl2, q1, q2, q3⟩ := followK_spec hB hw (v := false) (pl := .val y') ⟨y', rfl, k5⟩ k6
        refine ⟨t2, v2, x2, pl2, ?_, q2, q3⟩
        simp only [follow, Sem.run_bind, run_underlying k2, Result.andThen_ok, k3, hd, Bool.false_eq_true, if_false, k4, q1]
theorem recvK_spec {t : Nat} {v p : Bool} {x : Value} {pl : Place} {K : Value → Prop} (hB : TOK P B) (hw : WR B φ h w) (hp : PlR φ v x pl) (hk : recvK B h t v x p K) (nm : Option String) :
    ∃ r r', K r ∧ VR φ r r' ∧ (receiverAt t pl p nm).run P w = .ok r' w := by
  obtain ⟨i, h1, h2⟩ := tyK_spec hk
  obtain ⟨d, h3, h4⟩ := (hB.ok t i h1).under
  split at h2
  · rename_i e hki
    have hd : d = .pointer e := by rw [hki] at h4; exact h4
    subst hd
    split at h2
    · obtain ⟨y, y', q1, q2, q3⟩ := plGet_spec hB hw hp h2
      refine ⟨y, y', q1, q2, ?_⟩
      simp only [receiverAt, Sem.run_bind, run_underlying h3, Result.andThen_ok, q3]
    · obtain ⟨y, y', q1, q2, q3⟩ := plGet_spec hB hw hp h2
      obtain ⟨z, z', q4, q5, q6⟩ := loadK_spec hB hw q2 q1
      refine ⟨z, z', q4, q5, ?_⟩
      unfold loadK at q1
      split at q1
      · obtain ⟨s, _, rfl⟩ := q2.inv
        cases nm with
        | none =>
          simp only [receiverAt, Sem.run_bind, run_underlying h3, Result.andThen_ok, q3, Sem.run_pure, asAddr]
          exact q6
        | some nm =>
          simp only [receiverAt, Sem.run_bind, run_underlying h3, Result.andThen_ok, q3, Sem.run_pure, asAddr]
          exact q6
      · have e := q2.inv
        simp only [Sh] at e
        subst e
        cases nm with
        | none =>
          simp only [receiverAt, Sem.run_bind, run_underlying h3, Result.andThen_ok, q3, Sem.run_pure, asAddr]
          exact q6
        | some nm =>
          simp only [receiverAt, Sem.run_bind, run_underlying h3, Result.andThen_ok, q3, Sem.run_pure, asAddr]
          exact q6
      · exact q1.elim
  · rename_i hnp
    have hd : ∀ e, d ≠ .pointer e := fun e q => by
      subst q
      unfold Kd at h4
      split at h4 <;> first
        | (cases h4; done)
        | (rename_i hki; cases h4; exact hnp _ hki)
        | (obtain ⟨_, q, _⟩ := h4; cases q; done)
        | (obtain ⟨_, q⟩ := h4; cases q; done)
        | (obtain ⟨_, _, _, q⟩ := h4; cases q)
    split at h2
    · split at h2
      · obtain ⟨a, rfl, ha⟩ := hp
        refine ⟨x, _, h2, ha, ?_⟩
        simp only [receiverAt, Sem.run_bind, run_underlying h3, Result.andThen_ok]
        rfl
      · exact h2.elim
    · obtain ⟨y, y', q1, q2, q3⟩ := plGet_spec hB hw hp h2
      refine ⟨y, y', q1, q2, ?_⟩
      simp only [receiverAt, Sem.run_bind, run_underlying h3, Result.andThen_ok, q3]
theorem findM_spec {name : String} : ∀ {l : List Mt} {m : Mt}, findM name l = some m → m ∈ l ∧ m.name = name
  | [], _, h => by cases h
  | x :: l, m, h => by
    simp only [findM] at h
    split at h
    · rename_i hb
      cases h
      exact ⟨by simp, by simpa using hb⟩
    · obtain ⟨h1, h2⟩ := findM_spec h
      exact ⟨by simp [h1], h2⟩
theorem invK_spec {name : String} {x x' : Value} {K : Nat → Value → Prop} (hB : TOK P B) (hw : WR B φ h w) (hx : VR φ x x') (hk : invK B h name x K) :
    ∃ g r r' t v, K g r ∧ VR φ r r' ∧ x' = .iface t v ∧ ∀ n, (method (n + 1) t v name).run P w = .ok (g, r') w := by
  unfold invK at hk
  split at hk
  · rename_i t v
    obtain ⟨v', rfl, hv⟩ := hx.inv
    obtain ⟨i, h1, h2⟩ := tyK_spec hk
    split at h2
    · rename_i m hm
      obtain ⟨g1, g2⟩ := findM_spec hm
      obtain ⟨ti, m', k1, k2, k3, k4⟩ := (hB.ok t i h1).mets m g1
      rw [g2] at k2
      obtain ⟨t2, b2, x2, pl2, q1, q2, q3⟩ := followK_spec hB hw (v := false) (pl := .val v') ⟨v', rfl, hv⟩ h2
      obtain ⟨r, r', r1, r2, r3⟩ := recvK_spec (P := P) hB hw q2 q3 (if m'.path.isEmpty then some ((name.splitOn ".").getLastD name) else none)
      refine ⟨m.f, r, r', t, v', r1, r2, rfl, fun n => ?_⟩
      unfold method
      simp only [Sem.run_bind, typeInfo, run_program, Result.andThen_ok, k1, Sem.run_pure, k2, k3, q1, k4, r3]
    · exact h2.elim
  · exact hk.elim

/-- One operation. -/
theorem evOne_spec {ro : Option Nat} {call : Nat → List Value → Hp → KV → Prop} {o : Oper} {t : Tm} {a : Act} {Kt : Tm → Hp → Prop} {next : Act → World → Prop} {Q : Exit → Act → World → Prop} {I : Fi → Hp → World → Prop} (hB : TOK P B) (hc : CallOK P B I call) (hw : WR B φ h w) (hi : I φ h w) (ht : TR ds φ t a)
    (hk : evOne B call o t h Kt) (hn : ∀ φ' t' h' u w', TR ds φ' t' (a.put o.dst u) → WR B φ' h' w' → St φ h w φ' h' w' → Kt t' h' → next (a.put o.dst u) w') : o.wpIn (fen ro) 0 P a w next Q := by
  have hsem : o.semAt ro a.eval = execOp a.eval o := Oper.semAt_eq ro _ _ fun c hc => by
    unfold evOne at hk
    rw [hc] at hk
    exact hk
  refine ⟨fun _ _ => trivial, ?_⟩
  change o.uponIn (fen ro) 0 P a next Q ((o.semAt ro a.eval).run P w)
  rw [hsem]
  have fin : ∀ {K : KV} (_ : DoneN B φ h w ((execOp a.eval o).run P w) K) (_ : ∀ v h, K v h → tmPut t o.dst v fun t => Kt t h), o.uponIn (fen ro) 0 P a next Q ((execOp a.eval o).run P w) := fun hd hK => by
    obtain ⟨n, φ', h', w', v, v', h1, h2, h3, h4, h5, h6⟩ := hd
    rw [h1]
    obtain ⟨t', h7, h8⟩ := tmPut_spec (ht.mono h5.ext) h3 (hK v h' h6)
    rcases h2 with rfl | ⟨rfl, rfl⟩
    · exact hn φ' t' h' _ w' h8 h4 h5 h7
    · exact hn φ' t' h' _ w' h8 h4 h5 h7
  rw [evOne_eq] at hk
  unfold evOneM at hk
  split at hk
  · rename_i c hop
    split at hk
    · rename_i f hcal
      obtain ⟨fv, h1, h2⟩ := valK_spec ht hk
      split at h1
      · rename_i g first cap
        split at h1
        · exact h1.elim
        rename_i hyb
        obtain ⟨first', cap', he, h3, h4⟩ := h2.inv
        obtain ⟨vs, h5, h6⟩ := valsK_spec ht h1
        rw [appK_eq, appK_eq] at h5
        obtain ⟨fn, cd, hfn, hbd⟩ := hc.body hyb h5
        have hargs : All2 (VR φ) (first.toList ++ (vs ++ cap.toList)) (first'.toList ++ (c.args.toList.map a.eval ++ cap'.toList)) := h3.app (h6.app h4)
        have hcalls := hc.run hyb hw hi hargs h5
        have hrun : (execOp a.eval o).run P w = .ok (.enter g (first'.toList ++ (c.args.toList.map a.eval ++ cap'.toList)).toArray) w := by
          simp only [execOp, hop, Sem.run_bind, resolve, hcal, Deferred.ofValue, he, Sem.run_pure, Result.andThen_ok, invoke]
          rw [hB.calls g fn cd hfn hbd]
          congr 2
          apply Array.ext'
          simp
        rw [hrun]
        refine ⟨no_depth, callsIn_fen.2 (Calls.mono hcalls ?_)⟩
        rintro e w' ⟨φ', h', v, v', rfl, k1, k2, k3, k4⟩
        obtain ⟨t', k5, k6⟩ := tmPut_spec (ht.mono k3.ext) k1 k4
        exact hn φ' t' h' _ w' k6 k2 k3 k5
      · rename_i r
        obtain ⟨s, hs, he⟩ := h2.inv
        obtain ⟨vs, h5, h6⟩ := valsK_spec ht h1
        obtain ⟨fn, tmps, assign, body, hy1, hy2⟩ := hc.yld ro hw hi hs h6 h5
        have hrun : (execOp a.eval o).run P w = .ok (.round s.b fn tmps assign body) w := by
          simp only [execOp, hop, Sem.run_bind, resolve, hcal, Deferred.ofValue, he, Sem.run_pure, Result.andThen_ok, invoke]
          rw [← hy1]
          congr 2
          apply Array.ext'
          simp
        rw [hrun]
        refine ⟨no_depth, RoundIn.mono hy2 ?_⟩
        rintro e w' ⟨φ', h', v, v', rfl, k1, k2, k3, k4⟩
        obtain ⟨t', k5, k6⟩ := tmPut_spec (ht.mono k3.ext) k1 k4
        exact hn φ' t' h' _ w' k6 k2 k3 k5
      · exact h1.elim
    · rename_i b hcal
      obtain ⟨vs, h5, h6⟩ := valsK_spec ht hk
      have := oBuiltin_spec (ty := o.type) (cs := c.args.map fun | .const _ => true | _ => false) hB hw h6 h5
      refine fin (K := fun v h => tmPut t o.dst v fun t => Kt t h) ?_ fun v h hk => hk
      have he : (execOp a.eval o).run P w = (builtin b c.argTypes o.type (c.args.map fun | .const _ => true | _ => false) (c.args.toList.map a.eval).toArray).run P w := by
        simp only [execOp, hop, Sem.run_bind, resolve, hcal, Sem.run_pure, Result.andThen_ok, invoke]
        congr 2
        apply Array.ext'
        simp
      rw [he]
      exact this
    · rename_i x m hcal
      obtain ⟨v, h1, h2⟩ := valK_spec ht hk
      obtain ⟨vs, h5, h6⟩ := valsK_spec ht h1
      obtain ⟨g, r, r', ti, vi, k1, k2, k3, k4⟩ := invK_spec hB hw h2 h5
      split at k1
      · exact k1.elim
      rename_i hyb
      obtain ⟨fn, cd, hfn, hbd⟩ := hc.body hyb k1
      have hcalls := hc.run (args := r :: vs) (args' := r' :: c.args.toList.map a.eval) hyb hw hi ⟨k2, h6⟩ k1
      have hrun : (execOp a.eval o).run P w = .ok (.enter g (r' :: c.args.toList.map a.eval).toArray) w := by
        have k5 := k4 (P.types.size + 99)
        simp only [execOp, hop, Sem.run_bind, resolve, hcal, Sem.run_pure, Result.andThen_ok, invoke, k3]
        have e0 : (#[Value.iface ti vi] ++ Array.map a.eval c.args)[0]? = some (.iface ti vi) := by rw [Array.getElem?_append_left (by simp)]; rfl
        rw [e0]
        simp only [callMethod, Sem.run_bind, run_program, Result.andThen_ok, Made.depth]
        rw [show P.types.size + 100 = P.types.size + 99 + 1 from rfl, k5]
        simp only [Result.andThen_ok]
        rw [hB.calls g fn cd hfn hbd]
        refine congrArg (fun l => Result.ok (Next.enter g l) w) ?_
        apply Array.ext'
        simp only [Array.toList_append, Array.toList_extract, Array.toList_map]
        simp
        exact List.take_of_length_le (by simp)
      rw [hrun]
      refine ⟨no_depth, callsIn_fen.2 (Calls.mono hcalls ?_)⟩
      rintro e w' ⟨φ', h', v, v', rfl, k1, k2, k3, k4⟩
      obtain ⟨t', k5, k6⟩ := tmPut_spec (ht.mono k3.ext) k1 k4
      exact hn φ' t' h' _ w' k6 k2 k3 k5
  · exact fin (evOp_spec hB hw ht (by rw [evOp_eq]; exact hk)) fun v h hk => hk

theorem oBuiltin_read {b : Builtin} {ts : Array Nat} {ty : Nat} {cs : Array Bool} {vs : List Value} {vs' : List Value} (hB : TOK P B) (hw : WR B φ h w) (hv : All2 (VR φ) vs vs') (hr : readsB b = true) (hk : oBuiltin B b ts.toList vs h K) :
    DoneRN B φ h w ((builtin b ts ty cs vs'.toArray).run P w) K := by
  obtain ⟨ts⟩ := ts
  unfold oBuiltin at hk
  split at hk
  · rename_i x
    cases vs' with
    | nil => exact hv.elim
    | cons x' l =>
      obtain ⟨hx, hl⟩ := hv
      cases hl
      split at hk
      · rename_i t hts
        have hts' : ts = [t] := hts
        subst hts'
        split at hk
        · exact (oLen_spec hB hw hx hk).value
        · exact (oCap_spec hB hw hx hk).value
        · exact (oSliceData_spec hw hx hk).value
        · exact hk.elim
      · exact hk.elim
  · rename_i x y
    cases vs' with
    | nil => exact hv.elim
    | cons x' l =>
      obtain ⟨hx, hl⟩ := hv
      cases l with
      | nil => exact hl.elim
      | cons y' l =>
        obtain ⟨hy, hl⟩ := hl
        cases hl
        split at hk
        · rename_i t u hts
          have hts' : ts = [t, u] := hts
          subst hts'
          split at hk
          · cases hr
          · exact (oMin_spec hw hx hy hk).value
          · exact (oMax_spec hw hx hy hk).value
          · cases hr
          · cases hr
          · exact hk.elim
        · exact hk.elim
  · exact hk.elim

/-- One operation that reads alone. -/
theorem evRd_spec {call : Nat → List Value → Hp → KV → Prop} {o : Oper} {t : Tm} {a : Act} {Kt : Tm → Hp → Prop} (hB : TOK P B) (hw : WR B φ h w) (ht : TR ds φ t a) (hr : readsO o = true)
    (hk : evOne B call o t h Kt) : ∃ v v', (execOp a.eval o).run P w = .ok (.value v') w ∧ VR φ v v' ∧ tmPut t o.dst v fun t => Kt t h := by
  rw [evOne_eq] at hk
  unfold evOneM at hk
  unfold readsO at hr
  split at hk
  · rename_i c hop
    rw [hop] at hr
    simp only at hr
    split at hk
    · rename_i f hcal
      rw [hcal] at hr
      cases hr
    · rename_i b hcal
      rw [hcal] at hr
      obtain ⟨vs, h5, h6⟩ := valsK_spec ht hk
      obtain ⟨v, v', q1, q2, _, q4⟩ := oBuiltin_read (ty := o.type) (cs := c.args.map fun | .const _ => true | _ => false) hB hw h6 hr h5
      refine ⟨v, v', ?_, q2, q4⟩
      have he : (execOp a.eval o).run P w = (builtin b c.argTypes o.type (c.args.map fun | .const _ => true | _ => false) (c.args.toList.map a.eval).toArray).run P w := by
        simp only [execOp, hop, Sem.run_bind, resolve, hcal, Sem.run_pure, Result.andThen_ok, invoke]
        congr 2
        apply Array.ext'
        simp
      rw [he]
      exact q1
    · rename_i x m hcal
      rw [hcal] at hr
      cases hr
  · rename_i hop
    have hr' : reads o.op = true := by
      split at hr
      · rename_i c hc
        exact absurd hc (hop c)
      · exact hr
    obtain ⟨v, v', q1, q2, _, q4⟩ := evRead_spec hB hw ht hr' (by rw [evOp_eq]; exact hk)
    exact ⟨v, v', q1, q2, q4⟩

/-- Operations one behind the other. -/
theorem evOps_spec {ro : Option Nat} {call : Nat → List Value → Hp → KV → Prop} {ops : Array Oper} {K : KE} {Q : Exit → Act → World → Prop} {I : Fi → Hp → World → Prop} (hB : TOK P B) (hc : CallOK P B I call) : ∀ (l : List Oper) (φ : Fi) (t : Tm) (h : Hp) (a : Act) (w : World), WR B φ h w → I φ h w → TR ds φ t a → evOps B call ops.toList l t h K →
    (∀ φ' t' h' a' w', TR ds φ' t' a' → WR B φ' h' w' → St φ h w φ' h' w' → K .normal t' h' → Q .normal a' w') → wpListIn (fen ro) 0 P ops Q l a w
  | [], φ, t, h, a, w, hw, hi, ht, hk, hq => hq φ t h a w ht hw (St.refl _ _ _) hk
  | o :: l, φ, t, h, a, w, hw, hi, ht, hk, hq => by
    have hk' : wantB ops.toList t o (evOne B call o t h fun t h => evOps B call ops.toList l t h K) (tmPut t o.dst undef fun t => evOps B call ops.toList l t h K) := hk
    unfold wpListIn
    rcases wantB_spec ht hk' with ⟨h1, h2⟩ | ⟨h1, h2⟩
    · rw [if_pos h2]
      exact evOne_spec hB hc hw hi ht h1 fun φ' t' h' u w' q1 q2 q3 q4 => evOps_spec hB hc l φ' t' h' _ w' q2 (hc.step q3 hi) q1 q4 fun φ2 t2 h2 a2 w2 r1 r2 r3 r4 => hq φ2 t2 h2 a2 w2 r1 r2 (q3.trans r3) r4
    · rw [if_neg (by rw [h2]; simp)]
      obtain ⟨t', h3, h4⟩ := tmPut_spec ht undef_vr h1
      exact ⟨fun _ _ => trivial, evOps_spec hB hc l φ t' h _ w hw hi h4 h3 hq⟩
end

end Rn
end Go.Proofs.YtllbjkeahafleaaGreatDoor
