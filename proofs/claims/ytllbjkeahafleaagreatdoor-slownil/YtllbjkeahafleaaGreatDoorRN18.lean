/-
  What the runner says of the machine: functions, code.
-/
import Derived.Test.YtllbjkeahafleaaGreatDoorRN26
import Derived.Scope
import Derived.RangeFuncRecord
import Derived.ControlIn
set_option linter.unusedSimpArgs false
namespace Go.Proofs.YtllbjkeahafleaaGreatDoor
namespace Rn

section
variable {P : Program} {B : Tb} {φ : Fi} {h : Hp} {w : World} {K : KV} {ds : List Deferred}

theorem argK_spec {K : Option (T Value) → Prop} : ∀ {args : List Value} {n : Nat} {t : Option (T Value)}, n + args.length ≤ 1000000 → argK n args t K → ∃ t', K t' ∧ ∀ i, tget W t' i = if n ≤ i ∧ i < n + args.length then args[i - n]? else tget W t i
  | [], n, t, _, hk => ⟨t, hk, fun i => by rw [if_neg (by simp only [List.length_nil]; omega)]⟩
  | v :: args, n, t, hl, hk => by
    have hk' : tputK W t n (some v) fun t => fN (Nat.succ n) fun n => argK n args t K := hk
    rw [tputK_eq, fN_eq] at hk'
    simp only [List.length_cons] at hl
    obtain ⟨t', h1, h2⟩ := argK_spec (n := n + 1) (by omega) hk'
    refine ⟨t', h1, fun i => ?_⟩
    rw [h2 i, tget_tput _ _ _ _ _ (w_fits (by simp only [MOST]; omega))]
    simp only [List.length_cons]
    by_cases e : i = n
    · subst e
      rw [if_neg (by omega), if_pos rfl, if_pos (by omega), Nat.sub_self]
      rfl
    · by_cases e2 : n + 1 ≤ i ∧ i < n + 1 + args.length
      · rw [if_pos e2, if_pos (by omega), show i - n = (i - (n + 1)) + 1 by omega]
        rfl
      · rw [if_neg e2, if_neg e, if_neg (by omega)]

theorem resultsK_spec {t : Tm} {a : Act} (hB : TOK P B) (hw : WR B φ h w) (ht : TR ds φ t a) : ∀ {rs : List ResultVar} {K : List Value → Prop}, resultsK B t h rs K → ∃ l l', K l ∧ All2 (VR φ) l l' ∧ (rs.mapM fun
      | .tmp t => pure (a.tmps.getD t undef)
      | .cell x ty => do loadVar ty (← asAddr (a.tmps.getD x undef)) : Sem (List Value)).run P w = .ok l' w
  | [], K, hk => ⟨[], [], hk, rfl, rfl⟩
  | x :: rs, K, hk => by
    cases x with
    | tmp x =>
      have hk' : valK t (.tmp x) fun v => resultsK B t h rs fun l => K (v :: l) := hk
      obtain ⟨v, h1, h2⟩ := valK_spec ht hk'
      obtain ⟨l, l', h3, h4, h5⟩ := resultsK_spec hB hw ht h1
      refine ⟨v :: l, a.tmps.getD x undef :: l', h3, ⟨h2, h4⟩, ?_⟩
      simp only [List.mapM_cons, Sem.run_bind, Sem.run_pure, Result.andThen_ok, h5]
    | cell x ty =>
      have hk' : valK t (.tmp x) fun a => loadK B h ty a fun v => resultsK B t h rs fun l => K (v :: l) := hk
      obtain ⟨v, h1, h2⟩ := valK_spec ht hk'
      have h2' : VR φ v (a.tmps.getD x undef) := h2
      obtain ⟨u, u', g1, g2, g3⟩ := loadK_spec hB hw h2' h1
      obtain ⟨l, l', h3, h4, h5⟩ := resultsK_spec hB hw ht g1
      refine ⟨u :: l, u' :: l', h3, ⟨g2, h4⟩, ?_⟩
      have hld : (do loadVar ty (← asAddr (a.tmps.getD x undef)) : Sem Value).run P w = .ok u' w := by
        unfold loadK at h1
        split at h1
        · obtain ⟨s, _, e⟩ := h2'.inv
          rw [e] at g3 ⊢
          exact g3
        · have e := h2'.inv
          simp only [Sh] at e
          rw [e] at g3 ⊢
          exact g3
        · exact h1.elim
      simp only [List.mapM_cons, Sem.run_bind] at hld ⊢
      rw [hld]
      simp only [Result.andThen_ok, h5, Sem.run_pure]

theorem run_mapped {s : Sem (List Value)} (w : World) (g : Array Value → Value) : ((do let vs ← List.toArray <$> s; pure (g vs)) : Sem Value).run P w = (s.run P w).andThen fun l w => .ok (g l.toArray) w := by simp
theorem retK_spec {t : Tm} {a : Act} {fn : Func} (hB : TOK P B) (hw : WR B φ h w) (ht : TR ds φ t a) (hk : retK B fn.results.toList t h K) : ∃ v v', K v h ∧ VR φ v v' ∧ (results fn a.tmps).run P w = .ok v' w := by
  obtain ⟨l, l', h1, h2, h3⟩ := resultsK_spec hB hw ht hk
  have hrun : (results fn a.tmps).run P w = .ok (if hh : l'.toArray.size = 1 then l'.toArray[0] else .tuple l'.toArray) w := by
    unfold results
    rw [Array.mapM_eq_mapM_toList]
    exact (run_mapped _ (fun vs => if hh : vs.size = 1 then vs[0] else .tuple vs)).trans (congrArg (fun r => Result.andThen r fun l w => .ok (if hh : l.toArray.size = 1 then l.toArray[0] else .tuple l.toArray) w) h3)
  have hl := h2.length
  split at h1
  · rename_i v
    cases l' with
    | nil => simp at hl
    | cons v' l' =>
      cases l' with
      | nil => exact ⟨v, v', h1, h2.1, by rw [hrun]; rfl⟩
      | cons _ _ => simp at hl
  · have : l' = [] := List.eq_nil_of_length_eq_zero hl
    subst this
    exact ⟨_, _, h1, tuple_vr h2, by rw [hrun]; rfl⟩
  · rename_i x y l0
    have hne : ¬ l'.toArray.size = 1 := by simp at hl ⊢; omega
    exact ⟨_, .tuple l'.toArray, h1, tuple_vr h2, by rw [hrun, dif_neg hne]⟩
/-- All plans are those of the program's regions. -/
def PlansOK (P : Program) (G : Plans) : Prop := ∀ (g : Nat) (fn : Func) (c : Code), P.funcs[g]? = some fn → fn.body = some c → legalCode G g c = true
/-- The marks of loops over functions: each names a block. -/
def mks (M : List Nat) : List Deferred := M.map fun D => { target := .collected D, args := #[] }
/-- The blocks that the marks name: made since the call began, as they were made, named by no row. -/
structure MsOK (φ : Fi) (h : Hp) (w : World) (b0 : Nat) (M : List Nat) : Prop where
  nodup : M.Nodup
  base : b0 ≤ w.heap.size
  each : ∀ D ∈ M, b0 ≤ D ∧ w.heap[D]? = some (.deferred (some [])) ∧ Spare φ h D
theorem MsOK.step {φ' : Fi} {h' : Hp} {w' : World} {b0 : Nat} {M : List Nat} (g : MsOK φ h w b0 M) (hs : St φ h w φ' h' w') : MsOK φ' h' w' b0 M := by
  refine ⟨g.nodup, Nat.le_trans g.base hs.size, fun D hD => ?_⟩
  obtain ⟨h1, h2, h3⟩ := g.each D hD
  obtain ⟨k1, k2, k3⟩ := hs.spare (Array.getElem?_eq_some_iff.1 h2).1 h3
  exact ⟨h1, by rw [k1]; exact h2, k3⟩
/-- A frame, with its marks. -/
def TM (b0 : Nat) (φ : Fi) (t : Tm) (h : Hp) (a : Act) (w : World) : Prop := ∃ M, TR (mks M) φ t a ∧ MsOK φ h w b0 M
/-- Another thing in a block that no row names. -/
theorem WR.other {D : Nat} {o : Obj} (hw : WR B φ h w) (hs : Spare φ h D) : WR B φ h (w.putObj D o) := by
  refine ⟨fun r x hx => ?_, hw.apart, hw.below, hw.live, hw.few, hw.low⟩
  obtain ⟨s, h1, h2⟩ := hw.rows r x hx
  exact ⟨s, h1, h2.keep (fun _ _ g => g) (by simp) (World.putObj_heap_other (hs r x s hx h1))⟩
theorem St.other {φ0 : Fi} {h0 : Hp} {w0 : World} {D : Nat} {o : Obj} (g : St φ0 h0 w0 φ h w) (hD : w0.heap.size ≤ D) : St φ0 h0 w0 φ h (w.putObj D o) := by
  refine ⟨g.ext, by simpa using g.size, fun b hb hn => ?_, g.new, ⟨g.sm.1, g.sm.2.1, g.sm.2.2⟩, g.lo, fun r x s hr hx hs hb => ?_⟩
  · rw [World.putObj_heap_other (by omega)]
    exact g.keep b hb hn
  · obtain ⟨k1, k2⟩ := g.still r x s hr hx hs hb
    refine ⟨k1, ?_⟩
    rw [World.putObj_heap_other (by omega)]
    exact k2
/-- A function is left: its marks are taken away. -/
theorem leaves {fn : Func} {tmps : Array Value} {R : Ending → World → Prop} {φ0 : Fi} {h0 : Hp} {w0 : World} (hr : ∀ w', WR B φ h w' → St φ0 h0 w0 φ h w' → ∃ v, (results fn tmps).run P w' = .ok v w' ∧ R (.returned v) w') :
    ∀ (M : List Nat) (w : World), MsOK φ h w w0.heap.size M → WR B φ h w → St φ0 h0 w0 φ h w → LeavesInM (fen none) 0 P fn tmps R (mks M) .returning w
  | [], w, _, hw, hst => hr w hw hst
  | D :: M, w, hm, hw, hst => by
    obtain ⟨h1, h2, h3⟩ := hm.each D (by simp)
    have hnd := List.nodup_cons.1 hm.nodup
    refine ⟨by simp, .inl ⟨D, w.putObj D (.deferred none), rfl, run_takeDeferred h2, ?_⟩⟩
    refine leaves hr M _ ⟨hnd.2, by simpa using hm.base, fun D' hD' => ?_⟩ (hw.other h3) (hst.other h1)
    obtain ⟨k1, k2, k3⟩ := hm.each D' (by simp [hD'])
    refine ⟨k1, ?_, k3⟩
    have hne : D' ≠ D := fun e => hnd.1 (e ▸ hD')
    rw [World.putObj_heap_other hne]
    exact k2
theorem MsOK.put {b0 l : Nat} {M : List Nat} {o : Obj} (g : MsOK φ h w b0 M) (hl : l < b0) : MsOK φ h (w.putObj l o) b0 M := by
  refine ⟨g.nodup, by simpa using g.base, fun D hD => ?_⟩
  obtain ⟨h1, h2, h3⟩ := g.each D hD
  refine ⟨h1, ?_, h3⟩
  rw [World.putObj_heap_other (by omega)]
  exact h2
/-- The loops that are open: where each one's record lies, what it holds, the frame in which it stands. -/
def YM : YE → List (Loop × Tm) → Fi → Hp → World → Prop
  | [], _ => fun _ _ _ => True
  | _ :: _, [] => fun _ _ _ => False
  | p :: Y, q :: Rs => fun φ h w => (∃ s, φ p.1 = some s ∧ w.heap[s.b]? = some (.loop q.1) ∧ Spare φ h s.b ∧ TR [] φ q.2 ⟨q.1.tmps, []⟩ ∧ ∀ p' ∈ Y, ∃ s', φ p'.1 = some s' ∧ s'.b ≠ s.b) ∧ YM Y Rs φ h w
theorem YM.step {φ' : Fi} {h' : Hp} {w' : World} (hs : St φ h w φ' h' w') : ∀ {Y : YE} {Rs : List (Loop × Tm)}, YM Y Rs φ h w → YM Y Rs φ' h' w'
  | [], _, _ => trivial
  | _ :: _, [], g => g.elim
  | p :: Y, q :: Rs, ⟨⟨s, h1, h2, h3, h4, h5⟩, g⟩ => by
    obtain ⟨k1, k2, k3⟩ := hs.spare (Array.getElem?_eq_some_iff.1 h2).1 h3
    refine ⟨⟨s, hs.ext _ _ h1, by rw [k1]; exact h2, k3, h4.mono hs.ext, fun p' hp => ?_⟩, YM.step hs g⟩
    obtain ⟨s', q1, q2⟩ := h5 p' hp
    exact ⟨s', hs.ext _ _ q1, q2⟩
theorem YM.lt : ∀ {Y : YE} {Rs : List (Loop × Tm)}, YM Y Rs φ h w → ∀ p ∈ Y, ∃ s, φ p.1 = some s ∧ s.b < w.heap.size
  | [], _, _, p, hp => by cases hp
  | _ :: _, [], g, _, _ => g.elim
  | p :: Y, q :: Rs, ⟨⟨s, h1, h2, _⟩, g⟩, p', hp => by
    rcases List.mem_cons.1 hp with rfl | hp
    · exact ⟨s, h1, (Array.getElem?_eq_some_iff.1 h2).1⟩
    · exact YM.lt g p' hp
/-- Another thing in a block that is no such loop's. -/
theorem YM.put {l : Nat} {o : Obj} : ∀ {Y : YE} {Rs : List (Loop × Tm)}, YM Y Rs φ h w → (∀ p ∈ Y, ∃ s, φ p.1 = some s ∧ s.b ≠ l) → YM Y Rs φ h (w.putObj l o)
  | [], _, _, _ => trivial
  | _ :: _, [], g, _ => g.elim
  | p :: Y, q :: Rs, ⟨⟨s, h1, h2, h3, h4, h5⟩, g⟩, hf => by
    obtain ⟨s2, k1, k2⟩ := hf p (by simp)
    rw [h1] at k1
    cases k1
    exact ⟨⟨s, h1, by rw [World.putObj_heap_other k2]; exact h2, h3, h4, h5⟩, YM.put g fun p' hp => hf p' (by simp [hp])⟩
/-- The frame of a round. -/
def inPs (ps : Array Nat) (vs : List Value) (tmps : Array Value) : Array Value := (ps.zip vs.toArray).foldl (fun tmps (x : Nat × Value) => tmps.setIfInBounds x.1 x.2) tmps
/-- Each loop's rounds do what is told of them. -/
def YOK (P : Program) (B : Tb) : YE → List (Loop × Tm) → Prop
  | [], _ => True
  | _ :: _, [] => False
  | p :: Y, q :: Rs => YOK P B Y Rs ∧ ∀ (ro : Option Nat) (φ : Fi) (h : Hp) (w : World) (s : Sl) (args args' : List Value) (K : KV), WR B φ h w → YM Y Rs φ h w → φ p.1 = some s → w.heap[s.b]? = some (.loop q.1) → Spare φ h s.b →
      TR [] φ q.2 ⟨q.1.tmps, []⟩ → (∀ p' ∈ Y, ∃ s', φ p'.1 = some s' ∧ s'.b ≠ s.b) → All2 (VR φ) args args' → p.2 args h K →
      args'.length = q.1.params.size ∧ RoundIn (fen ro) 0 P s.b q.1.fn (inPs q.1.params args' q.1.tmps) q.1.assign q.1.body w fun e w' => ∃ φ' h' v v', e = .returned v' ∧ VR φ' v v' ∧ WR B φ' h' w' ∧ St φ h w φ' h' w' ∧ K v h'
theorem yok_find {r : Nat} {s : Sl} {args args' : List Value} {K : KV} (ro : Option Nat) (hw : WR B φ h w) (hs : φ r = some s) (hargs : All2 (VR φ) args args') : ∀ {Y : YE} {Rs : List (Loop × Tm)}, YOK P B Y Rs → YM Y Rs φ h w → ∀ {f : YF}, findY r Y = some f → f args h K →
    ∃ fn tmps assign body, (Instr.yield s.b args'.toArray).run P w = .ok (.round s.b fn tmps assign body) w ∧
      RoundIn (fen ro) 0 P s.b fn tmps assign body w fun e w' => ∃ φ' h' v v', e = .returned v' ∧ VR φ' v v' ∧ WR B φ' h' w' ∧ St φ h w φ' h' w' ∧ K v h'
  | [], _, _, _, _, hf, _ => by cases hf
  | _ :: _, [], g, _, _, _, _ => g.elim
  | p :: Y, q :: Rs, ⟨g1, g2⟩, ⟨⟨s2, h1, h2, h3, h4, h5⟩, g⟩, f, hf, hk => by
    simp only [findY] at hf
    split at hf
    · rename_i hb
      have hb' := Nat.eq_of_beq_eq_true hb
      subst hb'
      rw [hs] at h1
      cases h1
      cases hf
      obtain ⟨k1, k2⟩ := g2 ro φ h w s args args' K hw g hs h2 h3 h4 h5 hargs hk
      exact ⟨_, _, _, _, run_yield h2 (by simpa using k1), k2⟩
    · exact yok_find ro hw hs hargs g1 g hf hk
/-- What is asked of code that the runner has followed. -/
def CodeOK (P : Program) (B : Tb) (G : Plans) (Y : YE) (Rs : List (Loop × Tm)) (code : Nat → Code → Tm → Hp → KE → Prop) : Prop :=
  ∀ (ro : Option Nat) (b0 : Nat) (g : Nat) (c : Code) (φ : Fi) (t : Tm) (h : Hp) (a : Act) (w : World) (K : KE) (Q : Exit → Act → World → Prop), (ro = none ∨ noRange c = true) → legalCode G g c = true → WR B φ h w → YM Y Rs φ h w → TM b0 φ t h a w → code g c t h K →
    (∀ e φ' t' h' a' w', TM b0 φ' t' h' a' w' → WR B φ' h' w' → St φ h w φ' h' w' → K e t' h' → Q e a' w') → c.wpIn (fen ro) 0 P Q a w

theorem chunkK_spec {α : Type} {l : List α} {g : Nat} {K : α → Prop} (h : nthK (chunk 1000 l) (Nat.div g 16) fun c => nthK c (Nat.mod g 16) K) : ∃ x, l[g]? = some x ∧ K x := by
  obtain ⟨c, h1, h2⟩ := (nthK_iff _ _ _).1 h
  obtain ⟨x, h3, h4⟩ := (nthK_iff _ _ _).1 h2
  refine ⟨x, ?_, h4⟩
  have := chunk_get _ _ _ _ _ _ h1 h3
  rwa [show 16 * Nat.div g 16 + Nat.mod g 16 = g from Nat.div_add_mod g 16] at this
/-- What a call of one of the program's functions comes to. -/
structure CallP (P : Program) (B : Tb) (I : Fi → Hp → World → Prop) (call : Nat → List Value → Hp → KV → Prop) : Prop where
  body : ∀ {g args h K}, call g args h K → ∃ fn c, P.funcs[g]? = some fn ∧ fn.body = some c
  run : ∀ {g : Nat} {args args' : List Value} {h : Hp} {K : KV} {φ : Fi} {w : World}, WR B φ h w → I φ h w → All2 (VR φ) args args' → call g args h K →
    Calls P g args'.toArray w fun e w' => ∃ φ' h' v v', e = .returned v' ∧ VR φ' v v' ∧ WR B φ' h' w' ∧ St φ h w φ' h' w' ∧ K v h'
theorem callN_ok {G : Plans} {Y : YE} {Rs : List (Loop × Tm)} {code : Nat → Code → Tm → Hp → KE → Prop} (hB : TOK P B) (hG : PlansOK P G) (hc : CodeOK P B G Y Rs code) : CallP P B (YM Y Rs) (callN P B G code) := {
  body := fun {g args h K} hk => by
    obtain ⟨fn, h1, h2⟩ := chunkK_spec hk
    split at h2
    · rename_i c hb
      exact ⟨fn, c, by simpa using h1, hb⟩
    · exact h2.elim
  run := fun {g args args' h K φ w} hw hy hargs hk => by
    obtain ⟨fn, h1, h2⟩ := chunkK_spec hk
    have h1' : P.funcs[g]? = some fn := by simpa using h1
    split at h2
    · rename_i c hb
      rw [lenK_eq] at h2
      split at h2
      · rename_i hle
        have hle' := Nat.le_of_ble_eq_true hle
        split at h2
        · rename_i hsm
          have hsm' := Nat.le_of_ble_eq_true hsm
          obtain ⟨t, h3, h4⟩ := argK_spec (by omega) h2
          rw [fN_eq] at h3
          have hlen := hargs.length
          refine (callsIn_fen (ro := none) (n := 0)).1 (callsIn_of_wp_marks (F := fen none) (n := 0) h1' hb trivial (hc none w.heap.size g c φ ⟨fn.ntmps, t, [], maskOf G g⟩ h _ w _ _ (.inl rfl) (hG g fn c h1' hb) hw hy ⟨[], ⟨?_, rfl, hsm', fun i v _ hv => ?_, fun i v _ hv => by cases hv⟩, ⟨List.nodup_nil, Nat.le_refl _, fun D hD => by cases hD⟩⟩ h3 fun e φ' t' h' a' w' q1 q2 q3 q4 => ?_) rfl)
          · show (args'.toArray ++ Array.replicate (fn.ntmps - args'.toArray.size) undef).size = fn.ntmps
            simp
            omega
          · show VR φ v ((args'.toArray ++ Array.replicate (fn.ntmps - args'.toArray.size) undef).getD i undef)
            have hv' : tget W t i = some v := hv
            rw [h4 i] at hv'
            have e0 : tget W (none : Option (T Value)) i = none := by rfl
            by_cases hi : i < args.length
            · rw [if_pos (by omega), Nat.sub_zero] at hv'
              obtain ⟨y, g1, g2⟩ := hargs.get i v hv'
              rw [Array.getD_eq_getD_getElem?, Array.getElem?_append_left (by simp; omega)]
              have : args'.toArray[i]? = some y := by simpa using g1
              rw [this]
              exact g2
            · rw [if_neg (by omega), e0] at hv'
              cases hv'
          · cases e with
            | normal =>
              obtain ⟨M, q1, qM⟩ := q1
              show LeavesInM (fen none) 0 P fn a'.tmps _ a'.defers .returning w'
              rw [q1.defers]
              refine leaves (fun w2 r1 r2 => ?_) M w' qM q2 q3
              obtain ⟨v, v', k1, k2, k3⟩ := retK_spec hB r1 q1 q4
              exact ⟨v', k3, φ', h', v, v', rfl, k2, r1, r2, k1⟩
            | ret =>
              obtain ⟨M, q1, qM⟩ := q1
              show LeavesInM (fen none) 0 P fn a'.tmps _ a'.defers .returning w'
              rw [q1.defers]
              refine leaves (fun w2 r1 r2 => ?_) M w' qM q2 q3
              obtain ⟨v, v', k1, k2, k3⟩ := retK_spec hB r1 q1 q4
              exact ⟨v', k3, φ', h', v, v', rfl, k2, r1, r2, k1⟩
            | exit _ => exact q4.elim
            | goto _ => exact q4.elim
            | panic _ => exact q4.elim
            | outgrown => exact q4.elim
        · exact h2.elim
      · exact h2.elim
    · exact h2.elim }
/-- A builder is marked by its own place. -/
structure CcOK (P : Program) (g bt : Nat) : Prop where
  body : ∃ fn c, P.funcs[g]? = some fn ∧ fn.body = some c
  fresh : ∀ (b : Nat) (w : World), w.cell? ⟨b, 0, none⟩ = some (.pointer none) → w.shape? b = some (bt, 2) → w.frozen? ⟨b, 0, none⟩ = false →
    Calls P g #[.pointer (some ⟨b, 0, none⟩)] w fun e w' => e = .returned (.tuple #[]) ∧ w' = w.setCell ⟨b, 0, none⟩ (.pointer (some ⟨b, 0, none⟩))
  used : ∀ (b : Nat) (w : World), w.cell? ⟨b, 0, none⟩ = some (.pointer (some ⟨b, 0, none⟩)) → Calls P g #[.pointer (some ⟨b, 0, none⟩)] w fun e w' => e = .returned (.tuple #[]) ∧ w' = w
theorem ccK_ok {bt g : Nat} {args args' : List Value} {K : KV} (hcc : CcOK P g bt) (hw : WR B φ h w) (hargs : All2 (VR φ) args args') (hk : ccK B bt args h K) :
    Calls P g args'.toArray w fun e w' => ∃ φ' h' v v', e = .returned v' ∧ VR φ' v v' ∧ WR B φ' h' w' ∧ St φ h w φ' h' w' ∧ K v h' := by
  unfold ccK at hk
  split at hk
  · rename_i x
    split at hk
    · rename_i r
      obtain ⟨o, h1, h2⟩ := rowK_spec hk
      cases args' with
      | nil => exact hargs.elim
      | cons x' l =>
        obtain ⟨hx, hl⟩ := hargs
        cases hl
        obtain ⟨s, hs, rfl⟩ := hx.inv
        unfold ccRow at h2
        split at h2
        · rename_i cs e
          split at h2
          · rename_i hb
            have hbt := Nat.eq_of_beq_eq_true hb
            subst hbt
            obtain ⟨i, h3, h4⟩ := tyK_spec h2
            split at h4
            · rename_i hso
              split at h4
              · rename_i c0 c1 hcs
                obtain ⟨s', hs', hrr⟩ := hw.rows r _ h1
                rw [hs] at hs'
                cases hs'
                have hrr0 := hrr
                obtain ⟨hb1, hu, hrm, q0, hcl, hfz, hcells⟩ := hrr
                obtain ⟨sz, hsh, hsolo⟩ := q0 rfl
                obtain ⟨hbase, hsz⟩ := hsolo (by simp only [solo, h3, hso])
                have hsize : cs.size = 2 := by have := congrArg List.length hcs; simpa using this
                have hc0 : cs[0]? = some c0 := by
                  have : cs.toList[0]? = some c0 := by rw [hcs]; rfl
                  simpa using this
                obtain ⟨v0, hv0, hcr⟩ := hcells 0 c0 hc0
                rw [hbase] at hv0 ⊢
                have hf0 := hfz rfl 0
                unfold ccMark at h4
                split at h4
                · have ev : v0 = .pointer none := hcr.1.inv
                  subst ev
                  refine (hcc.fresh s.b w hv0 (by rw [hsh, hsz]) hf0).mono ?_
                  rintro e' w' ⟨rfl, rfl⟩
                  have hpv : All2 (CR φ) [ptr r 0] [.pointer (some ⟨s.b, 0, none⟩)] := by
                    refine ⟨⟨?_, trivial⟩, rfl⟩
                    have := ptr_vr (o := 0) hs
                    rwa [hbase] at this
                  obtain ⟨_, k2, k3⟩ := hw.store (P := P) (o := 0) (setK_low h4) h1 hs hpv (by simp [hsize])
                  have e1 : cs.toList.take 0 ++ [ptr r 0] ++ cs.toList.drop (0 + [ptr r 0].length) = [ptr r 0, c1] := by rw [hcs]; rfl
                  rw [e1, hbase] at k2 k3
                  exact ⟨φ, _, _, .tuple #[], rfl, tuple_vr (xs := []) (ys := []) rfl, k2, k3, setK_spec h4⟩
                · rename_i r'
                  split at h4
                  · rename_i hb2
                    have := Nat.eq_of_beq_eq_true hb2
                    subst this
                    obtain ⟨s2, hs2, ev⟩ := hcr.1.inv
                    rw [hs] at hs2
                    cases hs2
                    rw [ev, hbase] at hv0
                    refine (hcc.used s.b w hv0).mono ?_
                    rintro e' w' ⟨rfl, rfl⟩
                    exact ⟨φ, h, _, .tuple #[], rfl, tuple_vr (xs := []) (ys := []) rfl, hw, St.refl _ _ _, h4⟩
                  · exact h4.elim
                · exact h4.elim
              · exact h4.elim
            · exact h4.elim
          · exact h2.elim
        · exact h2.elim
    · exact hk.elim
  · exact hk.elim
/-- What a contract tells of a function. -/
structure ExOK (P : Program) (B : Tb) (g : Nat) (f : ExF) : Prop where
  body : ∃ fn c, P.funcs[g]? = some fn ∧ fn.body = some c
  run : ∀ {args args' : List Value} {h : Hp} {K : KV} {N : Prop} {φ : Fi} {w : World}, WR B φ h w → All2 (VR φ) args args' → f args h K N → N ∨
    Calls P g args'.toArray w fun e w' => ∃ φ' h' v v', e = .returned v' ∧ VR φ' v v' ∧ WR B φ' h' w' ∧ St φ h w φ' h' w' ∧ K v h'
/-- What is known of calls holds. -/
structure OvOK (P : Program) (B : Tb) (O : Ov) : Prop where
  ex : ∀ g f, findX g O.ex = some f → ExOK P B g f
  wi : ∀ g, O.wi = some g → (∃ fn c, P.funcs[g]? = some fn ∧ fn.body = some c) ∧ ∀ (x : Int) (n : Nat) (w : World), -9223372036854775808 ≤ x → x < 9223372036854775808 → 0 < n → n < 1000000000 →
    Calls P g #[.int .i64 x, .int .i64 n] w fun e w' => e = .returned (.int .i64 (left x n)) ∧ w'.heap = w.heap ∧ Sm w w'
  cc : ∀ g, O.cc = some g → CcOK P g O.bt
  kn : ∀ g, O.kn = some g → (∃ fn c, P.funcs[g]? = some fn ∧ fn.body = some c) ∧ ∀ w, Calls P g #[] w fun e w' => e = .returned (.bool true) ∧ w.heap.size ≤ w'.heap.size ∧ (∀ k, k < w.heap.size → w'.heap[k]? = w.heap[k]?) ∧ Sm w w'
theorem isO_spec {o : Option Nat} {g : Nat} (h : isO o g = true) : o = some g := by
  unfold isO at h
  split at h
  · cases h
  · rw [Nat.eq_of_beq_eq_true h]
theorem WR.behind {w' : World} (hw : WR B φ h w) (hs : w.heap.size ≤ w'.heap.size) (hk : ∀ k, k < w.heap.size → w'.heap[k]? = w.heap[k]?) : WR B φ h w' := by
  refine ⟨fun r x hx => ?_, hw.apart, hw.below, hw.live, hw.few, hw.low⟩
  obtain ⟨s, h1, h2⟩ := hw.rows r x hx
  exact ⟨s, h1, h2.keep (fun _ _ g => g) hs (hk _ h2.lt)⟩
theorem St.behind {w' : World} (hs : w.heap.size ≤ w'.heap.size) (hk : ∀ k, k < w.heap.size → w'.heap[k]? = w.heap[k]?) (hm : Sm w w') : St φ h w φ h w' := ⟨fun _ _ g => g, hs, fun b hb _ => hk b hb, fun r o s h1 h2 => .inr ⟨r, o, s, h1, h2, rfl⟩, hm, rfl, fun _ _ _ _ h1 _ hb => ⟨h1, hk _ hb⟩⟩
theorem shut_wr (hw : WR B φ h w) : WR B φ (shut h) w := by
  obtain ⟨rows, next, low⟩ := h
  exact ⟨hw.rows, fun r r' o o' s hl ho ho' _ _ => by have := (hw.live r' o' ho').1; exact absurd (Nat.lt_of_lt_of_le this hl) (Nat.lt_irrefl _), hw.below, hw.live, hw.few, hw.low⟩
theorem isB_spec {b : Bool} {v v' : Value} (hk : isB b v) (hv : VR φ v v') : v' = .bool b := by
  unfold isB at hk
  split at hk
  · split at hk
    · exact hv.inv
    · exact hk.elim
  · split at hk
    · exact hk.elim
    · exact hv.inv
  · exact hk.elim
/-- Behind a call that has written to nothing that was there. -/
theorem quiet_behind {φ' : Fi} {h' : Hp} {w' : World} (hw : WR B φ h w) (hst : St φ (shut h) w φ' h' w') : WR B φ h w' ∧ St φ h w φ h w' := by
  obtain ⟨rows, next, low⟩ := h
  have hkeep : ∀ r o s, tget W rows r = some o → φ r = some s → w'.heap[s.b]? = w.heap[s.b]? := fun r o s h1 h2 => by
    obtain ⟨s', h3, h4⟩ := hw.rows r o h1
    rw [h2] at h3
    cases h3
    exact (hst.still r o s (hw.live r o h1).1 h1 h2 h4.lt).2
  refine ⟨⟨fun r o h1 => ?_, hw.apart, hw.below, hw.live, hw.few, hw.low⟩, ⟨fun _ _ g => g, hst.size, hst.keep, fun r o s h1 h2 => .inr ⟨r, o, s, h1, h2, rfl⟩, hst.sm, rfl, fun r o s _ h1 h2 _ => ⟨h1, hkeep r o s h1 h2⟩⟩⟩
  obtain ⟨s, h2, h3⟩ := hw.rows r o h1
  exact ⟨s, h2, h3.keep (fun _ _ g => g) hst.size (hkeep r o s h1 h2)⟩
theorem shut_ym : ∀ {Y : YE} {Rs : List (Loop × Tm)}, YM Y Rs φ h w → YM Y Rs φ (shut h) w := fun {Y Rs} g => by
  obtain ⟨rows, next, low⟩ := h
  induction Y generalizing Rs with
  | nil => trivial
  | cons p Y ih =>
    cases Rs with
    | nil => exact g.elim
    | cons q Rs => exact ⟨g.1, ih g.2⟩
theorem callQ_ok {G : Plans} {O : Ov} {Y : YE} {Rs : List (Loop × Tm)} {code : Nat → Code → Tm → Hp → KE → Prop} (hB : TOK P B) (hG : PlansOK P G) (hO : OvOK P B O) (hc : CodeOK P B G Y Rs code) : CallP P B (YM Y Rs) (callQ P B O G code) := {
  body := fun {g args h K} hk => by
    unfold callQ at hk
    split at hk
    · split at hk
      · exact (callN_ok hB hG hc).body hk
      · rename_i f hf
        exact (hO.ex g f hf).body
    · exact (callN_ok hB hG hc).body hk.1
  run := fun {g args args' h K φ w} hw hy hargs hk => by
    unfold callQ at hk
    split at hk
    · split at hk
      · exact (callN_ok hB hG hc).run hw hy hargs hk
      · rename_i f hf
        rcases (hO.ex g f hf).run hw hargs hk with hk | hk
        · exact (callN_ok hB hG hc).run hw hy hargs hk
        · exact hk
    · rename_i b hb
      obtain ⟨h1, h2⟩ := hk
      refine ((callN_ok hB hG hc).run (shut_wr hw) (shut_ym hy) hargs h1).mono ?_
      rintro e w' ⟨φ', h', v, v', rfl, g1, g2, g3, g4⟩
      have hv := isB_spec g4 g1
      subst hv
      obtain ⟨k1, k2⟩ := quiet_behind hw g3
      exact ⟨φ, h, .bool b, _, rfl, bool_vr, k1, k2, h2⟩ }
theorem callP_ok {G : Plans} {O : Ov} {Y : YE} {Rs : List (Loop × Tm)} {code : Nat → Code → Tm → Hp → KE → Prop} (hB : TOK P B) (hG : PlansOK P G) (hO : OvOK P B O) (hc : CodeOK P B G Y Rs code) : CallP P B (YM Y Rs) (callP P B O G code) := {
  body := fun {g args h K} hk => by
    unfold callP at hk
    split at hk
    · rename_i hi
      exact (hO.kn g (isO_spec hi)).1
    · split at hk
      · rename_i hi
        exact (hO.cc g (isO_spec hi)).body
      split at hk
      · rename_i hi
        exact (hO.wi g (isO_spec hi)).1
      · exact (callQ_ok hB hG hO hc).body hk
  run := fun {g args args' h K φ w} hw hy hargs hk => by
    unfold callP at hk
    split at hk
    · rename_i hi
      split at hk
      · have : args' = [] := hargs
        subst this
        refine ((hO.kn g (isO_spec hi)).2 w).mono ?_
        rintro e w' ⟨rfl, h1, h2, h3⟩
        exact ⟨φ, h, _, _, rfl, bool_vr, hw.behind h1 h2, St.behind h1 h2 h3, hk⟩
      · exact hk.elim
    · split at hk
      · rename_i hi
        exact ccK_ok (hO.cc g (isO_spec hi)) hw hargs hk
      split at hk
      · rename_i hi
        split at hk
        · rename_i x y
          split at hk
          · rename_i r
            split at hk
            · rename_i n
              split at hk
              · rename_i hb
                split at hk
                · rename_i hb1
                  split at hk
                  · rename_i hb2
                    have hpos : 0 < n ∧ n < 1000000000 := ⟨Nat.le_of_ble_eq_true hb1, Nat.lt_of_le_of_lt (Nat.le_of_ble_eq_true hb2) (by omega)⟩
                    rw [fN_eq] at hk
                    have hn : r / MK = n := Nat.eq_of_beq_eq_true hb
                    cases args' with
                    | nil => exact hargs.elim
                    | cons x' l =>
                      cases l with
                      | nil => exact hargs.2.elim
                      | cons y' l =>
                        obtain ⟨hx, hy, hl⟩ := hargs
                        cases hl
                        obtain ⟨z, rfl, h1, h2, h3⟩ := hx.inv
                        have hy' : y' = .int .i64 (.ofNat n) := hy.inv
                        subst hy'
                        refine ((hO.wi g (isO_spec hi)).2 z n w h1 h2 hpos.1 hpos.2).mono ?_
                        rintro e w' ⟨rfl, h4, h5⟩
                        rw [hn] at h3
                        refine ⟨φ, h, _, .int .i64 (left z n), rfl, ?_, hw.same h4, St.same h4 h5, hk⟩
                        rw [h3]
                        exact int_vr
                  · exact hk.elim
                · exact hk.elim
              · exact hk.elim
            · exact hk.elim
          · exact (callN_ok hB hG hc).run hw hy hargs hk
        · exact hk.elim
      · exact (callQ_ok hB hG hO hc).run hw hy hargs hk }
theorem callK_ok {G : Plans} {O : Ov} {Y : YE} {Rs : List (Loop × Tm)} {code : Nat → Code → Tm → Hp → KE → Prop} (hB : TOK P B) (hG : PlansOK P G) (hO : OvOK P B O) (hY : YOK P B Y Rs) (hc : CodeOK P B G Y Rs code) : CallOK P B (YM Y Rs) (callK P B O G Y code) := {
  step := fun hs g => YM.step hs g
  body := fun {g args h K} hg hk => by
    unfold callK at hk
    rw [hg] at hk
    exact (callP_ok hB hG hO hc).body hk
  run := fun {g args args' h K φ w} hg hw hy hargs hk => by
    unfold callK at hk
    rw [hg] at hk
    exact (callP_ok hB hG hO hc).run hw hy hargs hk
  yld := fun ro {r s args args' h K φ w} hw hy hs hargs hk => by
    unfold callK at hk
    have h1 : Nat.ble YB (Nat.add YB r) = true := Nat.ble_eq_true_of_le (Nat.le_add_right _ _)
    have h2 : Nat.sub (Nat.add YB r) YB = r := Nat.add_sub_cancel_left _ _
    rw [h1, h2] at hk
    simp only at hk
    split at hk
    · rename_i f hf
      exact yok_find ro hw hs hargs hY hy hf hk
    · exact hk.elim }

theorem room_fen {ro : Option Nat} (k : Nat) : (fen ro).room k := fun d hd => by cases hd
/-- A loop, by how much is left. -/
theorem wp_loop_fuel {ro : Option Nat} {c : Code} {Q : Exit → Act → World → Prop} {a : Act} {w : World} (J : Nat → Act → World → Prop) (N : Nat) (h0 : J N a w)
    (round : ∀ n a w, n ≤ N → J n a w → c.wpIn (fen ro) 0 P (Exit.then (fun a' w' => ∃ m, m < n ∧ J m a' w') Q) a w) : (Code.loop c).wpIn (fen ro) 0 P Q a w := by
  intro b k cs hro hb hr
  have key : ∀ n a w, n ≤ N → J n a w → ∃ e a' w', Q e a' w' ∧ ArrivesIn (Machine.fenced P (fen ro)) P (lone (b.atR a (.code c :: .inLoop c :: k)) cs w) b k cs e a' w' := by
    intro n
    induction n using Nat.strongRecOn with
    | _ n ih =>
      intro a w hn hJ
      obtain ⟨e, a1, w1, hq, harr⟩ := round n a w hn hJ b (.inLoop c :: k) cs hro hb hr
      cases e with
      | normal =>
        obtain ⟨m, hm, hJ'⟩ := hq
        obtain ⟨e2, a2, w2, hq2, harr2⟩ := ih m hm a1 w1 (by omega) hJ'
        exact ⟨e2, a2, w2, hq2, .of_steps (StepsIn.trans harr (.one (fenced_calm hb hr rfl) stepR_inLoop)) harr2⟩
      | exit id => exact ⟨_, a1, w1, hq, .pass (x := .inLoop c) rfl (fun _ _ => .inl (by simp)) harr⟩
      | goto l => exact ⟨_, a1, w1, hq, .pass (x := .inLoop c) rfl (fun _ _ => .inl (by simp)) harr⟩
      | ret => exact ⟨_, a1, w1, hq, .pass (x := .inLoop c) rfl (fun _ _ => .inl (by simp)) harr⟩
      | panic ch => exact ⟨_, a1, w1, hq, .pass (x := .inLoop c) rfl (fun _ _ => .inl (by simp)) harr⟩
      | outgrown => exact ⟨_, a1, w1, hq, .pass (x := .inLoop c) rfl (fun _ _ => .inl (by simp)) harr⟩
  obtain ⟨e, a', w', hq, harr⟩ := key N a w (Nat.le_refl _) h0
  exact ⟨e, a', w', hq, .of_steps (.one (fenced_calm hb hr rfl) stepR_loop) harr⟩
theorem stepR_scope {b : Frame} {a : Act} {k : List Item} {cs : List Frame} {w : World} {c : Code} : step P (lone (b.atR a (.code (.scope c) :: k)) cs w) = .next (lone (b.atR a (.code c :: .inScope c :: k)) cs w) :=
  step_lone_go (by simp [stepG, stepG.exec, Frame.atR])
theorem stepR_inScope {b : Frame} {a : Act} {k : List Item} {cs : List Frame} {w : World} {c : Code} : step P (lone (b.atR a (.inScope c :: k)) cs w) = .next (lone (b.atR a k) cs w) :=
  step_lone_go (by simp [stepG, stepG.exec, Frame.atR])
/-- What the runner has followed the machine does. -/
theorem legalFuncs_ok {G : Plans} (h : legalFuncs G P.funcs.toList 0 = true) : PlansOK P G := by
  have key : ∀ (l : List Func) (g0 : Nat), legalFuncs G l g0 = true → ∀ (g : Nat) (fn : Func) (c : Code), l[g]? = some fn → fn.body = some c → legalCode G (g0 + g) c = true := by
    intro l
    induction l with
    | nil => intro g0 _ g fn c hg; simp at hg
    | cons f l ih =>
      intro g0 hl g fn c hg hb
      simp only [legalFuncs, Bool.and_eq_true] at hl
      cases g with
      | zero =>
        have : f = fn := by simpa using hg
        subst this
        rw [hb] at hl
        exact hl.1
      | succ g =>
        have := ih (g0 + 1) hl.2 g fn c (by simpa using hg) hb
        rwa [show g0 + (g + 1) = g0 + 1 + g by omega]
  intro g fn c hg hb
  have := key _ 0 h g fn c (by simpa using hg) hb
  simpa using this
theorem legal_label {G : Plans} {g : Nat} : ∀ {c : Code} {l : Nat} {r : Code}, findLabel c l = some r → legalCode G g c = true → legalCode G g r = true
  | .seq a b, l, r, hf, hl => by
    simp only [legalCode, Bool.and_eq_true] at hl
    simp only [findLabel] at hf
    cases ha : findLabel a l with
    | some ra =>
      rw [ha] at hf
      cases hf
      simp only [legalCode, Bool.and_eq_true]
      exact ⟨legal_label ha hl.1, hl.2⟩
    | none =>
      rw [ha] at hf
      exact legal_label hf hl.2
  | .label l', l, r, hf, _ => by
    simp only [findLabel] at hf
    split at hf
    · cases hf; rfl
    · cases hf
  | .skip, _, _, hf, _ => by cases hf
  | .region _ _ _, _, _, hf, _ => by cases hf
  | .cond _ _ _, _, _, hf, _ => by cases hf
  | .block _ _, _, _, hf, _ => by cases hf
  | .loop _, _, _, hf, _ => by cases hf
  | .rangeFunc _ _ _ _, _, _, hf, _ => by cases hf
  | .exit _, _, _, hf, _ => by cases hf
  | .scope _, _, _, hf, _ => by cases hf
  | .goto _, _, _, hf, _ => by cases hf
  | .ret, _, _, hf, _ => by cases hf
  | .refuse _, _, _, hf, _ => by cases hf
theorem noRange_label : ∀ {c : Code} {l : Nat} {r : Code}, findLabel c l = some r → noRange c = true → noRange r = true
  | .seq a b, l, r, hf, hl => by
    simp only [noRange, Bool.and_eq_true] at hl
    simp only [findLabel] at hf
    cases ha : findLabel a l with
    | some ra =>
      rw [ha] at hf
      cases hf
      simp only [noRange, Bool.and_eq_true]
      exact ⟨noRange_label ha hl.1, hl.2⟩
    | none =>
      rw [ha] at hf
      exact noRange_label hf hl.2
  | .label l', l, r, hf, _ => by
    simp only [findLabel] at hf
    split at hf
    · cases hf; rfl
    · cases hf
  | .skip, _, _, hf, _ => by cases hf
  | .region _ _ _, _, _, hf, _ => by cases hf
  | .cond _ _ _, _, _, hf, _ => by cases hf
  | .block _ _, _, _, hf, _ => by cases hf
  | .loop _, _, _, hf, _ => by cases hf
  | .rangeFunc _ _ _ _, _, _, hf, _ => by cases hf
  | .exit _, _, _, hf, _ => by cases hf
  | .scope _, _, _, hf, _ => by cases hf
  | .goto _, _, _, hf, _ => by cases hf
  | .ret, _, _, hf, _ => by cases hf
  | .refuse _, _, _, hf, _ => by cases hf
/-- A scope, from some code of it on. -/
theorem runScope_ok {G : Plans} {ev : CdE} {ro : Option Nat} {Y : YE} {Rs : List (Loop × Tm)} (hev : CodeOK P B G Y Rs ev) {g : Nat} {c : Code} (hnc : ro = none ∨ noRange c = true) (hlc : legalCode G g c = true) {K : KE} {Q : Exit → Act → World → Prop} {b : Frame} {k : List Item} {cs : List Frame} (hro : b.roundOf = ro) {φ0 : Fi} {h0 : Hp} {w0 : World} {b0 : Nat}
    (hq : ∀ e φ' t' h' a' w', TM b0 φ' t' h' a' w' → WR B φ' h' w' → St φ0 h0 w0 φ' h' w' → K e t' h' → Q e a' w') :
    ∀ (n : Nat) (d : Code) (φ : Fi) (t : Tm) (h : Hp) (a : Act) (w : World), (ro = none ∨ noRange d = true) → legalCode G g d = true → WR B φ h w → YM Y Rs φ h w → TM b0 φ t h a w → St φ0 h0 w0 φ h w → runScope ev g c K n d t h →
      ∃ e a' w', Q e a' w' ∧ ArrivesIn (Machine.fenced P (fen ro)) P (lone (b.atR a (.code d :: .inScope c :: k)) cs w) b k cs e a' w' := by
  intro n
  induction n with
  | zero => intro d φ t h a w _ _ _ _ _ _ hk; exact hk.elim
  | succ n ih =>
    intro d φ t h a w hnd hld hw hy ht hst hk
    have hk' : ev g d t h (kScope c K (runScope ev g c K n)) := hk
    have hwp := hev ro b0 g d φ t h a w _ (fun e a' w' => ∃ φ' t' h', TM b0 φ' t' h' a' w' ∧ WR B φ' h' w' ∧ St φ h w φ' h' w' ∧ kScope c K (runScope ev g c K n) e t' h') hnd hld hw hy ht hk' fun e φ' t' h' a' w' q1 q2 q3 q4 => ⟨φ', t', h', q1, q2, q3, q4⟩
    obtain ⟨e, a1, w1, ⟨φ1, t1, h1, q1, q2, q3, q4⟩, harr⟩ := hwp b (.inScope c :: k) cs hro trivial (room_fen _)
    cases e with
    | normal => exact ⟨.normal, a1, w1, hq _ φ1 t1 h1 a1 w1 q1 q2 (hst.trans q3) q4, StepsIn.trans harr (.one (fenced_calm (F := fen ro) (n := 0) trivial (room_fen _) rfl) stepR_inScope)⟩
    | exit id => exact ⟨.exit id, a1, w1, hq _ φ1 t1 h1 a1 w1 q1 q2 (hst.trans q3) q4, ⟨fun k' hk => harr.1 k' (by simp [exitTo, hk]), fun hr' hk => harr.2 hr' (by simp [exitTo, hk])⟩⟩
    | goto l =>
      simp only [kScope] at q4
      cases hf : findLabel c l with
      | some r =>
        rw [hf] at q4
        have hg : gotoIn l (.inScope c :: k) = some (.code r :: .inScope c :: k) := by simp [gotoIn, hf]
        obtain ⟨e2, a2, w2, r1, r2⟩ := ih r φ1 t1 h1 a1 w1 (hnc.imp id (noRange_label hf)) (legal_label hf hlc) q2 (hy.step q3) q1 (hst.trans q3) q4
        exact ⟨e2, a2, w2, r1, .of_steps (harr.1 _ hg) r2⟩
      | none =>
        rw [hf] at q4
        exact ⟨.goto l, a1, w1, hq _ φ1 t1 h1 a1 w1 q1 q2 (hst.trans q3) q4, ⟨fun k' hk => harr.1 k' (by simp [gotoIn, hf, hk]), fun hr' hk => harr.2 hr' (by simp [gotoIn, hf, hk])⟩⟩
    | ret => exact ⟨_, a1, w1, hq _ φ1 t1 h1 a1 w1 q1 q2 (hst.trans q3) q4, harr⟩
    | panic _ => exact ⟨_, a1, w1, hq _ φ1 t1 h1 a1 w1 q1 q2 (hst.trans q3) q4, harr⟩
    | outgrown => exact ⟨_, a1, w1, hq _ φ1 t1 h1 a1 w1 q1 q2 (hst.trans q3) q4, harr⟩
/-- A row's number more, that names a block that no row lies in. -/
theorem WR.number {s : Sl} {K : Nat → Hp → Prop} (hw : WR B φ h w) (hs : Spare φ h s.b) (hk : newL h K) :
    ∃ φ' h', WR B φ' h' w ∧ St φ h w φ' h' w ∧ φ' h.next = some s ∧ Spare φ' h' s.b ∧ K h.next h' := by
  obtain ⟨rows, next, low⟩ := h
  simp only [newL] at hk
  split at hk
  case h_2 => exact hk.elim
  rename_i hb
  have hn : next ≤ MOST := Nat.le_of_ble_eq_true hb
  rw [fN_eq] at hk
  have hext : ∀ r s', φ r = some s' → (if r = next then some s else φ r) = some s' := fun r s' hs' => by
    have : r ≠ next := by rintro rfl; rw [hw.below _ (Nat.le_refl _)] at hs'; cases hs'
    simp [this, hs']
  have hback : ∀ r o s', tget W rows r = some o → (if r = next then some s else φ r) = some s' → φ r = some s' := fun r o s' ho hs' => by
    have : r ≠ next := by have := (hw.live r o ho).1; show r ≠ next; exact Nat.ne_of_lt this
    simpa [this] using hs'
  refine ⟨fun r => if r = next then some s else φ r, ⟨rows, next + 1, low⟩, ⟨fun r o ho => ?_, fun r r' o o' s1 hl ho ho' h1 h2 => ?_, fun r hr => ?_, fun r o ho => ?_, ?_, ?_⟩, ⟨hext, Nat.le_refl _, fun _ _ _ => rfl, fun r o s1 ho h1 => .inr ⟨r, o, s1, ho, hback r o s1 ho h1, rfl⟩, Sm.refl _, rfl, fun r o s1 _ ho _ _ => ⟨ho, rfl⟩⟩, by simp, fun r o s1 ho h1 => hs r o s1 ho (hback r o s1 ho h1), hk⟩
  · obtain ⟨s1, h1, h2⟩ := hw.rows r o ho
    exact ⟨s1, hext r s1 h1, h2.keep hext (Nat.le_refl _) rfl⟩
  · obtain ⟨s2, h2, h3⟩ := h2
    exact hw.apart r r' o o' s1 hl ho ho' (hback r o s1 ho h1) ⟨s2, hback r' o' s2 ho' h2, h3⟩
  · have h1 : ¬ r = next := by have : next + 1 ≤ r := hr; omega
    simp only [h1, if_false]
    exact hw.below r (by have : next + 1 ≤ r := hr; show next ≤ r; omega)
  · have := hw.live r o ho
    exact ⟨Nat.lt_succ_of_lt this.1, this.2⟩
  · show next + 1 ≤ MOST + 1
    omega
  · exact ⟨Nat.le_succ_of_le hw.low.1, hw.low.2.new hw.low.1⟩
/-- A block that no row names was turned, and is turned back. -/
theorem St.swap {φ' : Fi} {h' : Hp} {w' : World} {l : Nat} {o x : Obj} (g : St φ h (w.putObj l o) φ' h' w') (hs : Spare φ h l) (hx : w.heap[l]? = some x) : St φ h w φ' h' (w'.putObj l x) := by
  have hl : l < w.heap.size := (Array.getElem?_eq_some_iff.1 hx).1
  have hsz : (w.putObj l o).heap.size = w.heap.size := World.putObj_size
  have hle : w.heap.size ≤ w'.heap.size := by have := g.size; rwa [hsz] at this
  refine ⟨g.ext, by rw [World.putObj_size]; exact hle, fun b hb hn => ?_, fun r y s hy h1 => by have := g.new r y s hy h1; rwa [hsz] at this, ⟨g.sm.1, g.sm.2.1, g.sm.2.2⟩, g.lo, fun r y s hr hy h1 hb => ?_⟩
  · by_cases e : b = l
    · subst e
      rw [World.putObj_heap_same (by omega), hx]
    · rw [World.putObj_heap_other e, g.keep b (by rw [hsz]; exact hb) hn, World.putObj_heap_other e]
  · have e : s.b ≠ l := hs r y s hy h1
    obtain ⟨k1, k2⟩ := g.still r y s hr hy h1 (by rw [hsz]; exact hb)
    exact ⟨k1, by rw [World.putObj_heap_other e, k2, World.putObj_heap_other e]⟩
theorem putPs_spec {K : Tm → Prop} : ∀ {ps : List Nat} {vs vs' : List Value} {t : Tm} {tmps : Array Value}, TR ds φ t ⟨tmps, ds⟩ → All2 (VR φ) vs vs' → putPs ps vs t K →
    vs'.length = ps.length ∧ ∃ t', K t' ∧ TR ds φ t' ⟨(ps.zip vs').foldl (fun tmps (x : Nat × Value) => tmps.setIfInBounds x.1 x.2) tmps, ds⟩
  | [], [], vs', t, tmps, ht, hv, hk => by
    cases hv
    exact ⟨rfl, t, hk, ht⟩
  | [], _ :: _, _, _, _, _, _, hk => hk.elim
  | _ :: _, [], _, _, _, _, _, hk => hk.elim
  | p :: ps, v :: vs, [], _, _, _, hv, _ => hv.elim
  | p :: ps, v :: vs, v' :: vs', t, tmps, ht, hv, hk => by
    have hk' : tmPut t (some p) v fun t => putPs ps vs t K := hk
    obtain ⟨t1, h1, h2⟩ := tmPut_spec ht hv.1 hk'
    obtain ⟨h3, t2, h4, h5⟩ := putPs_spec (tmps := tmps.setIfInBounds p v') h2 hv.2 h1
    exact ⟨by simp [h3], t2, h4, h5⟩
theorem inPs_list (ps : Array Nat) (vs : List Value) (tmps : Array Value) : inPs ps vs tmps = (ps.toList.zip vs).foldl (fun tmps (x : Nat × Value) => tmps.setIfInBounds x.1 x.2) tmps := by
  unfold inPs
  rw [← Array.foldl_toList, Array.toList_zip]
/-- A round. -/
theorem round_ok {G : Plans} {Y : YE} {Rs : List (Loop × Tm)} {ev : CdE} (hev : CodeOK P B G Y Rs ev) {g : Nat} {t : Tm} {rec : Loop} (hst : rec.state = .ready) (hpd : rec.pending = none) (hna : noRange rec.assign = true) (hnb : noRange rec.body = true)
    (hla : legalCode G g rec.assign = true) (hlb : legalCode G g rec.body = true) (ro : Option Nat) (φ : Fi) (h : Hp) (w : World) (s : Sl) (args args' : List Value) (K : KV) (hw : WR B φ h w) (hy : YM Y Rs φ h w)
    (hl : w.heap[s.b]? = some (.loop rec)) (hsp : Spare φ h s.b) (ht : TR [] φ t ⟨rec.tmps, []⟩) (hfr : ∀ p' ∈ Y, ∃ s', φ p'.1 = some s' ∧ s'.b ≠ s.b) (hargs : All2 (VR φ) args args') (hk : yieldF ev g t rec.params.toList rec.assign rec.body args h K) :
    args'.length = rec.params.size ∧ RoundIn (fen ro) 0 P s.b rec.fn (inPs rec.params args' rec.tmps) rec.assign rec.body w fun e w' => ∃ φ' h' v v', e = .returned v' ∧ VR φ' v v' ∧ WR B φ' h' w' ∧ St φ h w φ' h' w' ∧ K v h' := by
  obtain ⟨h1, t', h2, h3⟩ := putPs_spec ht hargs hk
  refine ⟨by simpa using h1, roundIn_of_wpIn trivial ?_⟩
  rw [inPs_list]
  have hlt : s.b < w.heap.size := (Array.getElem?_eq_some_iff.1 hl).1
  refine hev (some s.b) w.heap.size g rec.assign φ t' h _ w _ _ (.inr hna) hla hw hy ⟨[], h3, List.nodup_nil, Nat.le_refl _, fun D hD => by cases hD⟩ h2 fun e φ1 t1 h1 a1 w1 q1 q2 q3 q4 => ?_
  cases e with
  | normal =>
    obtain ⟨l1, l2, l3⟩ := q3.spare hlt hsp
    rw [hl] at l1
    refine ⟨_, run_beginRound l1 hst, ?_⟩
    obtain ⟨M, m1, m2⟩ := q1
    have hy1 : YM Y Rs φ1 h1 w1 := hy.step q3
    have hfr1 : ∀ p' ∈ Y, ∃ s', φ1 p'.1 = some s' ∧ s'.b ≠ s.b := fun p' hp => by
      obtain ⟨s', k1, k2⟩ := hfr p' hp
      exact ⟨s', q3.ext _ _ k1, k2⟩
    refine hev (some s.b) w.heap.size g rec.body φ1 t1 h1 a1 _ _ _ (.inr hnb) hlb (q2.other l3) (hy1.put hfr1) ⟨M, m1, m2.put hlt⟩ q4 fun e φ2 t2 h2 a2 w3 r1 r2 r3 r4 => ?_
    cases e with
    | normal =>
      obtain ⟨b1, b2, b3⟩ := r3.spare (by simpa using l2) l3
      rw [World.putObj_heap_same l2] at b1
      have hrec : ({ { rec with state := .busy } with state := if (none : Option Code).isNone then .ready else .done, pending := none } : Loop) = rec := by
        obtain ⟨a1, a2, a3, a4, a5, a6, a7, a8⟩ := rec
        simp only at hst hpd
        subst hst hpd
        rfl
      have hend := run_endRound (P := P) none b1
      rw [hrec] at hend
      refine ⟨_, _, hend, φ2, h2, .bool true, .bool true, rfl, bool_vr, r2.other b3, q3.trans (r3.swap l3 l1), r4⟩
    | exit _ => exact r4.elim
    | goto _ => exact r4.elim
    | ret => exact r4.elim
    | panic _ => exact r4.elim
    | outgrown => exact r4.elim
  | exit _ => exact q4.elim
  | goto _ => exact q4.elim
  | ret => exact q4.elim
  | panic _ => exact q4.elim
  | outgrown => exact q4.elim
theorem unl_none (n : Nat) : unl (Array.replicate n false) = n := by simp [unl, List.countP_replicate]
theorem evCode_ok {G : Plans} {O : Ov} (hB : TOK P B) (hG : PlansOK P G) (hO : OvOK P B O) : ∀ (f : Nat) (Y : YE) (Rs : List (Loop × Tm)), YOK P B Y Rs → CodeOK P B G Y Rs (evCode P B O G f Y) := by
  intro f
  induction f using Nat.strongRecOn with
  | _ f IH =>
    intro Y Rs hY ro b0 g c φ t h a w K Q hng hlg hw hy ht hk hq
    have ht0 := ht
    obtain ⟨M0, ht2, hM0⟩ := ht0
    cases f with
    | zero => exact hk.elim
    | succ f =>
      have hev := IH f (by omega) Y Rs hY
      have hcall := callK_ok hB hG hO hY hev
      have hk0 : cdFn P B O G (evCode P B O G f) Y c (evCode P B O G f Y) g t h K := hk
      cases c with
      | skip => exact wpIn_skip (hq _ φ t h a w ht hw (St.refl _ _ _) hk0)
      | label _ => exact wpIn_label (hq _ φ t h a w ht hw (St.refl _ _ _) hk0)
      | ret => exact wpIn_ret (hq _ φ t h a w ht hw (St.refl _ _ _) hk0)
      | exit i => exact wpIn_exit (hq _ φ t h a w ht hw (St.refl _ _ _) hk0)
      | goto l => exact wpIn_goto (hq _ φ t h a w ht hw (St.refl _ _ _) hk0)
      | scope x =>
        have hk1 : runScope (evCode P B O G f Y) g x K 100000 x t h := hk0
        intro b k cs hro hb hr
        obtain ⟨e, a1, w1, r1, r2⟩ := runScope_ok hev (c := x) hng hlg (b := b) (k := k) (cs := cs) hro hq 100000 x φ t h a w hng hlg hw hy ht (St.refl _ _ _) hk1
        exact ⟨e, a1, w1, r1, .of_steps (.one (fenced_calm hb hr rfl) stepR_scope) r2⟩
      | rangeFunc fo ps assign body =>
        have hk1 : match noRange assign && noRange body with
          | true => valK t fo fun v => match v with
            | .func (.func g') first cap => match Nat.ble YB g' with
              | true => False
              | false => newL h fun r h => appK first.toList (.float .f64 r :: cap.toList) fun l => callK P B O G ((r, yieldF (evCode P B O G f Y) g t ps.toList assign body) :: Y) (evCode P B O G f ((r, yieldF (evCode P B O G f Y) g t ps.toList assign body) :: Y)) g' l h fun _ h => K .normal t h
            | _ => False
          | false => False := hk0
        split at hk1
        case h_2 => exact hk1.elim
        rename_i hnr
        simp only [Bool.and_eq_true] at hnr
        simp only [legalCode, Bool.and_eq_true] at hlg
        obtain ⟨v, h1, h2⟩ := valK_spec ht2 hk1
        split at h1
        · rename_i g' first cap
          split at h1
          · exact h1.elim
          rename_i hyb
          obtain ⟨first', cap', he, h3, h4⟩ := h2.inv
          obtain rfl : ro = none := by
            rcases hng with e | e
            · exact e
            · cases e
          refine wpIn_rangeFunc fun fn _ => ?_
          obtain ⟨rec, hrec⟩ : ∃ rec : Loop, rec = { state := .ready, pending := none, fn, tmps := a.tmps, params := ps, assign, body, defers := w.heap.size } := ⟨_, rfl⟩
          obtain ⟨w1, hw1⟩ : ∃ w1, w1 = (w.alloc (.deferred (some []))).alloc (.loop rec) := ⟨_, rfl⟩
          have hwr : WR B φ h w1 := by rw [hw1]; exact hw.junk.junk
          have hst1 : St φ h w φ h w1 := by rw [hw1]; exact St.junk.trans St.junk
          have hsz : w1.heap.size = w.heap.size + 2 := by rw [hw1, size_alloc, size_alloc]
          have hD : w1.heap[w.heap.size]? = some (.deferred (some [])) := by
            rw [hw1, heap_alloc (by rw [size_alloc]; omega)]
            exact heap_alloc_new
          have hL : w1.heap[w.heap.size + 1]? = some (.loop rec) := by
            rw [hw1]
            have := heap_alloc_new (w := w.alloc (.deferred (some []))) (o := .loop rec)
            rwa [size_alloc] at this
          have sD : Spare φ h w.heap.size := hw.spare
          have sL : Spare φ h (w.heap.size + 1) := by
            have := (hw.junk (o := .deferred (some []))).spare
            rwa [size_alloc] at this
          obtain ⟨φ1, h1', n1, n2, n3, n4, n5⟩ := hwr.number (s := ⟨w.heap.size + 1, 0, 0, 0⟩) sL h1
          rw [appK_eq] at n5
          have hst2 : St φ h w φ1 h1' w1 := hst1.trans n2
          have hargs : All2 (VR φ1) (first.toList ++ .float .f64 h.next :: cap.toList) (first'.toList ++ .func (.yield (w.heap.size + 1)) #[] #[] :: cap'.toList) :=
            (h3.mono fun _ _ q => q.mono hst2.ext).app ⟨VR.mk (v := .float .f64 h.next) ⟨⟨w.heap.size + 1, 0, 0, 0⟩, n3, rfl⟩, h4.mono fun _ _ q => q.mono hst2.ext⟩
          have hY' : YOK P B ((h.next, yieldF (evCode P B O G f Y) g t ps.toList assign body) :: Y) ((rec, t) :: Rs) := by
            refine ⟨hY, fun ro' φ' h' w' s' args args' K' k1 k2 k3 k4 k5 k6 k7 k8 k9 => ?_⟩
            subst hrec
            exact round_ok hev rfl rfl hnr.1 hnr.2 hlg.1 hlg.2 ro' φ' h' w' s' args args' K' k1 k2 k4 k5 k6 k7 k8 k9
          have hcall' := callK_ok hB hG hO hY' (IH f (by omega) _ _ hY')
          have hy1 : YM ((h.next, yieldF (evCode P B O G f Y) g t ps.toList assign body) :: Y) ((rec, t) :: Rs) φ1 h1' w1 := by
            refine ⟨⟨⟨w.heap.size + 1, 0, 0, 0⟩, n3, hL, n4, ?_, fun p' hp => ?_⟩, hy.step hst2⟩
            · have ht3 := ht2.mono hst2.ext
              subst hrec
              exact ⟨ht3.size, rfl, ht3.few, ht3.tree, ht3.envs⟩
            · obtain ⟨s', k1, k2⟩ := hy.lt p' hp
              exact ⟨s', hst2.ext _ _ k1, by show s'.b ≠ w.heap.size + 1; omega⟩
          obtain ⟨fn', cd, hfn, hbd⟩ := hcall'.body hyb n5
          refine ⟨w.heap.size + 1, [{ target := .collected w.heap.size, args := #[] }], w1, { target := .fn (.func g') cap', args := first' ++ #[.func (.yield (w.heap.size + 1)) #[] #[]] }, w1, g', (first'.toList ++ .func (.yield (w.heap.size + 1)) #[] #[] :: cap'.toList).toArray, w1, by rw [hw1, hrec]; exact run_enterLoop_outer fn a.tmps ps assign body, ?_, fun _ _ => trivial, ?_, no_depth, ?_⟩
          · simp only [resolve, rangeCall, Deferred.ofValue, he, Sem.run_bind, Sem.run_pure, Result.andThen_ok, List.map_toArray, List.map_cons, List.map_nil]
            rfl
          · simp only [invoke]
            rw [hB.calls g' fn' cd hfn hbd]
            congr 2
            apply Array.ext'
            simp
          · refine callsIn_fen.2 ((hcall'.run hyb n1 hy1 hargs n5).mono ?_)
            rintro e w3 ⟨φ', h', v, v', rfl, g1, g2, g3, g4⟩
            obtain ⟨l1, l2, l3⟩ := g3.spare (by show w.heap.size + 1 < w1.heap.size; omega) n4
            have sD1 : Spare φ1 h1' w.heap.size := (n2.spare (by rw [hsz]; omega) sD).2.2
            obtain ⟨d1, d2, d3⟩ := g3.spare (by rw [hsz]; omega) sD1
            have l1' : w3.heap[w.heap.size + 1]? = some (.loop rec) := by rw [← hL]; exact l1
            rw [hD] at d1
            have hst4 : St φ h w φ' h' (w3.putObj (w.heap.size + 1) (.loop { rec with state := .exhausted, pending := none })) := (hst2.trans g3).other (by omega)
            have hpn : rec.pending = none := by rw [hrec]
            have hend := run_endLoop (P := P) l1' (by rw [hrec]; simp)
            rw [hpn] at hend
            refine ⟨none, _, hend, ?_⟩
            refine hq .normal φ' t h' _ _ ⟨w.heap.size :: M0, ?_, ?_⟩ (g2.other l3) hst4 g4
            · have ht3 := ht2.mono (hst2.trans g3).ext
              exact ⟨ht3.size, by simp [mks, ht2.defers], ht3.few, ht3.tree, ht3.envs⟩
            · have hm := hM0.step hst4
              refine ⟨List.nodup_cons.2 ⟨fun hmem => ?_, hm.nodup⟩, hm.base, fun D hD' => ?_⟩
              · obtain ⟨_, k2, _⟩ := hM0.each _ hmem
                have := (Array.getElem?_eq_some_iff.1 k2).1
                omega
              · rcases List.mem_cons.1 hD' with rfl | hD'
                · refine ⟨hM0.base, ?_, d3⟩
                  rw [World.putObj_heap_other (by omega)]
                  exact d1
                · exact hm.each D hD'
        · exact h1.elim
      | refuse _ => exact hk0.elim
      | region id ops d =>
        cases d with
        | false =>
          have hk1 : clrK t fun t => evOps B (callK P B O G Y (evCode P B O G f Y)) ops.toList ops.toList t h K := hk0
          obtain ⟨t1, hk2, ht1⟩ := clrK_spec ht2 hk1
          exact wpIn_region_list (evOps_spec hB hcall _ φ t1 h a w hw hy ht1 hk2 fun φ' t' h' a' w' q1 q2 q3 q4 => hq _ φ' t' h' a' w' ⟨M0, q1, hM0.step q3⟩ q2 q3 q4)
        | true =>
          have hk1 : cDraw P B O G Y id ops (evCode P B O G f Y) g t h K := hk0
          unfold cDraw at hk1
          split at hk1
          · rename_i fp hp0
            split at hk1
            · rename_i p hp
              obtain ⟨X, l⟩ := p
              obtain ⟨t1, hk, ht1⟩ := clrK_spec ht2 hk1
              simp only [legalCode, hp0, hp, legalAll, Bool.and_eq_true] at hlg
              obtain ⟨g1, g0, g2, g3⟩ := hlg
              have hwd : WR B φ h { w with drawn := w.drawn + 1 } := hw.same rfl
              refine wpIn_mono (Q := fun e a' w' => e = .normal ∧ Q .normal a' w') (wpIn_region_any hB.mixed (wpAnyS.any (evDraw_spec (X := X) (φ0 := φ) (h0 := h) (w0 := { w with drawn := w.drawn + 1 }) hB hcall (hy.step (St.same (φ := φ) (h := h) (w := w) (w' := { w with drawn := w.drawn + 1 }) rfl ⟨rfl, rfl, rfl⟩)) g1 g0 (fun x hx o ho e he hb hm => ?_) (fun φ' t' h' a' w' q1 q2 q3 q4 => ?_) l _ _ [] [] [] (fun _ => none) φ t1 h a a _ ops.size g3 ?_ (by rw [unl_none]; exact Nat.le_refl _) hwd ht1 (fun p hp => by cases hp) (fun e he => by cases he) (St.refl _ _ _) hk))) (fun e a' w' g => by cases g.1; exact g.2)
              · have := List.all_eq_true.1 g2 x hx
                rw [ho] at this
                have := Array.all_eq_true'.1 this e he
                simp only [Bool.or_eq_true, Bool.not_eq_true', hb, Bool.true_eq_false, false_or, List.contains_eq_mem, decide_eq_false_iff_not] at this
                exact this hm
              · have hs' := (St.same (φ := φ) (h := h) (w := w) (w' := { w with drawn := w.drawn + 1 }) rfl ⟨rfl, rfl, rfl⟩).trans q3
                exact hq _ φ' t' h' a' w' ⟨M0, q1, hM0.step hs'⟩ q2 hs' q4
              · exact ⟨(fun q hq => by cases hq), (fun q hq => by cases hq), (fun k b hd => by cases hd), (fun k k' b hd => by cases hd), rfl, rfl, (fun _ _ => rfl), rfl, (fun _ => rfl)⟩
            · exact hk1.elim
          · exact hk1.elim
      | seq x y =>
        simp only [legalCode, Bool.and_eq_true] at hlg
        have hn1 : (ro = none ∨ noRange x = true) ∧ (ro = none ∨ noRange y = true) := by
          rcases hng with e | e
          · exact ⟨.inl e, .inl e⟩
          · simp only [noRange, Bool.and_eq_true] at e
            exact ⟨.inr e.1, .inr e.2⟩
        refine wpIn_seq (hev ro b0 g x φ t h a w _ _ hn1.1 hlg.1 hw hy ht hk0 fun e φ' t' h' a' w' q1 q2 q3 q4 => ?_)
        cases e with
        | normal => exact hev ro b0 g y φ' t' h' a' w' K Q hn1.2 hlg.2 q2 (hy.step q3) q1 q4 fun e2 φ2 t2 h2 a2 w2 r1 r2 r3 r4 => hq e2 φ2 t2 h2 a2 w2 r1 r2 (q3.trans r3) r4
        | exit _ => exact hq _ φ' t' h' a' w' q1 q2 q3 q4
        | goto _ => exact hq _ φ' t' h' a' w' q1 q2 q3 q4
        | ret => exact hq _ φ' t' h' a' w' q1 q2 q3 q4
        | panic _ => exact hq _ φ' t' h' a' w' q1 q2 q3 q4
        | outgrown => exact hq _ φ' t' h' a' w' q1 q2 q3 q4
      | cond c x y =>
        simp only [legalCode, Bool.and_eq_true] at hlg
        have hk1 : valK t c fun c => match c with
          | .bool true => evCode P B O G f Y g x t h K
          | .bool false => evCode P B O G f Y g y t h K
          | _ => False := hk0
        have hn1 : (ro = none ∨ noRange x = true) ∧ (ro = none ∨ noRange y = true) := by
          rcases hng with e | e
          · exact ⟨.inl e, .inl e⟩
          · simp only [noRange, Bool.and_eq_true] at e
            exact ⟨.inr e.1, .inr e.2⟩
        obtain ⟨v, h1, h2⟩ := valK_spec ht2 hk1
        split at h1
        · have e : a.eval c = .bool true := h2.inv
          exact wpIn_cond_true e (hev ro b0 g x φ t h a w K Q hn1.1 hlg.1 hw hy ht h1 hq)
        · have e : a.eval c = .bool false := h2.inv
          exact wpIn_cond_false e (hev ro b0 g y φ t h a w K Q hn1.2 hlg.2 hw hy ht h1 hq)
        · exact h1.elim
      | block i x =>
        refine wpIn_block (hev ro b0 g x φ t h a w _ _ hng hlg hw hy ht hk0 fun e φ' t' h' a' w' q1 q2 q3 q4 => ?_)
        cases e with
        | exit j =>
          simp only [kBlock] at q4
          split at q4
          · rename_i hb
            have := Nat.eq_of_beq_eq_true hb
            subst this
            simp only [Exit.inBlock, if_true]
            exact hq _ φ' t' h' a' w' q1 q2 q3 q4
          · rename_i hb
            have hne : ¬ j = i := fun e => by rw [e, Nat.beq_refl] at hb; cases hb
            simp only [Exit.inBlock, hne, if_false]
            exact hq _ φ' t' h' a' w' q1 q2 q3 q4
        | normal => exact hq _ φ' t' h' a' w' q1 q2 q3 q4
        | goto _ => exact hq _ φ' t' h' a' w' q1 q2 q3 q4
        | ret => exact hq _ φ' t' h' a' w' q1 q2 q3 q4
        | panic _ => exact hq _ φ' t' h' a' w' q1 q2 q3 q4
        | outgrown => exact hq _ φ' t' h' a' w' q1 q2 q3 q4
      | loop x =>
        refine wp_loop_fuel (fun n a' w' => ∃ φ' t' h', TM b0 φ' t' h' a' w' ∧ WR B φ' h' w' ∧ St φ h w φ' h' w' ∧ evCode P B O G (n + 1) Y g (.loop x) t' h' K) f ⟨φ, t, h, ht, hw, St.refl _ _ _, hk⟩ ?_
        rintro n a1 w1 hn ⟨φ1, t1, h1, r1, r2, r3, r4⟩
        have hevn := IH n (by omega) Y Rs hY
        have r4' : evCode P B O G n Y g x t1 h1 fun e t h => match e with
          | .normal => evCode P B O G n Y g (.loop x) t h K
          | e => K e t h := r4
        refine hevn ro b0 g x φ1 t1 h1 a1 w1 _ _ hng hlg r2 (hy.step r3) r1 r4' fun e φ' t' h' a' w' q1 q2 q3 q4 => ?_
        cases e with
        | normal =>
          cases n with
          | zero => exact q4.elim
          | succ n => exact ⟨n, by omega, φ', t', h', q1, q2, r3.trans q3, q4⟩
        | exit _ => exact hq _ φ' t' h' a' w' q1 q2 (r3.trans q3) q4
        | goto _ => exact hq _ φ' t' h' a' w' q1 q2 (r3.trans q3) q4
        | ret => exact hq _ φ' t' h' a' w' q1 q2 (r3.trans q3) q4
        | panic _ => exact hq _ φ' t' h' a' w' q1 q2 (r3.trans q3) q4
        | outgrown => exact hq _ φ' t' h' a' w' q1 q2 (r3.trans q3) q4
end

end Rn
end Go.Proofs.YtllbjkeahafleaaGreatDoor
