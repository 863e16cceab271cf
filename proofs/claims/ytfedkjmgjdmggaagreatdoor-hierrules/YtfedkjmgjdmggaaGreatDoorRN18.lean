/-
  What the runner says of the machine: functions, code.
-/
import Derived.Test.YtfedkjmgjdmggaaGreatDoorRN26
set_option linter.unusedSimpArgs false
namespace Go.Proofs.YtfedkjmgjdmggaaGreatDoor
namespace Rn

section
variable {P : Program} {B : Tb} {φ : Fi} {h : Hp} {w : World} {K : KV}

theorem argK_spec {K : Option (T Value) → Prop} : ∀ {args : List Value} {n : Nat} {t : Option (T Value)}, n + args.length ≤ 1000000 → argK n args t K → ∃ t', K t' ∧ ∀ i, tget W t' i = if n ≤ i ∧ i < n + args.length then args[i - n]? else tget W t i
  | [], n, t, _, hk => ⟨t, hk, fun i => by rw [if_neg (by simp only [List.length_nil]; omega)]⟩
  | v :: args, n, t, hl, hk => by
    have hk' : tputK W t n (some v) fun t => fN (Nat.succ n) fun n => argK n args t K := hk
    rw [tputK_eq, fN_eq] at hk'
    simp only [List.length_cons] at hl
    obtain ⟨t', h1, h2⟩ := argK_spec (n := n + 1) (by omega) hk'
    refine ⟨t', h1, fun i => ?_⟩
    rw [h2 i, tget_tput _ _ _ _ _ (w_fits (by simp only [MOST]; omega))]
    simp only [List.length_cons]
    by_cases e : i = n
    · subst e
      rw [if_neg (by omega), if_pos rfl, if_pos (by omega), Nat.sub_self]
      rfl
    · by_cases e2 : n + 1 ≤ i ∧ i < n + 1 + args.length
      · rw [if_pos e2, if_pos (by omega), show i - n = (i - (n + 1)) + 1 by omega]
        rfl
      · rw [if_neg e2, if_neg e, if_neg (by omega)]

theorem resultsK_spec {t : Tm} {a : Act} (hB : TOK P B) (hw : WR B φ h w) (ht : TR φ t a) : ∀ {rs : List ResultVar} {K : List Value → Prop}, resultsK B t h rs K → ∃ l l', K l ∧ All2 (VR φ) l l' ∧ (rs.mapM fun
      | .tmp t => pure (a.tmps.getD t undef)
      | .cell x ty => do loadVar ty (← asAddr (a.tmps.getD x undef)) : Sem (List Value)).run P w = .ok l' w
  | [], K, hk => ⟨[], [], hk, rfl, rfl⟩
  | x :: rs, K, hk => by
    cases x with
    | tmp x =>
      have hk' : valK t (.tmp x) fun v => resultsK B t h rs fun l => K (v :: l) := hk
      obtain ⟨v, h1, h2⟩ := valK_spec ht hk'
      obtain ⟨l, l', h3, h4, h5⟩ := resultsK_spec hB hw ht h1
      refine ⟨v :: l, a.tmps.getD x undef :: l', h3, ⟨h2, h4⟩, ?_⟩
      simp only [List.mapM_cons, Sem.run_bind, Sem.run_pure, Result.andThen_ok, h5]
    | cell x ty =>
      have hk' : valK t (.tmp x) fun a => loadK B h ty a fun v => resultsK B t h rs fun l => K (v :: l) := hk
      obtain ⟨v, h1, h2⟩ := valK_spec ht hk'
      have h2' : VR φ v (a.tmps.getD x undef) := h2
      obtain ⟨u, u', g1, g2, g3⟩ := loadK_spec hB hw h2' h1
      obtain ⟨l, l', h3, h4, h5⟩ := resultsK_spec hB hw ht g1
      refine ⟨u :: l, u' :: l', h3, ⟨g2, h4⟩, ?_⟩
      have hld : (do loadVar ty (← asAddr (a.tmps.getD x undef)) : Sem Value).run P w = .ok u' w := by
        unfold loadK at h1
        split at h1
        · obtain ⟨s, _, e⟩ := h2'.inv
          rw [e] at g3 ⊢
          exact g3
        · exact h1.elim
      simp only [List.mapM_cons, Sem.run_bind] at hld ⊢
      rw [hld]
      simp only [Result.andThen_ok, h5, Sem.run_pure]

theorem run_mapped {s : Sem (List Value)} (w : World) (g : Array Value → Value) : ((do let vs ← List.toArray <$> s; pure (g vs)) : Sem Value).run P w = (s.run P w).andThen fun l w => .ok (g l.toArray) w := by simp
theorem retK_spec {t : Tm} {a : Act} {fn : Func} (hB : TOK P B) (hw : WR B φ h w) (ht : TR φ t a) (hk : retK B fn.results.toList t h K) : ∃ v v', K v h ∧ VR φ v v' ∧ (results fn a.tmps).run P w = .ok v' w := by
  obtain ⟨l, l', h1, h2, h3⟩ := resultsK_spec hB hw ht hk
  have hrun : (results fn a.tmps).run P w = .ok (if hh : l'.toArray.size = 1 then l'.toArray[0] else .tuple l'.toArray) w := by
    unfold results
    rw [Array.mapM_eq_mapM_toList]
    exact (run_mapped _ (fun vs => if hh : vs.size = 1 then vs[0] else .tuple vs)).trans (congrArg (fun r => Result.andThen r fun l w => .ok (if hh : l.toArray.size = 1 then l.toArray[0] else .tuple l.toArray) w) h3)
  have hl := h2.length
  split at h1
  · rename_i v
    cases l' with
    | nil => simp at hl
    | cons v' l' =>
      cases l' with
      | nil => exact ⟨v, v', h1, h2.1, by rw [hrun]; rfl⟩
      | cons _ _ => simp at hl
  · have : l' = [] := List.eq_nil_of_length_eq_zero hl
    subst this
    exact ⟨_, _, h1, tuple_vr h2, by rw [hrun]; rfl⟩
  · rename_i x y l0
    have hne : ¬ l'.toArray.size = 1 := by simp at hl ⊢; omega
    exact ⟨_, .tuple l'.toArray, h1, tuple_vr h2, by rw [hrun, dif_neg hne]⟩
/-- All plans are those of the program's regions. -/
def PlansOK (P : Program) (G : Plans) : Prop := ∀ (g : Nat) (fn : Func) (c : Code), P.funcs[g]? = some fn → fn.body = some c → legalCode G g c = true
/-- What is asked of code that the runner has followed. -/
def CodeOK (P : Program) (B : Tb) (G : Plans) (code : Nat → Code → Tm → Hp → KE → Prop) : Prop :=
  ∀ (g : Nat) (c : Code) (φ : Fi) (t : Tm) (h : Hp) (a : Act) (w : World) (K : KE) (Q : Exit → Act → World → Prop), legalCode G g c = true → WR B φ h w → TR φ t a → code g c t h K →
    (∀ e φ' t' h' a' w', TR φ' t' a' → WR B φ' h' w' → St φ h w φ' h' w' → K e t' h' → Q e a' w') → c.wp P Q a w

theorem callN_ok {G : Plans} {code : Nat → Code → Tm → Hp → KE → Prop} (hB : TOK P B) (hG : PlansOK P G) (hc : CodeOK P B G code) : CallOK P B (callN P B code) := {
  body := fun {g args h K} hk => by
    obtain ⟨fn, h1, h2⟩ := (nthK_iff _ _ _).1 hk
    split at h2
    · rename_i c hb
      exact ⟨fn, c, by simpa using h1, hb⟩
    · exact h2.elim
  run := fun {g args args' h K φ w} hw hargs hk => by
    obtain ⟨fn, h1, h2⟩ := (nthK_iff _ _ _).1 hk
    have h1' : P.funcs[g]? = some fn := by simpa using h1
    split at h2
    · rename_i c hb
      rw [lenK_eq] at h2
      split at h2
      · rename_i hle
        have hle' := Nat.le_of_ble_eq_true hle
        split at h2
        · rename_i hsm
          have hsm' := Nat.le_of_ble_eq_true hsm
          obtain ⟨t, h3, h4⟩ := argK_spec (by omega) h2
          have hlen := hargs.length
          refine calls_of_wp h1' hb (hc g c φ ⟨fn.ntmps, t⟩ h _ w _ _ (hG g fn c h1' hb) hw ⟨?_, rfl, hsm', fun i => ?_⟩ h3 fun e φ' t' h' a' w' q1 q2 q3 q4 => ?_)
          · show (args'.toArray ++ Array.replicate (fn.ntmps - args'.toArray.size) undef).size = fn.ntmps
            simp
            omega
          · show VR φ ((tget W t i).getD undef) ((args'.toArray ++ Array.replicate (fn.ntmps - args'.toArray.size) undef).getD i undef)
            rw [h4 i, Array.getD_eq_getD_getElem?]
            have e0 : tget W (none : Option (T Value)) i = none := by rfl
            by_cases hi : i < args.length
            · rw [if_pos (by omega), Nat.sub_zero]
              obtain ⟨y, g1, g2⟩ := hargs.get i args[i] (by simp [hi])
              rw [Array.getElem?_append_left (by simp; omega)]
              have : args'.toArray[i]? = some y := by simpa using g1
              rw [this]
              simpa [hi] using g2
            · rw [if_neg (by omega), e0, Array.getElem?_append_right (by simp; omega)]
              have : (Array.replicate (fn.ntmps - args'.toArray.size) undef)[i - args'.toArray.size]?.getD undef = undef := by
                rw [Array.getElem?_replicate]
                split <;> rfl
              rw [this]
              exact undef_vr
          · cases e with
            | normal =>
              obtain ⟨v, v', k1, k2, k3⟩ := retK_spec hB q2 q1 q4
              exact ⟨q1.defers, v', k3, φ', h', v, v', rfl, k2, q2, q3, k1⟩
            | ret =>
              obtain ⟨v, v', k1, k2, k3⟩ := retK_spec hB q2 q1 q4
              exact ⟨q1.defers, v', k3, φ', h', v, v', rfl, k2, q2, q3, k1⟩
            | exit _ => exact q4.elim
            | goto _ => exact q4.elim
            | panic _ => exact q4.elim
            | outgrown => exact q4.elim
        · exact h2.elim
      · exact h2.elim
    · exact h2.elim }

/-- What is known of calls holds. -/
structure OvOK (P : Program) (O : Ov) : Prop where
  wi : ∀ g, O.wi = some g → (∃ fn c, P.funcs[g]? = some fn ∧ fn.body = some c) ∧ ∀ (x : Int) (n : Nat) (w : World), -9223372036854775808 ≤ x → x < 9223372036854775808 → 0 < n → n < 1000000000 →
    Calls P g #[.int .i64 x, .int .i64 n] w fun e w' => e = .returned (.int .i64 (left x n)) ∧ w'.heap = w.heap ∧ Sm w w'
  kn : ∀ g, O.kn = some g → (∃ fn c, P.funcs[g]? = some fn ∧ fn.body = some c) ∧ ∀ w, Calls P g #[] w fun e w' => e = .returned (.bool true) ∧ w.heap.size ≤ w'.heap.size ∧ (∀ k, k < w.heap.size → w'.heap[k]? = w.heap[k]?) ∧ Sm w w'
theorem isO_spec {o : Option Nat} {g : Nat} (h : isO o g = true) : o = some g := by
  unfold isO at h
  split at h
  · cases h
  · rw [Nat.eq_of_beq_eq_true h]
theorem WR.behind {w' : World} (hw : WR B φ h w) (hs : w.heap.size ≤ w'.heap.size) (hk : ∀ k, k < w.heap.size → w'.heap[k]? = w.heap[k]?) : WR B φ h w' := by
  refine ⟨fun r x hx => ?_, hw.apart, hw.below, hw.live, hw.few, hw.low⟩
  obtain ⟨s, h1, h2⟩ := hw.rows r x hx
  exact ⟨s, h1, h2.keep (fun _ _ g => g) hs (hk _ h2.lt)⟩
theorem St.behind {w' : World} (hs : w.heap.size ≤ w'.heap.size) (hk : ∀ k, k < w.heap.size → w'.heap[k]? = w.heap[k]?) (hm : Sm w w') : St φ h w φ h w' := ⟨fun _ _ g => g, hs, fun b hb _ => hk b hb, fun r o s h1 h2 => .inr ⟨r, o, s, h1, h2, rfl⟩, hm⟩
theorem callK_ok {G : Plans} {O : Ov} {code : Nat → Code → Tm → Hp → KE → Prop} (hB : TOK P B) (hG : PlansOK P G) (hO : OvOK P O) (hc : CodeOK P B G code) : CallOK P B (callK P B O code) := {
  body := fun {g args h K} hk => by
    unfold callK at hk
    split at hk
    · rename_i hi
      exact (hO.kn g (isO_spec hi)).1
    · split at hk
      · rename_i hi
        exact (hO.wi g (isO_spec hi)).1
      · exact (callN_ok hB hG hc).body hk
  run := fun {g args args' h K φ w} hw hargs hk => by
    unfold callK at hk
    split at hk
    · rename_i hi
      split at hk
      · have : args' = [] := hargs
        subst this
        refine ((hO.kn g (isO_spec hi)).2 w).mono ?_
        rintro e w' ⟨rfl, h1, h2, h3⟩
        exact ⟨φ, h, _, _, rfl, bool_vr, hw.behind h1 h2, St.behind h1 h2 h3, hk⟩
      · exact hk.elim
    · split at hk
      · rename_i hi
        split at hk
        · rename_i x y
          split at hk
          · rename_i r
            split at hk
            · rename_i n
              split at hk
              · rename_i hb
                split at hk
                · rename_i hb1
                  split at hk
                  · rename_i hb2
                    have hpos : 0 < n ∧ n < 1000000000 := ⟨Nat.le_of_ble_eq_true hb1, Nat.lt_of_le_of_lt (Nat.le_of_ble_eq_true hb2) (by omega)⟩
                    rw [fN_eq] at hk
                    have hn : r / MK = n := Nat.eq_of_beq_eq_true hb
                    cases args' with
                    | nil => exact hargs.elim
                    | cons x' l =>
                      cases l with
                      | nil => exact hargs.2.elim
                      | cons y' l =>
                        obtain ⟨hx, hy, hl⟩ := hargs
                        cases hl
                        obtain ⟨z, rfl, h1, h2, h3⟩ := hx.inv
                        have hy' : y' = .int .i64 (.ofNat n) := hy.inv
                        subst hy'
                        refine ((hO.wi g (isO_spec hi)).2 z n w h1 h2 hpos.1 hpos.2).mono ?_
                        rintro e w' ⟨rfl, h4, h5⟩
                        rw [hn] at h3
                        refine ⟨φ, h, _, .int .i64 (left z n), rfl, ?_, hw.same h4, St.same h4 h5, hk⟩
                        rw [h3]
                        exact int_vr
                  · exact hk.elim
                · exact hk.elim
              · exact hk.elim
            · exact hk.elim
          · exact (callN_ok hB hG hc).run hw hargs hk
        · exact hk.elim
      · exact (callN_ok hB hG hc).run hw hargs hk }

open Classical in
/-- A loop, by how much is left. -/
theorem wp_loop_fuel {c : Code} {Q : Exit → Act → World → Prop} {a : Act} {w : World} (J : Nat → Act → World → Prop) (N : Nat) (h0 : J N a w)
    (round : ∀ n a w, n ≤ N → J n a w → c.wp P (Exit.then (fun a' w' => ∃ m, m < n ∧ J m a' w') Q) a w) : (Code.loop c).wp P Q a w := by
  have key : ∀ n a w, n ≤ N → J n a w → ∀ (b : Frame) (k : List Item) (cs : List Frame), ∃ e a' w', Q e a' w' ∧ Arrives P (lone (b.at a (.code c :: .inLoop c :: k)) cs w) b k cs e a' w' := by
    intro n
    induction n using Nat.strongRecOn with
    | _ n ih =>
      intro a w hn hJ b k cs
      obtain ⟨e, a1, w1, hq, harr⟩ := round n a w hn hJ b (.inLoop c :: k) cs
      cases e with
      | normal =>
        obtain ⟨m, hm, hJ'⟩ := hq
        obtain ⟨e2, a2, w2, hq2, harr2⟩ := ih m hm a1 w1 (by omega) hJ' b k cs
        exact ⟨e2, a2, w2, hq2, .of_steps (Steps.trans harr (.one step_inLoop)) harr2⟩
      | exit id => exact ⟨_, a1, w1, hq, .pass (x := .inLoop c) rfl (fun _ _ => .inl (by simp)) harr⟩
      | goto l => exact ⟨_, a1, w1, hq, .pass (x := .inLoop c) rfl (fun _ _ => .inl (by simp)) harr⟩
      | ret => exact ⟨_, a1, w1, hq, .pass (x := .inLoop c) rfl (fun _ _ => .inl (by simp)) harr⟩
      | panic ch => exact ⟨_, a1, w1, hq, .pass (x := .inLoop c) rfl (fun _ _ => .inl (by simp)) harr⟩
      | outgrown => exact ⟨_, a1, w1, hq, .pass (x := .inLoop c) rfl (fun _ _ => .inl (by simp)) harr⟩
  intro b k cs
  obtain ⟨e, a', w', hq, harr⟩ := key N a w (Nat.le_refl _) h0 b k cs
  exact ⟨e, a', w', hq, .of_steps (.one step_loop) harr⟩
/-- What the runner has followed the machine does. -/
theorem findRK_spec {id : Nat} {K : Rp → Prop} : ∀ {l : List Rg}, findRK id l K → ∃ p, findR id l = some p ∧ K p
  | [], h => h.elim
  | r :: l, h => by
    have h' : (match Nat.beq r.id id with | true => K r.p | false => findRK id l K) := h
    cases hb : Nat.beq r.id id with
    | true => rw [hb] at h'; exact ⟨r.p, by simp only [findR, hb], h'⟩
    | false =>
      rw [hb] at h'
      obtain ⟨p, h1, h2⟩ := findRK_spec h'
      exact ⟨p, by simp only [findR, hb]; exact h1, h2⟩
theorem legalFuncs_ok {G : Plans} (h : legalFuncs G P.funcs.toList 0 = true) : PlansOK P G := by
  have key : ∀ (l : List Func) (g0 : Nat), legalFuncs G l g0 = true → ∀ (g : Nat) (fn : Func) (c : Code), l[g]? = some fn → fn.body = some c → legalCode G (g0 + g) c = true := by
    intro l
    induction l with
    | nil => intro g0 _ g fn c hg; simp at hg
    | cons f l ih =>
      intro g0 hl g fn c hg hb
      simp only [legalFuncs, Bool.and_eq_true] at hl
      cases g with
      | zero =>
        have : f = fn := by simpa using hg
        subst this
        rw [hb] at hl
        exact hl.1
      | succ g =>
        have := ih (g0 + 1) hl.2 g fn c (by simpa using hg) hb
        rwa [show g0 + (g + 1) = g0 + 1 + g by omega]
  intro g fn c hg hb
  have := key _ 0 h g fn c (by simpa using hg) hb
  simpa using this
theorem unl_none (n : Nat) : unl (Array.replicate n false) = n := by simp [unl, List.countP_replicate]
theorem evCode_ok {G : Plans} {O : Ov} (hB : TOK P B) (hG : PlansOK P G) (hO : OvOK P O) : ∀ f, CodeOK P B G (evCode P B O G f) := by
  intro f
  induction f using Nat.strongRecOn with
  | _ f IH =>
    intro g c φ t h a w K Q hlg hw ht hk hq
    cases f with
    | zero => exact hk.elim
    | succ f =>
      have hev := IH f (by omega)
      have hcall := callK_ok hB hG hO hev
      unfold evCode at hk
      simp only at hk
      split at hk
      · exact wp_skip (hq _ φ t h a w ht hw (St.refl _ _ _) hk)
      · exact wp_label (hq _ φ t h a w ht hw (St.refl _ _ _) hk)
      · exact wp_ret (hq _ φ t h a w ht hw (St.refl _ _ _) hk)
      · exact wp_exit (hq _ φ t h a w ht hw (St.refl _ _ _) hk)
      · exact wp_goto (hq _ φ t h a w ht hw (St.refl _ _ _) hk)
      · exact wp_region_list (evOps_spec hB hcall _ φ t h a w hw ht hk fun φ' t' h' a' w' q1 q2 q3 q4 => hq _ φ' t' h' a' w' q1 q2 q3 q4)
      · rename_i id ops
        rw [tgetK_eq] at hk
        split at hk
        · rename_i l0 hp0
          obtain ⟨⟨X, l⟩, hp, hk⟩ := findRK_spec hk
          simp only [legalCode, hp0, hp, legalAll, Bool.and_eq_true] at hlg
          obtain ⟨g1, g2, g3⟩ := hlg
          have hwd : WR B φ h { w with drawn := w.drawn + 1 } := hw.same rfl
          refine Code.wp_mono (Q := fun e a' w' => e = .normal ∧ Q .normal a' w') (fun e a' w' g => by cases g.1; exact g.2) (wp_region_any hB.mixed (wpAnyS.any (evDraw_spec (X := X) (φ0 := φ) (h0 := h) (w0 := { w with drawn := w.drawn + 1 }) hB hcall g1 (fun x hx o ho e he hb hm => ?_) (fun φ' t' h' a' w' q1 q2 q3 q4 => ?_) l _ _ [] [] [] (fun _ => none) φ t h a a _ ops.size g3 ?_ (by rw [unl_none]; exact Nat.le_refl _) hwd ht (fun p hp => by cases hp) (fun e he => by cases he) (St.refl _ _ _) hk)))
          · have := List.all_eq_true.1 g2 x hx
            rw [ho] at this
            have := Array.all_eq_true'.1 this e he
            simp only [Bool.or_eq_true, Bool.not_eq_true', hb, Bool.true_eq_false, false_or, List.contains_eq_mem, decide_eq_false_iff_not] at this
            exact this hm
          · exact hq _ φ' t' h' a' w' q1 q2 ((St.same (φ := φ) (h := h) (w := w) (w' := { w with drawn := w.drawn + 1 }) rfl ⟨rfl, rfl, rfl⟩).trans q3) q4
          · exact ⟨(fun q hq => by cases hq), (fun q hq => by cases hq), (fun k b hd => by cases hd), (fun k k' b hd => by cases hd), rfl, rfl, (fun _ _ => rfl), rfl, (fun _ => rfl)⟩
        · exact hk.elim
      · rename_i x y
        simp only [legalCode, Bool.and_eq_true] at hlg
        refine wp_seq (hev g x φ t h a w _ _ hlg.1 hw ht hk fun e φ' t' h' a' w' q1 q2 q3 q4 => ?_)
        cases e with
        | normal => exact hev g y φ' t' h' a' w' K Q hlg.2 q2 q1 q4 fun e2 φ2 t2 h2 a2 w2 r1 r2 r3 r4 => hq e2 φ2 t2 h2 a2 w2 r1 r2 (q3.trans r3) r4
        | exit _ => exact hq _ φ' t' h' a' w' q1 q2 q3 q4
        | goto _ => exact hq _ φ' t' h' a' w' q1 q2 q3 q4
        | ret => exact hq _ φ' t' h' a' w' q1 q2 q3 q4
        | panic _ => exact hq _ φ' t' h' a' w' q1 q2 q3 q4
        | outgrown => exact hq _ φ' t' h' a' w' q1 q2 q3 q4
      · rename_i c x y
        simp only [legalCode, Bool.and_eq_true] at hlg
        obtain ⟨v, h1, h2⟩ := valK_spec ht hk
        split at h1
        · have e : a.eval c = .bool true := h2.inv
          exact wp_cond_true e (hev g x φ t h a w K Q hlg.1 hw ht h1 hq)
        · have e : a.eval c = .bool false := h2.inv
          exact wp_cond_false e (hev g y φ t h a w K Q hlg.2 hw ht h1 hq)
        · exact h1.elim
      · rename_i i x
        refine wp_block (hev g x φ t h a w _ _ hlg hw ht hk fun e φ' t' h' a' w' q1 q2 q3 q4 => ?_)
        cases e with
        | exit j =>
          simp only at q4
          split at q4
          · rename_i hb
            have := Nat.eq_of_beq_eq_true hb
            subst this
            simp only [Exit.inBlock, if_true]
            exact hq _ φ' t' h' a' w' q1 q2 q3 q4
          · rename_i hb
            have hne : ¬ j = i := fun e => by rw [e, Nat.beq_refl] at hb; cases hb
            simp only [Exit.inBlock, hne, if_false]
            exact hq _ φ' t' h' a' w' q1 q2 q3 q4
        | normal => exact hq _ φ' t' h' a' w' q1 q2 q3 q4
        | goto _ => exact hq _ φ' t' h' a' w' q1 q2 q3 q4
        | ret => exact hq _ φ' t' h' a' w' q1 q2 q3 q4
        | panic _ => exact hq _ φ' t' h' a' w' q1 q2 q3 q4
        | outgrown => exact hq _ φ' t' h' a' w' q1 q2 q3 q4
      · rename_i x
        refine wp_loop_fuel (fun n a' w' => ∃ φ' t' h', TR φ' t' a' ∧ WR B φ' h' w' ∧ St φ h w φ' h' w' ∧ evCode P B O G (n + 1) g (.loop x) t' h' K) f ⟨φ, t, h, ht, hw, St.refl _ _ _, hk⟩ ?_
        rintro n a1 w1 hn ⟨φ1, t1, h1, r1, r2, r3, r4⟩
        have hevn := IH n (by omega)
        have r4' : evCode P B O G n g x t1 h1 fun e t h => match e with
          | .normal => evCode P B O G n g (.loop x) t h K
          | e => K e t h := r4
        refine hevn g x φ1 t1 h1 a1 w1 _ _ hlg r2 r1 r4' fun e φ' t' h' a' w' q1 q2 q3 q4 => ?_
        cases e with
        | normal =>
          cases n with
          | zero => exact q4.elim
          | succ n => exact ⟨n, by omega, φ', t', h', q1, q2, r3.trans q3, q4⟩
        | exit _ => exact hq _ φ' t' h' a' w' q1 q2 (r3.trans q3) q4
        | goto _ => exact hq _ φ' t' h' a' w' q1 q2 (r3.trans q3) q4
        | ret => exact hq _ φ' t' h' a' w' q1 q2 (r3.trans q3) q4
        | panic _ => exact hq _ φ' t' h' a' w' q1 q2 (r3.trans q3) q4
        | outgrown => exact hq _ φ' t' h' a' w' q1 q2 (r3.trans q3) q4
      · exact hk.elim
end

end Rn
end Go.Proofs.YtfedkjmgjdmggaaGreatDoor
