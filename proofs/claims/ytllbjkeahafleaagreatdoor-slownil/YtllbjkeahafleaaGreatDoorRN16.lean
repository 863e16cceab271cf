/-
  What the runner's operations say of the machine's: all of them.
-/
import Derived.Test.YtllbjkeahafleaaGreatDoorRN15
set_option linter.unusedSimpArgs false
namespace Go.Proofs.YtllbjkeahafleaaGreatDoor
namespace Rn

section
variable {P : Program} {B : Tb} {φ : Fi} {h : Hp} {w : World} {K : KV} {ds : List Deferred}

theorem oAppendZeros_spec {st xt ty : Nat} {s s' x x' : Value} (hB : TOK P B) (hw : WR B φ h w) (hs : VR φ s s') (hx : VR φ x x') (hxt : ∃ k, P.underlying xt = some (.int k)) (hk : oAppendZeros B st s x h K) :
    Done B φ h w ((Builtin.append_ #[st, xt] ty #[s', x']).run P w) K := by
  obtain ⟨kx, hxu⟩ := hxt
  obtain ⟨i0, h1, h2⟩ := tyK_spec hk
  obtain ⟨d0, h3, h4⟩ := (hB.ok st i0 h1).under
  split at h2
  · rename_i e hki
    have hd := kd_slice hki h4
    subst hd
    obtain ⟨i, h5, h6, hso⟩ := tySK_spec h2
    have hiO := hB.ok e i h5
    obtain ⟨k, n, rfl, h7⟩ := natK_spec hx h6
    split at h7
    · have e0 : s' = .slice none 0 0 := hs.inv
      subst e0
      have hz : (underlying xt).run P w = .ok (.int kx) w := run_underlying hxu w
      obtain ⟨ti, r1, r2, r3⟩ := hiO.info (w := w)
      split at h7
      · have e1 : (Builtin.append_ #[st, xt] ty #[.slice none 0 0, .int k (.ofNat 0)]).run P w = .ok (.slice none 0 0) w := by
          have hw0 : IntKind.i64.wrap (Int.ofNat 0) = 0 := by decide
          have hb : ¬ ((0 : Int) * (i.bytes : Int) > 2 ^ 48) := by rw [Int.zero_mul]; decide
          have hl0 : ¬ ((0 : Int) < 0) := by decide
          have hw1 : IntKind.i64.wrap 0 = 0 := by decide
          simp only [Builtin.append_, List.getElem?_toArray, List.getElem?_cons_zero, List.getElem?_cons_succ, Sem.run_bind, run_underlying h3, Result.andThen_ok, hiO.size, hz, Sem.run_pure, asInt, asIntOf, hw0, hl0, if_false, r1, r3, hb]
          simp [Sem.run_pure, hw1, r1]
        rw [e1]
        exact .same hw hs h7
      · rename_i m
        split at h7
        · rename_i hsm0
          have hsm : (m + 1) * (i.bytes + i.size + 1) ≤ MOST := Nat.le_of_ble_eq_true hsm0
          split at h7
          case h_2 => exact h7.elim
          rename_i hone0
          have hone : 1 ≤ i.size := Nat.le_of_ble_eq_true hone0
          rw [repsK_eq] at h7
          have hN := need_small hsm
          have hcap := cap_small (cap := 0) (show 0 < m + 1 by omega) hsm
          obtain ⟨z, q1, q2, _, _⟩ := hiO.zero (w := w)
          have hzs := hiO.zlen q2
          have q1' : (zeroValue e).run P w.drew = .ok z w.drew := by
            obtain ⟨ti0, _, z0, g1, _, _, _, _, g6, _⟩ := hiO.known
            have a1 : ∀ w' : World, (zeroValue e).run P w' = .ok z0 w' := fun w' => by
              simp only [zeroValue, typeInfo, Sem.run_bind, run_program, Result.andThen_ok, g1]
              show (match ti0.zero with | some v => pure v | none => unsupported _ : Sem Value).run P w' = _
              rw [g6]
              rfl
            have := a1 w
            rw [q1] at this
            cases this
            exact a1 _
          have r1' : (typeInfo e).run P w.drew = .ok ti w.drew := by
            obtain ⟨ti0, _, _, g1, _⟩ := hiO.known
            have a1 : ∀ w' : World, (typeInfo e).run P w' = .ok ti0 w' := fun w' => by simp only [typeInfo, Sem.run_bind, run_program, Result.andThen_ok, g1]; rfl
            have := a1 w
            rw [r1] at this
            cases this
            exact a1 _
          let nw : Array Value := if (m + 1) * i.size = 0 then #[] else Builtin.zeroCells z.cells (m + 1)
          have hnw : nw.toList = (List.replicate (m + 1) i.zero).flatten := by
            by_cases h0 : (m + 1) * i.size = 0
            · have e1 : (List.replicate (m + 1) i.zero).flatten = [] := List.eq_nil_of_length_eq_zero (by rw [rep_len, hiO.len]; exact h0)
              rw [e1, show nw = #[] from if_pos h0]
            · rw [show nw = Builtin.zeroCells z.cells (m + 1) from if_neg h0, ← q2]
              exact zero_rows z.cells (m + 1)
          obtain ⟨cap, hcap1⟩ : ∃ c, c = (Question.appendCap (m + 1) 0 e).cut (w.tape w.drawn (.appendCap (m + 1) 0 e)) := ⟨_, rfl⟩
          have hcap2 : m + 1 ≤ cap := by rw [hcap1]; simp only [Question.cut]; omega
          have hcap3 : cap ≤ MAXL := by
            rw [hcap1]
            simp only [Question.cut, MAXL]
            have : w.tape w.drawn (Question.appendCap (m + 1) 0 e) % (2 ^ 63 - (m + 1)) < 2 ^ 63 - (m + 1) := Nat.mod_lt _ (by omega)
            omega
          have hnl : nw.size = (m + 1) * i.size := by rw [← Array.length_toList, hnw, rep_len, hiO.len]
          have hsize : (#[] ++ nw ++ Builtin.zeroCells z.cells (cap - (m + 1))).size = cap * i.size := by
            have : (Builtin.zeroCells z.cells (cap - (m + 1))).size = (cap - (m + 1)) * i.size := by simp [Builtin.zeroCells, hzs]
            rw [Array.size_append, Array.size_append, this, hnl]
            simp only [List.size_toArray, List.length_nil, Nat.zero_add]
            rw [← Nat.add_mul]
            congr 1
            omega
          have hk' : newK h (.cells ⟨(List.replicate (m + 1) i.zero).flatten⟩ e) fun r h => K (.slice (some ⟨r, 0, none⟩) (m + 1) TOP) h := by
            unfold grownK at h7
            rw [fN_eq] at h7
            exact h7
          have hwd : WR B φ h w.drew := hw.same rfl
          have hclen : (List.replicate (m + 1) i.zero).flatten.length = nw.toList.length := by rw [hnw]
          obtain ⟨φ', h', rr, p1, p2, p3, p4, p5⟩ := newCells (c := #[] ++ nw ++ Builtin.zeroCells z.cells (cap - (m + 1))) i.size hwd hk'
            (by
              rw [hclen]
              have : (#[] ++ nw ++ Builtin.zeroCells z.cells (cap - (m + 1))).toList = nw.toList ++ (Builtin.zeroCells z.cells (cap - (m + 1))).toList := by simp
              rw [this, List.take_append_of_le_length (Nat.le_refl _), List.take_length, hnw]
              exact reps_cr hiO _)
            (by rw [hsize, hclen, Array.length_toList, hnl]; exact Nat.mul_le_mul_right _ hcap2) (fun k hk => by rw [h5] at hk; cases hk; rfl) (no_solo h5 hso)
          refine ⟨φ', h', _, _, .slice (some ⟨w.heap.size, 0, none⟩) (m + 1) cap, ?_, slice_vr (s := ⟨w.heap.size, 0, _, i.size⟩) p4 p3 (fun e => absurd rfl e) (fun _ => ⟨hcap2, by show 0 + cap * i.size = _; rw [Nat.zero_add]; exact hsize.symm, hone, hcap3⟩), p1, (St.same (φ := φ) (h := h) (w := w) (w' := w.drew) rfl ⟨rfl, rfl, rfl⟩).trans p2, p5⟩
          have hw1 : IntKind.i64.wrap (Int.ofNat (m + 1)) = ((m + 1 : Nat) : Int) := by simp only [IntKind.wrap, IntKind.bits, IntKind.signed, Int.ofNat_eq_natCast]; simp; omega
          have hneg : ¬ (((m + 1 : Nat) : Int) < 0) := by omega
          have hbb : (m + 1) * i.bytes ≤ 1000000000 := by
            have : (m + 1) * i.bytes ≤ (m + 1) * (i.bytes + i.size + 1) := Nat.mul_le_mul_left _ (by omega)
            simp only [MOST] at hsm
            omega
          have hb : ¬ (((m + 1 : Nat) : Int) * (i.bytes : Int) > 2 ^ 48) := by rw [← Int.natCast_mul]; omega
          have hi64 : ¬ (((0 + (m + 1) : Nat) : Int) > IntKind.i64.max) := by
            simp only [IntKind.max, IntKind.signed, IntKind.bits]
            simp
            omega
          have hle : ¬ (0 + (m + 1) ≤ 0) := by omega
          have hroom : ∀ (b : Nat) (w' : World), (askRoom b).run P w' = .ok () w' := fun b w' => by unfold askRoom; split <;> rfl
          have hch : (choose (.appendCap (0 + (m + 1)) 0 e)).run P w = .ok cap w.drew := by
            rw [run_choose_drew, hcap1, Nat.zero_add]
            rfl
          have hcap' : ¬ (Builtin.nextslicecap (0 + (m + 1)) 0 * i.bytes > 2 ^ 48) := by rw [Nat.zero_add]; exact hcap
          have hfirst : (Builtin.firstCells i.size 0 (.slice none 0 0)).run P w.drew = .ok #[] w.drew := rfl
          simp only [Builtin.append_, List.getElem?_toArray, List.getElem?_cons_zero, List.getElem?_cons_succ, Sem.run_bind, run_underlying h3, Result.andThen_ok, hiO.size, hz, Sem.run_pure, asInt, asIntOf, hw1, hneg, if_false, r1, r3, hb, Int.toNat_natCast, hle, hi64, false_and, hcap', hch, hroom, hfirst, q1', r1', if_true, Bool.not_true, Bool.false_eq_true]
          by_cases h0 : (m + 1) * i.size = 0
          · rw [if_pos h0, show nw = #[] from if_pos h0]
            simp only [Sem.run_bind, Sem.run_pure, Result.andThen_ok, q1', newRow, run_newObj_alloc, Nat.zero_add]
            rfl
          · rw [if_neg h0, show nw = Builtin.zeroCells z.cells (m + 1) from if_neg h0]
            simp only [Sem.run_bind, Sem.run_pure, Result.andThen_ok, q1', newRow, run_newObj_alloc, Nat.zero_add]
            rfl
        · exact h7.elim
    · exact h7.elim
  · exact h2.elim

/-- What an operation comes to. -/
def DoneN (B : Tb) (φ : Fi) (h : Hp) (w : World) (r : Result Next) (K : KV) : Prop :=
  ∃ n φ' h' w' v v', r = .ok n w' ∧ (n = .value v' ∨ (n = .skip ∧ v' = undef)) ∧ VR φ' v v' ∧ WR B φ' h' w' ∧ St φ h w φ' h' w' ∧ K v h'
theorem Done.value {s : Sem Value} (hd : Done B φ h w (s.run P w) K) : DoneN B φ h w ((do pure (.value (← s)) : Sem Next).run P w) K := by
  obtain ⟨φ', h', w', v, v', h1, h2, h3, h4, h5⟩ := hd
  exact ⟨.value v', φ', h', w', v, v', by simp only [Sem.run_bind, h1, Result.andThen_ok, Sem.run_pure], .inl rfl, h2, h3, h4, h5⟩
theorem DoneN.unit {s : Sem Unit} {h' : Hp} {w' : World} (h1 : s.run P w = .ok () w') (h2 : WR B φ h' w') (h3 : St φ h w φ h' w') (h4 : K undef h') : DoneN B φ h w ((do s; pure .skip : Sem Next).run P w) K :=
  ⟨.skip, φ, h', w', undef, undef, by simp only [Sem.run_bind, h1, Result.andThen_ok, Sem.run_pure], .inr ⟨rfl, rfl⟩, undef_vr, h2, h3, h4⟩
theorem DoneN.same {v v' : Value} (hw : WR B φ h w) (hv : VR φ v v') (hk : K v h) : DoneN B φ h w (.ok (.value v') w) K := ⟨_, φ, h, w, v, v', rfl, .inl rfl, hv, hw, St.refl _ _ _, hk⟩

/-- What an operation comes to that reads alone. -/
def DoneRN (B : Tb) (φ : Fi) (h : Hp) (w : World) (r : Result Next) (K : KV) : Prop := ∃ v v', r = .ok (.value v') w ∧ VR φ v v' ∧ WR B φ h w ∧ K v h
theorem DoneR.value {s : Sem Value} (hd : DoneR B φ h w (s.run P w) K) : DoneRN B φ h w ((do pure (.value (← s)) : Sem Next).run P w) K := by
  obtain ⟨v, v', h1, h2, h3, h4⟩ := hd
  exact ⟨v, v', by simp only [Sem.run_bind, h1, Result.andThen_ok, Sem.run_pure], h2, h3, h4⟩
theorem DoneRN.same {v v' : Value} (hw : WR B φ h w) (hv : VR φ v v') (hk : K v h) : DoneRN B φ h w (.ok (.value v') w) K := ⟨v, v', rfl, hv, hw, hk⟩
theorem DoneRN.n {r : Result Next} (hd : DoneRN B φ h w r K) : DoneN B φ h w r K := by
  obtain ⟨v, v', h1, h2, h3, h4⟩ := hd
  rw [h1]
  exact .same h3 h2 h4

theorem makeIface_spec {ty : Nat} {x x' : Value} (hB : TOK P B) (hw : WR B φ h w) (hx : VR φ x x') (hk : tyK B ty fun i => match i.kind with
    | .interface _ => False
    | _ => K (.iface ty x) h) : DoneR B φ h w ((Instr.makeInterface ty x').run P w) K := by
  obtain ⟨i, g1, g2⟩ := tyK_spec hk
  obtain ⟨d, g3, g4⟩ := (hB.ok _ i g1).under
  split at g2
  · exact g2.elim
  · rename_i hni
    have e : (Instr.makeInterface ty x').run P w = .ok (.iface ty x') w := by
      simp only [Instr.makeInterface, Sem.run_bind, run_underlying g3, Result.andThen_ok]
      split
      · rename_i ms
        exfalso
        unfold Kd at g4
        split at g4 <;> first
          | (cases g4; done)
          | (obtain ⟨_, e, _⟩ := g4; cases e; done)
          | (obtain ⟨_, _, _, e⟩ := g4; cases e; done)
          | (rename_i ms' hk'; exact hni _ hk')
          | exact g4.elim
      · rfl
    rw [e]
    exact .same hw (VR.mk (v := .iface ty x) ⟨_, rfl, hx⟩) g2

theorem taFails_spec {a : Nat} {ok : Bool} {f : Sem Value} (hB : TOK P B) (hw : WR B φ h w) (hk : taFails B a ok h K) (hf : ok = true → f = (do pure (.tuple #[← zeroValue a, .bool false]) : Sem Value)) : DoneR B φ h w (f.run P w) K := by
  unfold taFails at hk
  split at hk
  · obtain ⟨j, h1, h2⟩ := tyK_spec hk
    obtain ⟨z, z', k1, k2, k3⟩ := zeroK_spec (P := P) (w := w) (φ := φ) (hB.ok a j h1) h2
    have e : f.run P w = .ok (.tuple #[z', .bool false]) w := by
      rw [hf rfl]
      simp only [Sem.run_bind, k3, Result.andThen_ok, Sem.run_pure]
    rw [e]
    exact .same hw (tuple_vr (xs := [z, .bool false]) (ys := [z', .bool false]) ⟨k2, bool_vr, rfl⟩) k1
  · exact hk.elim
theorem oAssert_spec {s a : Nat} {ok : Bool} {x x' : Value} (hB : TOK P B) (hw : WR B φ h w) (hx : VR φ x x') (hk : oAssert B a ok x h K) : DoneR B φ h w ((Instr.typeAssert x' s a ok).run P w) K := by
  obtain ⟨i, h1, h2⟩ := tyK_spec hk
  obtain ⟨d, h3, h4⟩ := (hB.ok a i h1).under
  split at h2
  · exact h2.elim
  · rename_i hni
    have hd : ∀ ms, d ≠ .interface ms := fun ms e => by
      subst e
      unfold Kd at h4
      split at h4 <;> first
        | (cases h4; done)
        | (obtain ⟨_, e, _⟩ := h4; cases e; done)
        | (rename_i hki; exact hni _ hki)
        | (obtain ⟨_, _, _, e⟩ := h4; cases e)
    split at h2
    · have hx' : x' = .nilIface := hx.inv
      subst hx'
      refine (taFails_spec (f := do if ok then pure (.tuple #[← zeroValue a, .bool false]) else runtimePanic (.typeAssertion (some s) none a "")) hB hw h2 fun e => by subst e; rfl) |> fun q => ?_
      have e : (Instr.typeAssert .nilIface s a ok).run P w = ((do if ok then pure (.tuple #[← zeroValue a, .bool false]) else runtimePanic (.typeAssertion (some s) none a "")) : Sem Value).run P w := by
        unfold Instr.typeAssert
        simp only [Sem.run_bind, run_underlying h3, Result.andThen_ok]
      rw [e]
      exact q
    · rename_i t v
      obtain ⟨v', rfl, hv⟩ := hx.inv
      split at h2
      · rename_i hb
        have hta := Nat.eq_of_beq_eq_true hb
        have e : (Instr.typeAssert (.iface t v') s a ok).run P w = .ok (if ok then .tuple #[v', .bool true] else v') w := by
          unfold Instr.typeAssert
          simp only [Sem.run_bind, run_underlying h3, Result.andThen_ok]
          simp only [hta, if_true, Sem.run_pure]
        rw [e]
        exact .same hw (tup2_vr hv) h2
      · rename_i hb
        have hta := Nat.ne_of_beq_eq_false hb
        refine (taFails_spec (f := do if ok then pure (.tuple #[← zeroValue a, .bool false]) else runtimePanic (.typeAssertion (some s) (some t) a "")) hB hw h2 fun e => by subst e; rfl) |> fun q => ?_
        have e : (Instr.typeAssert (.iface t v') s a ok).run P w = ((do if ok then pure (.tuple #[← zeroValue a, .bool false]) else runtimePanic (.typeAssertion (some s) (some t) a "")) : Sem Value).run P w := by
          unfold Instr.typeAssert
          simp only [Sem.run_bind, run_underlying h3, Result.andThen_ok]
          simp only [hta, if_false]
        rw [e]
        exact q
    · exact h2.elim

theorem evOp_eq {t : Tm} {op : Op} : evOp B t op h K = evOpM B t op h K := by
  cases op <;> first | rfl | (rename_i x _; cases x <;> rfl) | (rename_i x; cases x <;> rfl) | (rename_i _ x; cases x <;> rfl)
theorem evRead_spec {t : Tm} {a : Act} {o : Oper} (hB : TOK P B) (hw : WR B φ h w) (ht : TR ds φ t a) (hr : reads o.op = true) (hk : evOp B t o.op h K) : DoneRN B φ h w ((execOp a.eval o).run P w) K := by
  rw [evOp_eq] at hk
  unfold evOpM at hk
  unfold execOp
  split at hk <;> rename_i hop
  · simp only [hop]
    obtain ⟨v, h1, h2⟩ := valK_spec ht hk
    exact .same hw h2 h1
  · simp only [hop]
    obtain ⟨v, h1, h2⟩ := valK_spec ht hk
    exact .same hw h2 h1
  · simp only [hop]
    obtain ⟨c, h1, h2⟩ := valK_spec ht hk
    obtain ⟨x, h3, h4⟩ := valK_spec ht h1
    obtain ⟨y, h5, h6⟩ := valK_spec ht h3
    obtain ⟨b, g1, g2⟩ := oPick_spec (P := P) hw h2 h4 h6 h5
    obtain ⟨v, v', q1, q2, q3, q5⟩ := g2
    refine ⟨v, v', ?_, q2, q3, q5⟩
    simp only [Sem.run_bind, g1, Result.andThen_ok, Sem.run_pure]
    cases q1
    rfl
  · rw [hop] at hr; cases hr
  · rw [hop] at hr; cases hr
  · simp only [hop]; exact (oBuild_spec hB hw ht hk).value
  · rw [hop] at hr; cases hr
  · simp only [hop]
    obtain ⟨v, h1, h2⟩ := valK_spec ht hk
    exact (oLoad_spec hB hw h2 h1).value
  · rw [hop] at hr; cases hr
  · simp only [hop]
    obtain ⟨v, h1, h2⟩ := valK_spec ht hk
    unfold oNilCheck at h1
    split at h1
    · rename_i ad
      obtain ⟨r, of, sp⟩ := ad
      cases sp with
      | some _ =>
        have e := h2.inv
        simp only [Sh] at e
        rw [e] at h2 ⊢
        exact .same hw h2 h1
      | none =>
        obtain ⟨s, _, e⟩ := h2.inv
        rw [e] at h2 ⊢
        exact .same hw h2 h1
    · obtain ⟨a', b', e, _⟩ := h2.inv
      rw [e] at h2 ⊢
      exact .same hw h2 h1
    · exact h1.elim
  · simp only [hop]
    obtain ⟨v, h1, h2⟩ := valK_spec ht hk
    obtain ⟨y, h3, h4⟩ := valK_spec ht h1
    exact (binOpK_spec hB hw h2 h4 h3).value
  · simp only [hop]
    obtain ⟨v, h1, h2⟩ := valK_spec ht hk
    exact (oUn_spec hw h2 h1).value
  · simp only [hop]
    obtain ⟨v, h1, h2⟩ := valK_spec ht hk
    exact (oConvert_spec hB hw h2 h1).value
  · simp only [hop]
    obtain ⟨v, h1, h2⟩ := valsK_spec ht hk
    obtain ⟨y, h3, h4⟩ := valsK_spec ht h1
    refine (show DoneRN B φ h w (.ok (.value _) w) K from .same hw (VR.mk (v := .func _ ⟨v⟩ ⟨y⟩) ⟨_, _, rfl, ?_, ?_⟩) h3)
    · simpa using h2
    · simpa using h4
  · rw [hop] at hr; cases hr
  · rw [hop] at hr; cases hr
  · simp only [hop]
    obtain ⟨v, h1, h2⟩ := valK_spec ht hk
    exact (oSlice_spec hB hw ht h2 h1).value
  · simp only [hop]
    obtain ⟨v, h1, h2⟩ := valK_spec ht hk
    exact (oFieldAddr_spec hB hw h2 h1).value
  · simp only [hop]
    obtain ⟨v, h1, h2⟩ := valK_spec ht hk
    exact (oField_spec hB hw h2 h1).value
  · simp only [hop]
    obtain ⟨v, h1, h2⟩ := valK_spec ht hk
    obtain ⟨y, h3, h4⟩ := valK_spec ht h1
    exact (oIndexAddr_spec hB hw h2 h4 h3).value
  · simp only [hop]
    obtain ⟨v, h1, h2⟩ := valK_spec ht hk
    obtain ⟨y, h3, h4⟩ := valK_spec ht h1
    exact (oIndex_spec hB hw h2 h4 h3).value
  · simp only [hop]
    obtain ⟨v, h1, h2⟩ := valK_spec ht hk
    obtain ⟨y, h3, h4⟩ := valK_spec ht h1
    exact (oLookup_spec hB hw h2 h4 h3).value
  · rw [hop] at hr; cases hr
  · rw [hop] at hr; cases hr
  · rw [hop] at hr; cases hr
  · rw [hop] at hr; cases hr
  · simp only [hop]
    obtain ⟨v, h1, h2⟩ := valK_spec ht hk
    exact (oEntry_spec hw h2 h1).value
  · simp only [hop]
    obtain ⟨v, h1, h2⟩ := valK_spec ht hk
    exact (makeIface_spec hB hw h2 h1).value
  · simp only [hop]
    obtain ⟨v, h1, h2⟩ := valK_spec ht hk
    exact (oExtract_spec hw h2 h1).value
  · simp only [hop]
    obtain ⟨v, h1, h2⟩ := valK_spec ht hk
    exact (oAssert_spec hB hw h2 h1).value
  · exact hk.elim

theorem evOp_spec {t : Tm} {a : Act} {o : Oper} (hB : TOK P B) (hw : WR B φ h w) (ht : TR ds φ t a) (hk : evOp B t o.op h K) : DoneN B φ h w ((execOp a.eval o).run P w) K := by
  rw [evOp_eq] at hk
  unfold evOpM at hk
  unfold execOp
  split at hk <;> rename_i hop
  · simp only [hop]
    obtain ⟨v, h1, h2⟩ := valK_spec ht hk
    exact .same hw h2 h1
  · simp only [hop]
    obtain ⟨v, h1, h2⟩ := valK_spec ht hk
    exact .same hw h2 h1
  · simp only [hop]
    obtain ⟨c, h1, h2⟩ := valK_spec ht hk
    obtain ⟨x, h3, h4⟩ := valK_spec ht h1
    obtain ⟨y, h5, h6⟩ := valK_spec ht h3
    obtain ⟨b, g1, g2⟩ := oPick_spec (P := P) hw h2 h4 h6 h5
    obtain ⟨v, v', q1, q2, q3, q5⟩ := g2
    refine DoneRN.n ⟨v, v', ?_, q2, q3, q5⟩
    simp only [Sem.run_bind, g1, Result.andThen_ok, Sem.run_pure]
    cases q1
    rfl
  · simp only [hop]; exact (oAlloc_spec hB hw hk).value
  · simp only [hop]
    obtain ⟨v, h1, h2⟩ := valK_spec ht hk
    exact (oBox_spec hw h2 h1).value
  · simp only [hop]; exact (oBuild_spec hB hw ht hk).value.n
  · simp only [hop]; exact (oBuildSlice_spec hB hw ht hk).value
  · simp only [hop]
    obtain ⟨v, h1, h2⟩ := valK_spec ht hk
    exact (oLoad_spec hB hw h2 h1).value.n
  · simp only [hop]
    obtain ⟨v, h1, h2⟩ := valK_spec ht hk
    obtain ⟨y, h3, h4⟩ := valK_spec ht h1
    obtain ⟨h', w', g1, g2, g3, g4⟩ := oStore_spec hB hw h2 h4 h3
    exact .unit g1 g2 g3 g4
  · simp only [hop]
    obtain ⟨v, h1, h2⟩ := valK_spec ht hk
    unfold oNilCheck at h1
    split at h1
    · rename_i ad
      obtain ⟨r, of, sp⟩ := ad
      cases sp with
      | some _ =>
        have e := h2.inv
        simp only [Sh] at e
        rw [e] at h2 ⊢
        exact .same hw h2 h1
      | none =>
        obtain ⟨s, _, e⟩ := h2.inv
        rw [e] at h2 ⊢
        exact .same hw h2 h1
    · obtain ⟨a', b', e, _⟩ := h2.inv
      rw [e] at h2 ⊢
      exact .same hw h2 h1
    · exact h1.elim
  · simp only [hop]
    obtain ⟨v, h1, h2⟩ := valK_spec ht hk
    obtain ⟨y, h3, h4⟩ := valK_spec ht h1
    exact (binOpK_spec hB hw h2 h4 h3).value.n
  · simp only [hop]
    obtain ⟨v, h1, h2⟩ := valK_spec ht hk
    exact (oUn_spec hw h2 h1).value.n
  · simp only [hop]
    obtain ⟨v, h1, h2⟩ := valK_spec ht hk
    exact (oConvert_spec hB hw h2 h1).value.n
  · simp only [hop]
    obtain ⟨v, h1, h2⟩ := valsK_spec ht hk
    obtain ⟨y, h3, h4⟩ := valsK_spec ht h1
    refine (show DoneN B φ h w (.ok (.value _) w) K from .same hw (VR.mk (v := .func _ ⟨v⟩ ⟨y⟩) ⟨_, _, rfl, ?_, ?_⟩) h3)
    · simpa using h2
    · simpa using h4
  · simp only [hop]
    obtain ⟨g1, g2⟩ := newK_spec hk
    refine Done.value ⟨_, _, w.alloc (.map #[] 0), .map (some h.next), .map (some w.heap.size), ?_, ?_, hw.alloc (o := .map #[] 0) (room := 0) (u := 0) g1 (fun φ' _ => ⟨#[], heap_alloc_new, rfl⟩), St.more hw g1 rfl, g2⟩
    · simp only [Instr.makeMap, Option.map_none, Sem.run_bind, Sem.run_pure, Result.andThen_ok, run_newObj_alloc]
    · exact VR.mk (v := .map (some h.next)) ⟨⟨w.heap.size, 0, 0, 0⟩, by simp, rfl⟩
  · simp only [hop]
    obtain ⟨v, h1, h2⟩ := valK_spec ht hk
    obtain ⟨y, h3, h4⟩ := valK_spec ht h1
    exact (oMakeSlice_spec hB hw h2 h4 h3).value
  · simp only [hop]
    obtain ⟨v, h1, h2⟩ := valK_spec ht hk
    exact (oSlice_spec hB hw ht h2 h1).value.n
  · simp only [hop]
    obtain ⟨v, h1, h2⟩ := valK_spec ht hk
    exact (oFieldAddr_spec hB hw h2 h1).value.n
  · simp only [hop]
    obtain ⟨v, h1, h2⟩ := valK_spec ht hk
    exact (oField_spec hB hw h2 h1).value.n
  · simp only [hop]
    obtain ⟨v, h1, h2⟩ := valK_spec ht hk
    obtain ⟨y, h3, h4⟩ := valK_spec ht h1
    exact (oIndexAddr_spec hB hw h2 h4 h3).value.n
  · simp only [hop]
    obtain ⟨v, h1, h2⟩ := valK_spec ht hk
    obtain ⟨y, h3, h4⟩ := valK_spec ht h1
    exact (oIndex_spec hB hw h2 h4 h3).value.n
  · simp only [hop]
    obtain ⟨v, h1, h2⟩ := valK_spec ht hk
    obtain ⟨y, h3, h4⟩ := valK_spec ht h1
    exact (oLookup_spec hB hw h2 h4 h3).value.n
  · simp only [hop]
    obtain ⟨v, h1, h2⟩ := valK_spec ht hk
    obtain ⟨y, h3, h4⟩ := valK_spec ht h1
    obtain ⟨z, h5, h6⟩ := valK_spec ht h3
    obtain ⟨h', w', g1, g2, g3, g4⟩ := oMapUpdate_spec hB hw h2 h4 h6 h5
    exact .unit g1 g2 g3 g4
  · simp only [hop]
    obtain ⟨v, h1, h2⟩ := valK_spec ht hk
    obtain ⟨y, h3, h4⟩ := valK_spec ht h1
    obtain ⟨z, h5, h6⟩ := valK_spec ht h3
    obtain ⟨h', w', g1, g2, g3, g4⟩ := oMapUpdate_spec hB hw h2 h4 h6 h5
    exact .unit g1 g2 g3 g4
  · simp only [hop]
    obtain ⟨v, h1, h2⟩ := valK_spec ht hk
    exact (oRange_spec hB hw h2 h1).value
  · simp only [hop]
    obtain ⟨v, h1, h2⟩ := valK_spec ht hk
    exact (oNext_spec hw h2 h1).value
  · simp only [hop]
    obtain ⟨v, h1, h2⟩ := valK_spec ht hk
    exact (oEntry_spec hw h2 h1).value.n
  · simp only [hop]
    obtain ⟨v, h1, h2⟩ := valK_spec ht hk
    exact (makeIface_spec hB hw h2 h1).value.n
  · simp only [hop]
    obtain ⟨v, h1, h2⟩ := valK_spec ht hk
    exact (oExtract_spec hw h2 h1).value.n
  · simp only [hop]
    obtain ⟨v, h1, h2⟩ := valK_spec ht hk
    exact (oAssert_spec hB hw h2 h1).value.n
  · exact hk.elim
end

end Rn
end Go.Proofs.YtllbjkeahafleaaGreatDoor
