/-
  A block that no row of the runner's names may lie in the machine's memory: what was made early, and is named later.
-/
import Derived.Test.YtllbjkeahafleaaGreatDoorRN22
set_option linter.unusedSimpArgs false
namespace Go.Proofs.YtllbjkeahafleaaGreatDoor
namespace Rn

section
variable {P : Program} {B : Tb} {φ : Fi} {h : Hp} {w : World} {ds : List Deferred}

/-- A new block that no row names. -/
theorem WR.junk {o : Obj} (hw : WR B φ h w) : WR B φ h (w.alloc o) := by
  refine ⟨fun r x hx => ?_, hw.apart, hw.below, hw.live, hw.few, hw.low⟩
  obtain ⟨s, h1, h2⟩ := hw.rows r x hx
  exact ⟨s, h1, h2.keep (fun _ _ g => g) (by rw [size_alloc]; omega) (heap_alloc h2.lt)⟩
/-- No row names a block. -/
def Spare (φ : Fi) (h : Hp) (b : Nat) : Prop := ∀ r o s, tget W h.rows r = some o → φ r = some s → s.b ≠ b
/-- A block that no row names stays as it is. -/
theorem St.spare {φ' : Fi} {h' : Hp} {w' : World} {b : Nat} (hs : St φ h w φ' h' w') (hb : b < w.heap.size) (hn : Spare φ h b) :
    w'.heap[b]? = w.heap[b]? ∧ b < w'.heap.size ∧ Spare φ' h' b := by
  refine ⟨hs.keep b hb hn, Nat.lt_of_lt_of_le hb hs.size, fun r o s hx h1 e => ?_⟩
  rcases hs.new r o s hx h1 with g | ⟨r', o', s', g1, g2, g3⟩
  · omega
  · exact hn r' o' s' g1 g2 (by rw [g3, e])
/-- The next block is named by none. -/
theorem WR.spare (hw : WR B φ h w) : Spare φ h w.heap.size := fun r o s hx hs e => by
  obtain ⟨s', h1, h2⟩ := hw.rows r o hx
  rw [hs] at h1
  cases h1
  have := h2.lt
  omega
/-- A block that no row names is named. -/
theorem WR.name {cs : List Value} {c : Array Value} {e u b : Nat} {K : Nat → Hp → Prop} (hw : WR B φ h w) (hb : w.heap[b]? = some (.cells c e)) (hs : Spare φ h b) (hc : All2 (CR φ) cs c.toList)
    (hu : ∀ i, tget W B e = some i → u = i.size) (hso : solo B e = true → c.size = 2) (hk : newK h (.cells ⟨cs⟩ e) K) :
    ∃ φ' h' r, WR B φ' h' w ∧ (∀ r s, φ r = some s → φ' r = some s) ∧ φ' r = some ⟨b, 0, c.size, u⟩ ∧ r ≠ NOWHERE ∧ K r h' ∧ (∀ b', b' ≠ b → Spare φ h b' → Spare φ' h' b') ∧ h'.low = h.low ∧ (∀ r o, tget W h.rows r = some o → tget W h'.rows r = some o) := by
  obtain ⟨h1, h2⟩ := newK_spec hk
  have hlen := hc.length
  simp only [Array.length_toList] at hlen
  have hext : ∀ r s, φ r = some s → (if r = h.next then some (⟨b, 0, c.size, u⟩ : Sl) else φ r) = some s := fun r s g => by
    have : r ≠ h.next := by rintro rfl; rw [hw.below _ (Nat.le_refl _)] at g; cases g
    simp [this, g]
  have hlt : b < w.heap.size := (Array.getElem?_eq_some_iff.1 hb).1
  refine ⟨_, _, h.next, hw.more (s := ⟨b, 0, c.size, u⟩) h1 (fun _ _ _ _ _ => rfl) (Nat.le_refl _) hs ?_, hext, by simp, ?_, h2, fun b' hne hsp r o s hx hs' => ?_, rfl, fun r o hx => ?_⟩
  · refine ⟨hlt, hu, by show cs.length ≤ c.size; omega, fun _ => ⟨c.size, by simp only [World.shape?, hb], fun g => ⟨rfl, hso g⟩⟩, fun j hj => ?_, fun _ j => ?_, fun i v hv => ?_⟩
    · have : j < c.size := hj
      simp only [World.cell?, hb]
      simp [this]
    · simp only [World.frozen?, hb]
      simp
    · obtain ⟨v', g1, g2⟩ := (hc.mono fun _ _ k => k.mono hext).get i v (by simpa using hv)
      refine ⟨v', ?_, g2⟩
      have : c[i]? = some v' := by simpa using g1
      simp only [World.cell?, hb]
      simpa using this
  · have := hw.low.1
    simp only [GL] at this
    show h.next ≠ 999
    omega
  · change tget W (tput W h.rows h.next _) r = some o at hx
    rw [tget_tput _ _ _ _ _ (w_fits (by omega))] at hx
    by_cases e' : r = h.next
    · simp only [e', if_true, Option.some.injEq] at hs'
      subst hs'
      exact fun q => hne q.symm
    · simp only [e', if_false] at hx hs'
      exact hsp r o s hx hs'
  · have e' : ¬ r = h.next := by have := (hw.live r o hx).1; omega
    show tget W (tput W h.rows h.next _) r = some o
    rw [tget_tput _ _ _ _ _ (w_fits (by omega))]
    simpa only [e', if_false] using hx

theorem TiOK.zeroA {t : Nat} {i : TI} (hi : TiOK P t i) : ∃ z : Value, (∀ w, (zeroValue t).run P w = .ok z w) ∧ z.cells.toList = i.zero := by
  obtain ⟨ti, d, z, h1, h2, h3, h4, h5, h6, h7, h8, h9⟩ := hi.known
  refine ⟨z, fun w => ?_, h7⟩
  simp only [zeroValue, typeInfo, Sem.run_bind, run_program, Result.andThen_ok, h1]
  show (match ti.zero with | some v => pure v | none => unsupported _ : Sem Value).run P w = _
  rw [h6]
  rfl

/-- What makes a new row makes the same one in whatever world. -/
theorem prepK_spec {t : Tm} {a : Act} {o : Oper} {i : Nat} {K : Pe → Prop} (hB : TOK P B) (ht : TR ds φ t a) (hk : prepK B t o i K) :
    ∃ (z : Pe) (c : Array Value), K z ∧ z.i = i ∧ o.dst = some z.dst ∧ All2 (CR φ) z.cs c.toList ∧ (z.sl = true → z.n ≠ TOP) ∧ (solo B z.e = true → c.size = 2) ∧
      ∀ w, (execOp a.eval o).run P w = .ok (.value (peVal z w.heap.size)) (w.alloc (.cells c z.e)) := by
  unfold prepK at hk
  split at hk
  · exact hk.elim
  · rename_i d hd
    split at hk <;> rename_i hop
    · obtain ⟨j, h1, h2⟩ := tyK_spec hk
      have hj := hB.ok _ j h1
      obtain ⟨z, h3, h4⟩ := hj.zeroA
      refine ⟨_, z.cells, h2, rfl, hd, by rw [h4]; exact zeros_cr hj, (fun e => by cases e), (fun g => by
        have e1 : z.cells.size = j.zero.length := by have := congrArg List.length h4; simpa using this
        rw [e1, hj.len]
        have g2 : solo B _ = true := g
        simp only [solo, h1] at g2
        exact hj.two g2), fun w => ?_⟩
      simp only [execOp, hop, Instr.alloc, Sem.run_bind, h3, Result.andThen_ok, newVar, newRow, run_newObj_alloc, Sem.run_pure]
      rfl
    · obtain ⟨ib, hb1, hb2, hb3⟩ := tySK_spec hk
      obtain ⟨v, h1, h2⟩ := valK_spec ht hb2
      obtain ⟨cs, h3, h4⟩ := cellsK_spec h2 h1
      refine ⟨_, _, h3, rfl, hd, h4, (fun e => by cases e), no_solo hb1 hb3, fun w => ?_⟩
      simp only [execOp, hop, Instr.box, Sem.run_bind, Result.andThen_ok, newVar, newRow, run_newObj_alloc, Sem.run_pure]
      rfl
    · rename_i ty n ps
      obtain ⟨k, h1, h2⟩ := tyK_spec hk
      obtain ⟨dd, h3, h4⟩ := (hB.ok ty k h1).under
      split at h2
      · rename_i e hki
        have hd' := kd_slice hki h4
        subst hd'
        obtain ⟨j, h5, h6, hso⟩ := tySK_spec h2
        have hj := hB.ok e j h5
        split at h6
        · rename_i hb
          have hle0 : n * (j.size + 1) ≤ 1000000 := Nat.le_of_ble_eq_true hb
          rw [Nat.mul_add, Nat.mul_one] at hle0
          have hle : n * j.size ≤ 1000000 := by omega
          rw [repsK_eq] at h6
          obtain ⟨z, q1, q2⟩ := hj.zeroA
          have hzs := hj.zlen q2
          let zz : Array Value := if n * j.size = 0 then #[] else z.cells
          have hzz : ((Array.range (n * j.size)).map (zz[· % zz.size]!)).toList = (List.replicate n j.zero).flatten := by
            by_cases h0 : n * j.size = 0
            · have e1 : (List.replicate n j.zero).flatten = [] := List.eq_nil_of_length_eq_zero (by rw [rep_len, hj.len]; exact h0)
              rw [e1, h0]
              simp
            · have e2 : zz = z.cells := if_neg h0
              rw [e2, ← hzs, zero_rows, q2]
          obtain ⟨r, c', g1, g2, g3⟩ := fillAK_spec (c := (Array.range (n * j.size)).map (zz[· % zz.size]!)) ht (by rw [hzz]; exact reps_cr hj n) h6
          refine ⟨_, c', g1, rfl, hd, g2, (fun _ => by simp only [TOP]; omega), no_solo h5 hso, fun w => ?_⟩
          have hno : ¬ n * j.size > 2 ^ 24 := by omega
          simp only [execOp, hop, Instr.buildSlice, Sem.run_bind, run_underlying h3, Result.andThen_ok, hj.size, hno, if_false]
          by_cases h0 : n * j.size = 0
          · rw [show zz = #[] from if_pos h0] at g3
            rw [if_pos h0]
            simp only [Sem.run_bind, Result.andThen_ok, Sem.run_pure, Array.toList_map, g3, newRow, run_newObj_alloc]
            rfl
          · rw [show zz = z.cells from if_neg h0] at g3
            rw [if_neg h0]
            simp only [Sem.run_bind, Result.andThen_ok, q1, Sem.run_pure, Array.toList_map, g3, newRow, run_newObj_alloc]
            rfl
        · exact h6.elim
      · exact h2.elim
    · rename_i ty xl xc
      obtain ⟨k, h1, h2⟩ := tyK_spec hk
      obtain ⟨dd, h3, h4⟩ := (hB.ok ty k h1).under
      split at h2
      · rename_i e hki
        have hd' := kd_slice hki h4
        subst hd'
        obtain ⟨j, h5, h6, hso⟩ := tySK_spec h2
        have hj := hB.ok e j h5
        obtain ⟨vl, h7, hvl⟩ := valK_spec ht h6
        obtain ⟨vc, h8, hvc⟩ := valK_spec ht h7
        obtain ⟨k1, m, e1, h9⟩ := natK_spec hvl h8
        obtain ⟨k2, n, e2, h10⟩ := natK_spec hvc h9
        split at h10
        · rename_i hb1
          have hmn := Nat.eq_of_beq_eq_true hb1
          subst hmn
          split at h10
          · rename_i hb2
            split at h10
            · rename_i hb3
              have f2 : m * (j.bytes + j.size) ≤ 1000000 := Nat.le_of_ble_eq_true hb2
              have f3 := Nat.le_of_ble_eq_true hb3
              rw [Nat.mul_add] at f2
              rw [repsK_eq] at h10
              obtain ⟨z, q1, q2⟩ := hj.zeroA
              have hzs := hj.zlen q2
              let zz : Array Value := if m * j.size = 0 then #[] else z.cells
              have hzz : ((Array.range (m * j.size)).map (zz[· % zz.size]!)).toList = (List.replicate m j.zero).flatten := by
                by_cases h0 : m * j.size = 0
                · have e1 : (List.replicate m j.zero).flatten = [] := List.eq_nil_of_length_eq_zero (by rw [rep_len, hj.len]; exact h0)
                  rw [e1, h0]
                  simp
                · have e2 : zz = z.cells := if_neg h0
                  rw [e2, ← hzs, zero_rows, q2]
              refine ⟨_, (Array.range (m * j.size)).map (zz[· % zz.size]!), h10, rfl, hd, by rw [hzz]; exact reps_cr hj m, (fun _ => by simp only [TOP]; omega), no_solo h5 hso, fun w => ?_⟩
              obtain ⟨ti, r1, r2, r3⟩ := hj.info (w := w)
              have w1 : IntKind.i64.wrap (Int.ofNat m) = (m : Int) := by simp only [IntKind.wrap, IntKind.bits, IntKind.signed, Int.ofNat_eq_natCast]; simp; omega
              have hb0 : ¬ ((m : Int) < 0) := by omega
              have hb1' : ¬ ((j.bytes : Int) * (m : Int) > 2 ^ 48) := by
                have : ((j.bytes : Int) * (m : Int)) = ((m * j.bytes : Nat) : Int) := by rw [Int.natCast_mul, Int.mul_comm]
                rw [this]
                omega
              have hb3' : ¬ ((m : Int) > (m : Int)) := by omega
              have hroom : ¬ (m * j.bytes > roomBytes) := by simp only [roomBytes]; omega
              simp only [execOp, hop, e1, e2, Instr.makeSlice, Sem.run_bind, run_underlying h3, Result.andThen_ok, asInt, asIntOf, Sem.run_pure, r1, r3, w1, hb0, hb1', hb3', decide_false, Bool.or_self, Bool.false_eq_true, if_false, askRoom, Int.toNat_natCast, hroom, hj.size]
              by_cases h0 : m * j.size = 0
              · rw [show zz = #[] from if_pos h0, if_pos h0]
                simp only [Sem.run_bind, Result.andThen_ok, Sem.run_pure, newRow, run_newObj_alloc]
                rfl
              · rw [show zz = z.cells from if_neg h0, if_neg h0]
                simp only [Sem.run_bind, Result.andThen_ok, q1, Sem.run_pure, newRow, run_newObj_alloc]
                rfl
            · exact h10.elim
          · exact h10.elim
        · exact h10.elim
      · exact h2.elim
    · exact hk.elim

theorem pickK_spec {i : Nat} {K : Pe → Prop} : ∀ {Z : List Pe}, pickK i Z K → ∃ z ∈ Z, z.i = i ∧ K z
  | [], h => h.elim
  | y :: Z, h => by
    have h' : (match Nat.beq y.i i with | true => K y | false => pickK i Z K) := h
    cases hb : Nat.beq y.i i with
    | true =>
      rw [hb] at h'
      exact ⟨y, by simp, Nat.eq_of_beq_eq_true hb, h'⟩
    | false =>
      rw [hb] at h'
      obtain ⟨z, h1, h2, h3⟩ := pickK_spec h'
      exact ⟨z, by simp [h1], h2, h3⟩
theorem dropZ_eq {i : Nat} : ∀ {Z : List Pe} {K : List Pe → Prop}, dropZ i Z K = K (Z.filter fun z => !Nat.beq z.i i)
  | [], _ => rfl
  | y :: Z, K => by
    have h' : dropZ i (y :: Z) K = (match Nat.beq y.i i with | true => dropZ i Z K | false => dropZ i Z fun Y => K (y :: Y)) := rfl
    rw [h', List.filter_cons]
    cases Nat.beq y.i i with
    | true => simp only [Bool.not_true, Bool.false_eq_true, if_false]; exact dropZ_eq
    | false => simp only [Bool.not_false, if_true]; exact dropZ_eq
end

end Rn
end Go.Proofs.YtllbjkeahafleaaGreatDoor
