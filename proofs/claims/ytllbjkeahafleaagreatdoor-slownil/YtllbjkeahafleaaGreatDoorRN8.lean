/-
  What the runner's operations say of the machine's: structs and rows that are built, conversions, slices.
-/
import Derived.Test.YtllbjkeahafleaaGreatDoorRN7
import Derived.Laws.Tables
import Derived.ChangeMaps3
namespace Go.Proofs.YtllbjkeahafleaaGreatDoor
namespace Rn

/-- Cells written one by one are cells written over. -/
theorem fold_set (off : Nat) : ∀ (vs : List Value) (k : Nat) (cs : Array Value), off + k + vs.length ≤ cs.size →
    ((vs.zipIdx k).foldl (fun cs (x : Value × Nat) => cs.setIfInBounds (off + x.2) x.1) cs).toList = cs.toList.take (off + k) ++ vs ++ cs.toList.drop (off + k + vs.length)
  | [], k, cs, _ => by simp
  | v :: vs, k, cs, hl => by
    have hl' : off + (k + 1) + vs.length ≤ (cs.setIfInBounds (off + k) v).size := by simp at hl ⊢; omega
    rw [List.zipIdx_cons, List.foldl_cons, fold_set off vs (k + 1) _ hl']
    simp only [Array.toList_setIfInBounds]
    have := list_seg_step cs.toList (off + k) v vs (by simp at hl ⊢; omega)
    rw [show off + (k + 1) = off + k + 1 by omega, this]
    simp only [List.length_cons]
theorem fold_set' (off : Nat) (vs cs : Array Value) (hl : off + vs.size ≤ cs.size) :
    (vs.zipIdx.foldl (fun cs (x : Value × Nat) => cs.setIfInBounds (off + x.2) x.1) cs).toList = cs.toList.take off ++ vs.toList ++ cs.toList.drop (off + vs.size) := by
  have := fold_set off vs.toList 0 cs (by simpa using hl)
  rw [← Array.foldl_toList, Array.toList_zipIdx]
  simpa using this

theorem rep_get {z : List Value} : ∀ (n i : Nat), i < n * z.length → (List.replicate n z).flatten[i]? = z[i % z.length]?
  | 0, i, h => by simp at h
  | n + 1, i, h => by
    rw [List.replicate_succ, List.flatten_cons]
    by_cases hi : i < z.length
    · rw [List.getElem?_append_left hi, Nat.mod_eq_of_lt hi]
    · have hz : 0 < z.length := by
        rcases Nat.eq_zero_or_pos z.length with g | g
        · rw [g] at h; simp at h
        · exact g
      have hm : (n + 1) * z.length = n * z.length + z.length := Nat.succ_mul _ _
      rw [List.getElem?_append_right (by omega), rep_get n (i - z.length) (by omega), ← Nat.mod_eq_sub_mod (show z.length ≤ i by omega)]
theorem rep_len {z : List Value} (n : Nat) : (List.replicate n z).flatten.length = n * z.length := by
  induction n with
  | zero => simp
  | succ n ih => rw [List.replicate_succ, List.flatten_cons, List.length_append, ih, Nat.add_mul]; omega
theorem zero_rows (z : Array Value) (n : Nat) : ((Array.range (n * z.size)).map fun i => z[i % z.size]!).toList = (List.replicate n z.toList).flatten := by
  apply List.ext_getElem?
  intro i
  by_cases hi : i < n * z.size
  · rw [rep_get n i (by simpa using hi)]
    have hz : 0 < z.size := by
      rcases Nat.eq_zero_or_pos z.size with g | g
      · rw [g] at hi; simp at hi
      · exact g
    have hm := Nat.mod_lt i hz
    simp [hi, hm]
  · rw [List.getElem?_eq_none (by simpa using hi), List.getElem?_eq_none (by rw [rep_len]; simpa using hi)]

section
variable {P : Program} {B : Tb} {φ : Fi} {h : Hp} {w : World} {K : KV} {ds : List Deferred}

theorem TiOK.zlen {t : Nat} {i : TI} (hi : TiOK P t i) {z : Value} (hz : z.cells.toList = i.zero) : z.cells.size = i.size := by
  have := congrArg List.length hz
  rw [hi.len] at this
  simpa using this

/-- The parts of a struct. -/
theorem fillSK_spec {t : Tm} {a : Act} {fs fs' : List Field} {places : Array (Nat × Nat)} {K : List Value → Prop} (hB : TOK P B) (ht : TR ds φ t a)
    (hfs : All2 (fun (f f' : Field) => f'.type = f.type ∧ f'.offset = f.offset ∧ f'.name ≠ "_") fs fs')
    (hp : ∀ (n : Nat) (f' : Field), fs'[n]? = some f' → ∃ ti, P.info? f'.type = some ti ∧ places[n]? = some (f'.offset, ti.size)) :
    ∀ {ps : List (Nat × Operand)} {l : List Value} {c : Array Value}, All2 (CR φ) l c.toList → fillSK B t fs ps l K →
      ∃ (r : List Value) (c' : Array Value), K r ∧ All2 (CR φ) r c'.toList ∧ Instr.fill (places[·]?) c (ps.map fun p => (p.1, a.eval p.2)) = some c'
  | [], l, c, hl, hk => ⟨l, c, hk, hl, rfl⟩
  | p :: ps, l, c, hl, hk => by
    obtain ⟨f, h1, h2⟩ := (nthK_iff _ _ _).1 hk
    obtain ⟨f', h3, h4, h5, _⟩ := hfs.get p.1 f h1
    obtain ⟨i, h6, h7⟩ := tyK_spec h2
    obtain ⟨v, h8, h9⟩ := valK_spec ht h7
    obtain ⟨cs, h10, h11⟩ := cellsK_spec h9 h8
    rw [lenK_eq] at h10
    split at h10
    · rename_i hb
      have hsz := Nat.eq_of_beq_eq_true hb
      rw [overAtK_iff] at h10
      obtain ⟨h12, h13⟩ := h10
      have hlen := h11.length
      have hcl := hl.length
      simp only [Array.length_toList] at hlen hcl
      obtain ⟨ti, h14, h15⟩ := hp p.1 f' h3
      have hts : ti.size = i.size := by
        obtain ⟨ti', _, _, g1, _, g3, _⟩ := (hB.ok f.type i h6).known
        rw [h4] at h14
        rw [h14] at g1
        cases g1
        exact g3
      have hfit : f.offset + (a.eval p.2).cells.size ≤ c.size := by omega
      have hfold := fold_set' f.offset (a.eval p.2).cells c hfit
      obtain ⟨r, c', g1, g2, g3⟩ := fillSK_spec hB ht hfs hp (ps := ps) (l := l.take f.offset ++ cs ++ l.drop (f.offset + cs.length))
        (c := (a.eval p.2).cells.zipIdx.foldl (fun cs (x : Value × Nat) => cs.setIfInBounds (f.offset + x.2) x.1) c)
        (by rw [hfold, hlen]; exact ((hl.take _).app h11).app (hl.drop _)) h13
      refine ⟨r, c', g1, g2, ?_⟩
      simp only [List.map_cons, Instr.fill, h15, h5, hts]
      rw [if_neg (by simp; omega)]
      exact g3
    · exact h10.elim
/-- The parts of an array. -/
theorem fillAK_spec {t : Tm} {a : Act} {size : Nat} {K : List Value → Prop} (ht : TR ds φ t a) :
    ∀ {ps : List (Nat × Operand)} {l : List Value} {c : Array Value}, All2 (CR φ) l c.toList → fillAK t size ps l K →
      ∃ (r : List Value) (c' : Array Value), K r ∧ All2 (CR φ) r c'.toList ∧ Instr.fill (fun i => some (i * size, size)) c (ps.map fun p => (p.1, a.eval p.2)) = some c'
  | [], l, c, hl, hk => ⟨l, c, hk, hl, rfl⟩
  | p :: ps, l, c, hl, hk => by
    have hk' : valK t p.2 fun v => cellsK v fun c => lenK c fun n => match Nat.beq n size with
      | true => overAtK (Nat.mul p.1 size) c l fun l => fillAK t size ps l K
      | false => False := hk
    obtain ⟨v, h8, h9⟩ := valK_spec ht hk'
    obtain ⟨cs, h10, h11⟩ := cellsK_spec h9 h8
    rw [lenK_eq] at h10
    split at h10
    · rename_i hb
      have hsz := Nat.eq_of_beq_eq_true hb
      rw [overAtK_iff] at h10
      obtain ⟨h12, h13⟩ := h10
      have hlen := h11.length
      have hcl := hl.length
      simp only [Array.length_toList] at hlen hcl
      have hfit : Nat.mul p.1 size + (a.eval p.2).cells.size ≤ c.size := by omega
      have hfold := fold_set' (Nat.mul p.1 size) (a.eval p.2).cells c hfit
      obtain ⟨r, c', g1, g2, g3⟩ := fillAK_spec ht (ps := ps) (l := l.take (Nat.mul p.1 size) ++ cs ++ l.drop (Nat.mul p.1 size + cs.length))
        (c := (a.eval p.2).cells.zipIdx.foldl (fun cs (x : Value × Nat) => cs.setIfInBounds (Nat.mul p.1 size + x.2) x.1) c)
        (by rw [hfold, hlen]; exact ((hl.take _).app h11).app (hl.drop _)) h13
      refine ⟨r, c', g1, g2, ?_⟩
      simp only [List.map_cons, Instr.fill]
      rw [if_neg (by simp only [Bool.or_eq_true, decide_eq_true_eq, ne_eq, not_or]; refine ⟨by omega, ?_⟩; show ¬ (p.1 * size + _ > _); have : Nat.mul p.1 size = p.1 * size := rfl; omega)]
      exact g3
    · exact h10.elim

theorem oBuild_spec {t : Tm} {a : Act} {ty : Nat} {ps : Array (Nat × Operand)} (hB : TOK P B) (hw : WR B φ h w) (ht : TR ds φ t a) (hk : oBuild B t ty ps h K) :
    DoneR B φ h w ((Instr.build ty (ps.map fun p => (p.1, a.eval p.2))).run P w) K := by
  obtain ⟨i, h1, h2⟩ := tyK_spec hk
  have hi := hB.ok ty i h1
  obtain ⟨ti, d, z, k1, k2, k3, k4, k5, k6, k7, _, _⟩ := hi.known
  have hz : All2 (CR φ) i.zero z.cells.toList := by rw [k7]; exact zeros_cr hi
  split at h2
  · rename_i fs hki
    obtain ⟨fs', rfl, h5⟩ := kd_struct hki k5
    have hmap : fs'.toList.mapM (fun f => (P.info? f.type).map fun i => (f.offset, i.size)) = some (fs'.toList.map fun f => ((P.info? f.type).map fun i => (f.offset, i.size)).getD (0, 0)) :=
      ChangeMaps.mapM_total (0, 0) fun f hf => by
        obtain ⟨tj, hj⟩ := hi.flds fs' k2 f hf
        exact ⟨(f.offset, tj.size), by rw [hj]; rfl⟩
    obtain ⟨r, c', g1, g2, g3⟩ := fillSK_spec hB ht h5 (places := (fs'.toList.map fun f => ((P.info? f.type).map fun i => (f.offset, i.size)).getD (0, 0)).toArray) (fun n f' hn => by
      obtain ⟨tj, hj⟩ := hi.flds fs' k2 f' (List.mem_of_getElem? hn)
      exact ⟨tj, hj, by simp only [List.getElem?_toArray, List.getElem?_map, hn, Option.map_some, hj, Option.getD_some]⟩) hz h2
    have hb : P.built ty (ps.map fun p => (p.1, a.eval p.2)).toList = some c' := by
      simp only [Program.built, k1, k2, k6, hmap, Array.toList_map]
      exact g3
    rw [run_build w ty _ c' hb]
    exact .same hw (VR.mk (v := .agg ⟨r⟩) ⟨c', rfl, g2⟩) g1
  · rename_i n e hki
    have hd : d = .array n e := by rw [hki] at k5; exact k5
    subst hd
    obtain ⟨j, h6, h7⟩ := tyK_spec h2
    obtain ⟨r, c', g1, g2, g3⟩ := fillAK_spec ht hz h7
    obtain ⟨tj, _, _, q1, _, q3, _⟩ := (hB.ok e j h6).known
    have hb : P.built ty (ps.map fun p => (p.1, a.eval p.2)).toList = some c' := by
      simp only [Program.built, k1, k2, k6, q1, q3, Array.toList_map]
      exact g3
    rw [run_build w ty _ c' hb]
    exact .same hw (VR.mk (v := .agg ⟨r⟩) ⟨c', rfl, g2⟩) g1
  · exact h2.elim

theorem kd_slice {k d : TypeDesc} {e : Nat} (hk : k = .slice e) (h : Kd k d) : d = .slice e := by subst hk; exact h

theorem reps_cr {t : Nat} {i : TI} (hi : TiOK P t i) (n : Nat) : All2 (CR φ) (List.replicate n i.zero).flatten (List.replicate n i.zero).flatten := by
  induction n with
  | zero => rfl
  | succ n ih => rw [List.replicate_succ, List.flatten_cons]; exact (zeros_cr hi).app ih

theorem oBuildSlice_spec {t : Tm} {a : Act} {ty n : Nat} {ps : Array (Nat × Operand)} (hB : TOK P B) (hw : WR B φ h w) (ht : TR ds φ t a) (hk : oBuildSlice B t ty n ps h K) :
    Done B φ h w ((Instr.buildSlice ty n (ps.map fun p => (p.1, a.eval p.2))).run P w) K := by
  obtain ⟨i, h1, h2⟩ := tyK_spec hk
  obtain ⟨d, h3, h4⟩ := (hB.ok ty i h1).under
  split at h2
  · rename_i e hki
    have hd := kd_slice hki h4
    subst hd
    obtain ⟨j, h5, h6, hso⟩ := tySK_spec h2
    have hj := hB.ok e j h5
    split at h6
    · rename_i hb
      have hle0 : n * (j.size + 1) ≤ 1000000 := Nat.le_of_ble_eq_true hb
      rw [Nat.mul_add, Nat.mul_one] at hle0
      have hle : n * j.size ≤ 1000000 := by omega
      have hn : n ≠ TOP := by simp only [TOP]; omega
      rw [repsK_eq] at h6
      obtain ⟨z, q1, q2, _, _⟩ := hj.zero (w := w)
      have hzs := hj.zlen q2
      let zz : Array Value := if n * j.size = 0 then #[] else z.cells
      have hzz : ((Array.range (n * j.size)).map (zz[· % zz.size]!)).toList = (List.replicate n j.zero).flatten := by
        by_cases h0 : n * j.size = 0
        · have e1 : (List.replicate n j.zero).flatten = [] := List.eq_nil_of_length_eq_zero (by rw [rep_len, hj.len]; exact h0)
          rw [e1, h0]
          simp
        · have e2 : zz = z.cells := if_neg h0
          rw [e2, ← hzs, zero_rows, q2]
      obtain ⟨r, c', g1, g2, g3⟩ := fillAK_spec (c := (Array.range (n * j.size)).map (zz[· % zz.size]!)) ht (by rw [hzz]; exact reps_cr hj n) h6
      have hl := g2.length
      simp only [Array.length_toList] at hl
      obtain ⟨φ', h', rr, p1, p2, p3, p4, p5⟩ := newCells (c := c') j.size hw g1 (by rw [← hl, ← Array.length_toList, List.take_length]; exact g2) (by omega) (fun k hk => by rw [h5] at hk; cases hk; rfl) (no_solo h5 hso)
      refine ⟨φ', h', _, _, .slice (some ⟨w.heap.size, 0, none⟩) n n, ?_, slice_vr (s := ⟨w.heap.size, 0, c'.size, j.size⟩) p4 p3 (fun _ => rfl) (fun e => absurd e hn), p1, p2, p5⟩
      have hno : ¬ n * j.size > 2 ^ 24 := by omega
      simp only [Instr.buildSlice, Sem.run_bind, run_underlying h3, Result.andThen_ok, hj.size, hno, if_false]
      by_cases h0 : n * j.size = 0
      · rw [show zz = #[] from if_pos h0] at g3
        rw [if_pos h0]
        simp only [Sem.run_bind, Result.andThen_ok, Sem.run_pure, Array.toList_map, g3, newRow, run_newObj_alloc]
      · rw [show zz = z.cells from if_neg h0] at g3
        rw [if_neg h0]
        simp only [Sem.run_bind, Result.andThen_ok, q1, Sem.run_pure, Array.toList_map, g3, newRow, run_newObj_alloc]
    · exact h6.elim
  · exact h2.elim

theorem oMakeSlice_spec {ty : Nat} {l l' c c' : Value} (hB : TOK P B) (hw : WR B φ h w) (hl : VR φ l l') (hc : VR φ c c') (hk : oMakeSlice B ty l c h K) : Done B φ h w ((Instr.makeSlice ty l' c').run P w) K := by
  obtain ⟨i, h1, h2⟩ := tyK_spec hk
  obtain ⟨d, h3, h4⟩ := (hB.ok ty i h1).under
  split at h2
  · rename_i e hki
    have hd := kd_slice hki h4
    subst hd
    obtain ⟨j, h5, h6, hso⟩ := tySK_spec h2
    have hj := hB.ok e j h5
    obtain ⟨k1, m, rfl, h7⟩ := natK_spec hl h6
    obtain ⟨k2, n, rfl, h8⟩ := natK_spec hc h7
    split at h8
    · rename_i hb1
      split at h8
      · rename_i hb2
        split at h8
        · rename_i hb3
          have e1 := Nat.le_of_ble_eq_true hb1
          have e2 : n * (j.bytes + j.size) ≤ 1000000 := Nat.le_of_ble_eq_true hb2
          have e3 := Nat.le_of_ble_eq_true hb3
          rw [Nat.mul_add] at e2
          rw [repsK_eq] at h8
          obtain ⟨z, q1, q2, _, _⟩ := hj.zero (w := w)
          obtain ⟨ti, r1, r2, r3⟩ := hj.info (w := w)
          have hzs := hj.zlen q2
          let zz : Array Value := if n * j.size = 0 then #[] else z.cells
          have hzz : ((Array.range (n * j.size)).map (zz[· % zz.size]!)).toList = (List.replicate n j.zero).flatten := by
            by_cases h0 : n * j.size = 0
            · have e1 : (List.replicate n j.zero).flatten = [] := List.eq_nil_of_length_eq_zero (by rw [rep_len, hj.len]; exact h0)
              rw [e1, h0]
              simp
            · have e2 : zz = z.cells := if_neg h0
              rw [e2, ← hzs, zero_rows, q2]
          have hlen : (List.replicate n j.zero).flatten.length = ((Array.range (n * j.size)).map (zz[· % zz.size]!)).size := by rw [← hzz]; simp
          obtain ⟨φ', h', rr, p1, p2, p3, p4, p5⟩ := newCells (c := (Array.range (n * j.size)).map (zz[· % zz.size]!)) j.size hw h8 (by rw [hlen, ← Array.length_toList, List.take_length, hzz]; exact reps_cr hj n) (by omega) (fun k hk => by rw [h5] at hk; cases hk; rfl) (no_solo h5 hso)
          refine ⟨φ', h', _, _, .slice (some ⟨w.heap.size, 0, none⟩) m n, ?_, slice_vr (s := ⟨w.heap.size, 0, _, j.size⟩) p4 p3 (fun _ => rfl) (fun e => by simp only [TOP] at e; omega), p1, p2, p5⟩
          have w1 : IntKind.i64.wrap (Int.ofNat m) = (m : Int) := by simp only [IntKind.wrap, IntKind.bits, IntKind.signed, Int.ofNat_eq_natCast]; simp; omega
          have w2 : IntKind.i64.wrap (Int.ofNat n) = (n : Int) := by simp only [IntKind.wrap, IntKind.bits, IntKind.signed, Int.ofNat_eq_natCast]; simp; omega
          have hb0 : ¬ ((n : Int) < 0) := by omega
          have hb1' : ¬ ((j.bytes : Int) * (n : Int) > 2 ^ 48) := by
            have : ((j.bytes : Int) * (n : Int)) = ((n * j.bytes : Nat) : Int) := by rw [Int.natCast_mul, Int.mul_comm]
            rw [this]
            omega
          have hb2' : ¬ ((m : Int) < 0) := by omega
          have hb3' : ¬ ((m : Int) > (n : Int)) := by omega
          have hroom : ¬ (n * j.bytes > roomBytes) := by simp only [roomBytes]; omega
          simp only [Instr.makeSlice, Sem.run_bind, run_underlying h3, Result.andThen_ok, asInt, asIntOf, Sem.run_pure, r1, r3, w1, w2, hb0, hb1', hb2', hb3', decide_false, Bool.or_self, Bool.false_eq_true, if_false, askRoom, Int.toNat_natCast, hroom, hj.size]
          by_cases h0 : n * j.size = 0
          · rw [show zz = #[] from if_pos h0, if_pos h0]
            simp only [Sem.run_bind, Result.andThen_ok, Sem.run_pure, newRow, run_newObj_alloc]
          · rw [show zz = z.cells from if_neg h0, if_neg h0]
            simp only [Sem.run_bind, Result.andThen_ok, q1, Sem.run_pure, newRow, run_newObj_alloc]
        · exact h8.elim
      · exact h8.elim
    · exact h8.elim
  · exact h2.elim
end

end Rn
end Go.Proofs.YtllbjkeahafleaaGreatDoor
