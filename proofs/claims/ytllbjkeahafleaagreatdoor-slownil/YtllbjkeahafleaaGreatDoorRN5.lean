/-
  What the runner's operations say of the machine's: places, cells, numbers.
-/
import Derived.Test.YtllbjkeahafleaaGreatDoorRN4
namespace Go.Proofs.YtllbjkeahafleaaGreatDoor
namespace Rn

/-- The machine comes to what the runner goes on with. -/
def Done (B : Tb) (φ : Fi) (h : Hp) (w : World) (r : Result Value) (K : KV) : Prop :=
  ∃ φ' h' w' v v', r = .ok v' w' ∧ VR φ' v v' ∧ WR B φ' h' w' ∧ St φ h w φ' h' w' ∧ K v h'

section
variable {P : Program} {B : Tb} {φ : Fi} {h : Hp} {w : World} {K : KV}

theorem ptr_vr {r o : Nat} {s : Sl} (hs : φ r = some s) : VR φ (ptr r o) (.pointer (some ⟨s.b, s.base + o, none⟩)) := VR.mk (v := .pointer (some ⟨r, o, none⟩)) ⟨s, hs, rfl⟩
theorem int_vr {k : IntKind} {n : Int} : VR φ (.int k n) (.int k n) := VR.mk (v := .int k n) rfl
theorem bool_vr {b : Bool} : VR φ (.bool b) (.bool b) := VR.mk (v := .bool b) rfl
theorem str_vr {s : ByteArray} : VR φ (.string s) (.string s) := VR.mk (v := .string s) rfl
theorem tuple_vr {xs ys : List Value} (hl : All2 (VR φ) xs ys) : VR φ (.tuple ⟨xs⟩) (.tuple ⟨ys⟩) := VR.mk (v := .tuple ⟨xs⟩) ⟨⟨ys⟩, rfl, hl⟩
theorem slice_vr {r o n c c' : Nat} {s : Sl} (hr : r ≠ NOWHERE) (hs : φ r = some s) (h1 : c ≠ TOP → c' = c) (h2 : c = TOP → n ≤ c' ∧ o + c' * s.u = s.room ∧ 1 ≤ s.u ∧ c' ≤ MAXL) :
    VR φ (.slice (some ⟨r, o, none⟩) n c) (.slice (some ⟨s.b, s.base + o, none⟩) n c') := VR.mk (v := .slice (some ⟨r, o, none⟩) n c) (.inr ⟨hr, s, c', hs, rfl, h1, h2⟩)

/-- Nothing is turned. -/
theorem Done.same {v v' : Value} (hw : WR B φ h w) (hv : VR φ v v') (hk : K v h) : Done B φ h w (.ok v' w) K := ⟨φ, h, w, v, v', rfl, hv, hw, St.refl _ _ _, hk⟩

/-- What an operation comes to that reads alone. -/
def DoneR (B : Tb) (φ : Fi) (h : Hp) (w : World) (r : Result Value) (K : KV) : Prop := ∃ v v', r = .ok v' w ∧ VR φ v v' ∧ WR B φ h w ∧ K v h
theorem DoneR.same {v v' : Value} (hw : WR B φ h w) (hv : VR φ v v') (hk : K v h) : DoneR B φ h w (.ok v' w) K := ⟨v, v', rfl, hv, hw, hk⟩
theorem DoneR.done {r : Result Value} (hd : DoneR B φ h w r K) : Done B φ h w r K := by
  obtain ⟨v, v', h1, h2, h3, h4⟩ := hd
  rw [h1]
  exact .same h3 h2 h4

/-- A new row of cells. -/
theorem newCells {cs : List Value} {c : Array Value} {e : Nat} (u : Nat) {K : Nat → Hp → Prop} (hw : WR B φ h w) (hk : newK h (.cells ⟨cs⟩ e) K)
    (hc : All2 (CR φ) cs (c.toList.take cs.length)) (hle : cs.length ≤ c.size) (hu : ∀ i, tget W B e = some i → u = i.size) (hso : solo B e = true → c.size = 2) :
    ∃ φ' h' r, WR B φ' h' (w.alloc (.cells c e)) ∧ St φ h w φ' h' (w.alloc (.cells c e)) ∧ φ' r = some ⟨w.heap.size, 0, c.size, u⟩ ∧ r ≠ NOWHERE ∧ K r h' := by
  obtain ⟨h1, h2⟩ := newK_spec hk
  refine ⟨_, _, h.next, hw.alloc (room := c.size) (u := u) h1 fun φ' hφ => rr_cells (hc.mono fun _ _ k => k.mono hφ) hle hu hso, St.more hw h1 rfl, by simp, ?_, h2⟩
  have := hw.low.1
  simp only [GL] at this
  show h.next ≠ 999
  omega

theorem oAlloc_spec {e : Nat} (hB : TOK P B) (hw : WR B φ h w) (hk : oAlloc B e h K) : Done B φ h w ((Instr.alloc e true (.tuple #[])).run P w) K := by
  obtain ⟨i, h1, h2⟩ := tyK_spec hk
  have hi := hB.ok e i h1
  obtain ⟨z, h3, h4, _⟩ := hi.zero (w := w)
  have hz : All2 (CR φ) i.zero (z.cells.toList.take i.zero.length) := by
    rw [h4, List.take_length]; exact zeros_cr hi
  obtain ⟨φ', h', r, g1, g2, g3, _, g5⟩ := newCells i.size hw h2 hz (by have := congrArg List.length h4; simp at this; omega) (fun k hk => by rw [h1] at hk; cases hk; rfl) (fun g => by
    have e1 : z.cells.size = i.zero.length := by have := congrArg List.length h4; simpa using this
    rw [e1, hi.len]
    simp only [solo, h1] at g
    exact hi.two g)
  refine ⟨φ', h', _, ptr r 0, .pointer (some ⟨w.heap.size, 0, none⟩), ?_, ptr_vr g3, g1, g2, g5⟩
  simp only [Instr.alloc, Sem.run_bind, h3, Result.andThen_ok, newVar, newRow, run_newObj_alloc, Sem.run_pure]

theorem oBox_spec {e : Nat} {x x' : Value} (hw : WR B φ h w) (hx : VR φ x x') (hk : oBox B e x h K) : Done B φ h w ((Instr.box e x').run P w) K := by
  obtain ⟨ib, hb1, hb2, hb3⟩ := tySK_spec hk
  obtain ⟨cs, h1, h2⟩ := cellsK_spec hx hb2
  have hl := h2.length
  obtain ⟨φ', h', r, g1, g2, g3, _, g5⟩ := newCells (c := x'.cells) (match tget W B e with | some i => i.size | none => 0) hw h1 (by rw [← hl, List.take_length]; exact h2) (by simp at hl; omega) (fun k hk => by rw [hk]) (no_solo hb1 hb3)
  refine ⟨φ', h', _, ptr r 0, .pointer (some ⟨w.heap.size, 0, none⟩), ?_, ptr_vr g3, g1, g2, g5⟩
  simp only [Instr.box, Sem.run_bind, Result.andThen_ok, newVar, newRow, run_newObj_alloc, Sem.run_pure]

theorem storeK_spec {r o : Nat} {vs vs' : List Value} {K : Hp → Prop} (hw : WR B φ h w) (hv : All2 (CR φ) vs vs') (hk : storeK h r o vs K) :
    ∃ s h' w', φ r = some s ∧ (storeCells ⟨s.b, s.base + o, none⟩ vs').run P w = .ok () w' ∧ WR B φ h' w' ∧ St φ h w φ h' w' ∧ K h' := by
  obtain ⟨x, h1, h2⟩ := rowK_spec hk
  split at h2
  · rename_i cs e
    rw [overAtK_iff] at h2
    obtain ⟨h3, h4⟩ := h2
    obtain ⟨s, h5, _⟩ := hw.rows r _ h1
    obtain ⟨g1, g2, g3⟩ := hw.store (P := P) (setK_low h4) h1 h5 hv (by simpa using h3)
    exact ⟨s, _, _, h5, g1, g2, g3, setK_spec h4⟩
  · exact h2.elim

theorem oStore_spec {ty : Nat} {a a' x x' : Value} (hB : TOK P B) (hw : WR B φ h w) (ha : VR φ a a') (hx : VR φ x x') (hk : oStore B ty a x h K) :
    ∃ h' w', (Instr.storeAt ty a' x').run P w = .ok () w' ∧ WR B φ h' w' ∧ St φ h w φ h' w' ∧ K undef h' := by
  unfold oStore at hk
  split at hk
  · rename_i r o
    obtain ⟨i, h1, h2⟩ := tyK_spec hk
    obtain ⟨cs, h3, h4⟩ := cellsK_spec hx h2
    rw [lenK_eq] at h3
    split at h3
    · rename_i hb
      have hsz := Nat.eq_of_beq_eq_true hb
      obtain ⟨s, h', w', g1, g2, g3, g4, g5⟩ := storeK_spec (P := P) hw h4 h3
      obtain ⟨s', g6, rfl⟩ := ha.inv
      rw [g1] at g6
      cases g6
      refine ⟨h', w', ?_, g3, g4, g5⟩
      have hl := h4.length
      have hcs : x'.cells.size = i.size := by simp at hl; omega
      simp only [Instr.storeAt, Instr.sureAddr, Sem.run_bind, Sem.run_pure, Result.andThen_ok, storeVar, (hB.ok ty i h1).size, hcs, ne_eq, not_true, if_false, g2]
    · exact h3.elim
  · exact hk.elim

theorem oLoad_spec {ty : Nat} {a a' : Value} (hB : TOK P B) (hw : WR B φ h w) (ha : VR φ a a') (hk : oLoad B ty a h K) : DoneR B φ h w ((Instr.loadAt ty a').run P w) K := by
  obtain ⟨v, v', h1, h2, h3⟩ := loadK_spec hB hw ha hk
  rw [h3]
  exact .same hw h2 h1

theorem natK_spec {x x' : Value} {K : Nat → Prop} (hx : VR φ x x') (hk : natK x K) : ∃ k n, x' = .int k (.ofNat n) ∧ K n := by
  unfold natK at hk
  split at hk
  · rename_i k n
    have : _ = _ := hx.inv
    exact ⟨k, n, this, hk⟩
  · exact hk.elim

theorem add_plain {b o n : Nat} : (⟨b, o, none⟩ : Addr).add n = ⟨b, o + n, none⟩ := by
  unfold Addr.add
  split
  · subst_vars; rfl
  · rfl

theorem kd_struct {k d : TypeDesc} {fs : Array Field} (hk : k = .struct fs) (h : Kd k d) : ∃ fs' : Array Field, d = .struct fs' ∧ All2 (fun (f f' : Field) => f'.type = f.type ∧ f'.offset = f.offset ∧ f'.name ≠ "_") fs.toList fs'.toList := by subst hk; exact h

theorem oFieldAddr_spec {ty f : Nat} {x x' : Value} (hB : TOK P B) (hw : WR B φ h w) (hx : VR φ x x') (hk : oFieldAddr B ty x f h K) : DoneR B φ h w ((Instr.fieldAt ty x' f).run P w) K := by
  obtain ⟨i, h1, h2⟩ := tyK_spec hk
  obtain ⟨d, h3, h4⟩ := (hB.ok ty i h1).under
  split at h2
  · rename_i fs hki
    obtain ⟨fs', rfl, h5⟩ := kd_struct hki h4
    split at h2
    · rename_i r o
      obtain ⟨s, h6, rfl⟩ := hx.inv
      obtain ⟨fd, h7, h8⟩ := (nthK_iff _ _ _).1 h2
      obtain ⟨fd', h9, h10, h11, _⟩ := h5.get f fd h7
      obtain ⟨j, h12, h13⟩ := tyK_spec h8
      split at h13
      · exact h13.elim
      · rename_i m hsz
        rw [fN_eq] at h13
        have h9' : fs'[f]? = some fd' := by simpa using h9
        have hj := (hB.ok fd.type j h12).size (w := w)
        have hne : ¬ j.size = 0 := by omega
        have e : (Instr.fieldAt ty (.pointer (some ⟨s.b, s.base + o, none⟩)) f).run P w = .ok (.pointer (some ⟨s.b, s.base + (o + fd.offset), none⟩)) w := by
          simp only [Instr.fieldAt, Sem.run_bind, run_underlying h3, Result.andThen_ok, h9', Instr.sureAddr, Sem.run_pure, fieldPlace, h10, hj, hne, if_false, h11, add_plain, Nat.add_assoc]
        rw [e]
        exact .same hw (ptr_vr h6) h13
    · exact h2.elim
  · exact h2.elim

theorem part_run {t : Nat} {i : TI} {cs : Array Value} {off : Nat} {v' : Value} (hi : TiOK P t i)
    (h1 : isAgg i.kind = true → i.size ≤ (cs.toList.drop off).length ∧ v' = .agg ⟨(cs.toList.drop off).take i.size⟩) (h2 : isAgg i.kind = false → (cs.toList.drop off)[0]? = some v') : (part t cs off).run P w = .ok v' w := by
  simp only [part, Sem.run_bind, hi.isAgg, Result.andThen_ok]
  cases ha : isAgg i.kind with
  | true =>
    obtain ⟨_, rfl⟩ := h1 ha
    simp only [if_true, Sem.run_bind, hi.size, Result.andThen_ok]
    have e : cs.extract off (off + i.size) = ⟨(cs.toList.drop off).take i.size⟩ := by
      apply Array.ext'
      rw [Array.toList_extract]
      simp [List.extract_eq_take_drop]
    rw [e]
    rfl
  | false =>
    have := h2 ha
    rw [List.getElem?_drop] at this
    have h3 : cs[off]? = some v' := by simpa using this
    simp only [Bool.false_eq_true, if_false, h3]
    rfl

theorem oField_spec {ty f : Nat} {x x' : Value} (hB : TOK P B) (hw : WR B φ h w) (hx : VR φ x x') (hk : oField B ty x f h K) : DoneR B φ h w ((Instr.field ty x' f).run P w) K := by
  obtain ⟨i, h1, h2⟩ := tyK_spec hk
  obtain ⟨d, h3, h4⟩ := (hB.ok ty i h1).under
  split at h2
  · rename_i fs hki
    obtain ⟨fs', rfl, h5⟩ := kd_struct hki h4
    split at h2
    · rename_i cs
      obtain ⟨ys, rfl, h6⟩ := hx.inv
      obtain ⟨fd, h7, h8⟩ := (nthK_iff _ _ _).1 h2
      obtain ⟨fd', h9, h10, h11, _⟩ := h5.get f fd h7
      obtain ⟨j, h12, h13⟩ := tyK_spec h8
      rw [dropK_iff] at h13
      obtain ⟨v, v', g1, g2, g3, g4⟩ := ofCellsK_spec (All2.drop fd.offset h6) h13.2
      have h9' : fs'[f]? = some fd' := by simpa using h9
      have hp := part_run (P := P) (w := w) (cs := ys) (off := fd.offset) (v' := v') (hB.ok fd.type j h12) g3 fun h => (g4 h).1
      have e : (Instr.field ty (.agg ys) f).run P w = .ok v' w := by
        simp only [Instr.field, Sem.run_bind, run_underlying h3, Result.andThen_ok, h9', asAgg, Sem.run_pure, h10, h11, hp]
      rw [e]
      exact .same hw g2 g1
    · exact h2.elim
  · exact h2.elim

theorem oIndexAddr_spec {ty : Nat} {x x' y y' : Value} (hB : TOK P B) (hw : WR B φ h w) (hx : VR φ x x') (hy : VR φ y y') (hk : oIndexAddr B ty x y h K) : DoneR B φ h w ((Instr.indexAt ty x' y').run P w) K := by
  obtain ⟨i, h1, h2⟩ := tyK_spec hk
  obtain ⟨d, h3, h4⟩ := (hB.ok ty i h1).under
  obtain ⟨ik, k, rfl, h5⟩ := natK_spec hy h2
  split at h5
  · rename_i e hki
    have hd : d = .slice e := by rw [hki] at h4; exact h4
    subst hd
    split at h5
    · rename_i r o n c
      obtain ⟨j, h6, h7⟩ := tyK_spec h5
      split at h7
      · rename_i hb
        rw [fN_eq] at h7
        have hlt : k < n := by
          rcases Nat.lt_or_ge k n with g | g
          · exact g
          · rw [Nat.ble_eq_true_of_le g] at hb; cases hb
        rcases hx.inv with ⟨_, h0, _⟩ | ⟨_, s, c', h8, rfl, _⟩
        · omega
        · have hlt' : (k : Int) < (n : Int) := by omega
          have e : (Instr.indexAt ty (.slice (some ⟨s.b, s.base + o, none⟩) n c') (.int ik (.ofNat k))).run P w = .ok (.pointer (some ⟨s.b, s.base + (o + k * j.size), none⟩)) w := by
            have : (0 : Int) ≤ Int.ofNat k ∧ Int.ofNat k < (n : Int) := ⟨Int.natCast_nonneg k, hlt'⟩
            simp only [Instr.indexAt, asIntOf, Sem.run_bind, Sem.run_pure, Result.andThen_ok, run_underlying h3, this, and_self, if_true, (hB.ok e j h6).size, add_plain, Nat.add_assoc]
            rfl
          rw [e]
          exact .same hw (ptr_vr h8) h7
      · exact h7.elim
    · rename_i r q
      obtain ⟨j, h6, h7⟩ := tyK_spec h5
      split at h7
      · rename_i hb
        rw [fN_eq] at h7
        have hlt : k < LONG := by
          rcases Nat.lt_or_ge k LONG with g | g
          · exact g
          · rw [Nat.ble_eq_true_of_le g] at hb; cases hb
        obtain ⟨s, t, c', h8, h9, h10, h11, rfl⟩ := hx.inv
        have hlt' : (k : Int) < (t.b : Int) := by omega
        have e : (Instr.indexAt ty (.slice (some ⟨s.b, s.base, none⟩) t.b c') (.int ik (.ofNat k))).run P w = .ok (.pointer (some ⟨s.b, s.base + k * j.size, none⟩)) w := by
          have : (0 : Int) ≤ Int.ofNat k ∧ Int.ofNat k < (t.b : Int) := ⟨Int.natCast_nonneg k, hlt'⟩
          simp only [Instr.indexAt, asIntOf, Sem.run_bind, Sem.run_pure, Result.andThen_ok, run_underlying h3, this, and_self, if_true, (hB.ok e j h6).size, add_plain]
          rfl
        rw [e]
        exact .same hw (ptr_vr h8) h7
      · exact h7.elim
    · exact h5.elim
  · rename_i m e hki
    have hd : d = .array m e := by rw [hki] at h4; exact h4
    subst hd
    split at h5
    · rename_i r o
      obtain ⟨j, h6, h7⟩ := tyK_spec h5
      split at h7
      · rename_i hb
        rw [fN_eq] at h7
        have hlt : k < m := by
          rcases Nat.lt_or_ge k m with g | g
          · exact g
          · rw [Nat.ble_eq_true_of_le g] at hb; cases hb
        obtain ⟨s, h8, rfl⟩ := hx.inv
        have hlt' : (k : Int) < (m : Int) := by omega
        have e : (Instr.indexAt ty (.pointer (some ⟨s.b, s.base + o, none⟩)) (.int ik (.ofNat k))).run P w = .ok (.pointer (some ⟨s.b, s.base + (o + k * j.size), none⟩)) w := by
          have : (0 : Int) ≤ Int.ofNat k ∧ Int.ofNat k < (m : Int) := ⟨Int.natCast_nonneg k, hlt'⟩
          simp only [Instr.indexAt, asIntOf, Sem.run_bind, Sem.run_pure, Result.andThen_ok, run_underlying h3, Instr.sureAddr, this, and_self, if_true, (hB.ok e j h6).size, add_plain, Nat.add_assoc]
          rfl
        rw [e]
        exact .same hw (ptr_vr h8) h7
      · exact h7.elim
    · exact h5.elim
  · exact h5.elim

theorem oIndex_spec {ty : Nat} {x x' y y' : Value} (hB : TOK P B) (hw : WR B φ h w) (hx : VR φ x x') (hy : VR φ y y') (hk : oIndex B ty x y h K) : DoneR B φ h w ((Instr.index ty x' y').run P w) K := by
  obtain ⟨i, h1, h2⟩ := tyK_spec hk
  obtain ⟨d, h3, h4⟩ := (hB.ok ty i h1).under
  obtain ⟨ik, k, rfl, h5⟩ := natK_spec hy h2
  split at h5
  · rename_i hki
    have hd : d = .string := by rw [hki] at h4; exact h4
    subst hd
    split at h5
    · rename_i s
      have hx' : x' = .string s := hx.inv
      subst hx'
      obtain ⟨b, h6, h7⟩ := (nthK_iff _ _ _).1 h5
      rw [fN_eq] at h7
      have e : (Instr.index ty (.string s) (.int ik (.ofNat k))).run P w = .ok (.int .u8 b.toNat) w := by
        have hb : s[k]? = some b := by
          have hlt : k < s.data.size := by
            have := (List.getElem?_eq_some_iff.1 h6).1
            simpa using this
          have h8 : s.data[k]? = some b := by simpa using h6
          rw [Array.getElem?_eq_getElem hlt] at h8
          have : s[k]? = some s[k] := getElem?_pos s k hlt
          rw [this]
          exact h8
        have : (0 : Int) ≤ Int.ofNat k := Int.natCast_nonneg k
        simp only [Instr.index, asIntOf, Sem.run_bind, Sem.run_pure, Result.andThen_ok, run_underlying h3, this, if_true, show (Int.ofNat k).toNat = k from rfl, hb]
      rw [e]
      exact .same hw int_vr h7
    · exact h5.elim
  · rename_i m e hki
    have hd : d = .array m e := by rw [hki] at h4; exact h4
    subst hd
    split at h5
    · rename_i cs
      obtain ⟨ys, rfl, h6⟩ := hx.inv
      obtain ⟨j, h7, h8⟩ := tyK_spec h5
      split at h8
      · rename_i hb
        have hlt : k < m := by
          rcases Nat.lt_or_ge k m with g | g
          · exact g
          · rw [Nat.ble_eq_true_of_le g] at hb; cases hb
        rw [dropK_iff] at h8
        obtain ⟨v, v', g1, g2, g3, g4⟩ := ofCellsK_spec (All2.drop (k * j.size) h6) h8.2
        have hp := part_run (P := P) (w := w) (cs := ys) (off := k * j.size) (v' := v') (hB.ok e j h7) g3 fun h => (g4 h).1
        have hlt' : (k : Int) < (m : Int) := by omega
        have e' : (Instr.index ty (.agg ys) (.int ik (.ofNat k))).run P w = .ok v' w := by
          have : (0 : Int) ≤ Int.ofNat k ∧ Int.ofNat k < (m : Int) := ⟨Int.natCast_nonneg k, hlt'⟩
          simp only [Instr.index, asIntOf, Sem.run_bind, Sem.run_pure, Result.andThen_ok, run_underlying h3, this, and_self, if_true, (hB.ok e j h7).size]
          exact hp
        rw [e']
        exact .same hw g2 g1
      · exact h8.elim
    · exact h5.elim
  · exact h5.elim

theorem oExtract_spec {i : Nat} {x x' : Value} (hw : WR B φ h w) (hx : VR φ x x') (hk : oExtract x i h K) : DoneR B φ h w ((Instr.extract x' i).run P w) K := by
  unfold oExtract at hk
  split at hk
  · rename_i vs
    obtain ⟨ys, rfl, h1⟩ := hx.inv
    obtain ⟨v, h2, h3⟩ := (nthK_iff _ _ _).1 hk
    obtain ⟨v', h4, h5⟩ := h1.get i v h2
    have h4' : ys[i]? = some v' := by simpa using h4
    simp only [Instr.extract, h4', Sem.run_pure]
    exact .same hw h5 h3
  · exact hk.elim
end

end Rn
end Go.Proofs.YtllbjkeahafleaaGreatDoor
