/-
  What the runner's reading says: operands, cells, loads; the types' table.
-/
import Derived.Test.YtllbjkeahafleaaGreatDoorRN3
import Derived.Laws.NewFold
namespace Go.Proofs.YtllbjkeahafleaaGreatDoor
namespace Rn

/-- What the table's shape says of a type's. -/
def Kd (k d : TypeDesc) : Prop := match k with
  | .bool => d = .bool
  | .int i => d = .int i
  | .string => d = .string
  | .pointer e => d = .pointer e
  | .slice e => d = .slice e
  | .array n e => d = .array n e
  | .map a b => d = .map a b
  | .struct fs => ∃ fs' : Array Field, d = .struct fs' ∧ All2 (fun (f f' : Field) => f'.type = f.type ∧ f'.offset = f.offset ∧ f'.name ≠ "_") fs.toList fs'.toList
  | .interface _ => ∃ ms, d = .interface ms
  | .func _ _ _ => ∃ a b c, d = .func a b c
  | _ => False
/-- A row of the table says what the program's says. -/
structure TiOK (P : Program) (t : Nat) (i : TI) : Prop where
  known : ∃ ti d z, P.info? t = some ti ∧ P.underlying t = some d ∧ ti.size = i.size ∧ ti.bytes = i.bytes ∧ Kd i.kind d ∧ ti.zero = some z ∧ z.cells.toList = i.zero ∧ (isAgg i.kind = false → ∃ v, z = v ∧ Fl v) ∧ (isAgg i.kind = true → ∃ c, z = .agg c ∧ c.size = i.size)
  plain : ∀ v ∈ i.zero, simple v = true
  len : i.zero.length = i.size
  flds : ∀ fs : Array Field, P.underlying t = some (.struct fs) → ∀ f ∈ fs.toList, ∃ ti, P.info? f.type = some ti
  two : i.solo = true → i.size = 2
  eqs : i.eq = true → P.eqGuardType P.depth t = false ∧ P.stoodInHeld t = false
  mets : ∀ m ∈ i.ms, ∃ ti m', P.info? t = some ti ∧ (ti.methods.find? fun x => x.name == m.name) = some m' ∧ m'.path.toList = m.path ∧ m'.func = some (m.f, m.p)
structure TOK (P : Program) (B : Tb) : Prop where
  ok : ∀ t i, tget W B t = some i → TiOK P t i
  calls : ∀ (g : Nat) (fn : Func) (c : Code), P.funcs[g]? = some fn → fn.body = some c → ∀ (args : Array Value) (w : World), (callFunc g args).run P w = .ok (.enter g args) w
  mixed : P.follows .mixedOrders = true

section
variable {P : Program} {B : Tb} {φ : Fi} {h : Hp} {w : World} {ds : List Deferred}

theorem simple_vr {v : Value} (hs : simple v = true) : CR φ v v := by
  unfold simple at hs
  split at hs <;> first
    | exact ⟨VR.mk rfl, trivial⟩
    | cases hs

theorem kd_agg {k d : TypeDesc} (h : Kd k d) : (match d with | .struct _ => true | .array _ _ => true | _ => false) = isAgg k := by
  unfold Kd at h
  split at h <;> first
    | (subst h; rfl)
    | (obtain ⟨_, rfl, _⟩ := h; rfl)
    | (obtain ⟨_, rfl⟩ := h; rfl)
    | (obtain ⟨_, _, _, rfl⟩ := h; rfl)
    | exact h.elim

theorem TiOK.isAgg {t : Nat} {i : TI} (hi : TiOK P t i) : (Go.isAgg t).run P w = .ok (isAgg i.kind) w := by
  obtain ⟨ti, d, z, h1, h2, _, _, h5, _⟩ := hi.known
  have := kd_agg h5
  simp only [Go.isAgg, Sem.run_bind, run_underlying h2, Result.andThen_ok]
  rw [← this]
  cases d <;> rfl
theorem TiOK.size {t : Nat} {i : TI} (hi : TiOK P t i) : (sizeOf t).run P w = .ok i.size w := by
  obtain ⟨ti, d, z, h1, h2, h3, _⟩ := hi.known
  simp only [sizeOf, typeInfo, Sem.run_bind, run_program, Result.andThen_ok, h1, ← h3]
  rfl
theorem TiOK.info {t : Nat} {i : TI} (hi : TiOK P t i) : ∃ ti, (typeInfo t).run P w = .ok ti w ∧ ti.size = i.size ∧ ti.bytes = i.bytes := by
  obtain ⟨ti, d, z, h1, h2, h3, h4, _⟩ := hi.known
  refine ⟨ti, ?_, h3, h4⟩
  simp only [typeInfo, Sem.run_bind, run_program, Result.andThen_ok, h1]
  rfl
theorem TiOK.zero {t : Nat} {i : TI} (hi : TiOK P t i) : ∃ z, (zeroValue t).run P w = .ok z w ∧ z.cells.toList = i.zero ∧ (Rn.isAgg i.kind = false → Fl z) ∧ (Rn.isAgg i.kind = true → ∃ c, z = .agg c ∧ c.size = i.size) := by
  obtain ⟨ti, d, z, h1, h2, h3, h4, h5, h6, h7, h8, h9⟩ := hi.known
  refine ⟨z, ?_, h7, fun h => ?_, h9⟩
  · simp only [zeroValue, typeInfo, Sem.run_bind, run_program, Result.andThen_ok, h1]
    show (match ti.zero with | some v => pure v | none => unsupported _ : Sem Value).run P w = _
    rw [h6]
    rfl
  · obtain ⟨v, rfl, hv⟩ := h8 h
    exact hv
theorem TiOK.under {t : Nat} {i : TI} (hi : TiOK P t i) : ∃ d, P.underlying t = some d ∧ Kd i.kind d := by
  obtain ⟨ti, d, z, h1, h2, h3, h4, h5, _⟩ := hi.known
  exact ⟨d, h2, h5⟩
/-- The zero's cells are alike. -/
theorem zeros_cr {i : TI} {t : Nat} (hi : TiOK P t i) : All2 (CR φ) i.zero i.zero := by
  have := hi.plain
  generalize i.zero = l at this
  induction l with
  | nil => rfl
  | cons x l ih => exact ⟨simple_vr (this x (by simp)), ih fun v hv => this v (by simp [hv])⟩

def findE (i : Nat) : List (Nat × Value) → Option Value
  | [] => none
  | p :: l => match Nat.beq p.1 i with
    | true => some p.2
    | false => findE i l
theorem lookK_spec {i : Nat} {K : Value → Prop} : ∀ {e : List (Nat × Value)}, lookK i e K → ∃ v, findE i e = some v ∧ K v
  | [], h => h.elim
  | (d, v) :: e, h => by
    have h' : (Bool.rec (motive := fun _ => Prop) (lookK i e K) (K v) (Nat.beq d i) : Prop) := h
    simp only [findE]
    cases hb : Nat.beq d i with
    | true => rw [hb] at h'; exact ⟨v, rfl, h'⟩
    | false => rw [hb] at h'; exact lookK_spec h'
/-- What a frame holds: where nothing stands nothing is known. -/
structure TR (ds : List Deferred) (φ : Fi) (t : Tm) (a : Act) : Prop where
  size : a.tmps.size = t.n
  defers : a.defers = ds
  few : t.n ≤ 1000000
  tree : ∀ i v, bitOf t.m i = true → tget W t.t i = some v → VR φ v (a.tmps.getD i undef)
  envs : ∀ i v, bitOf t.m i = false → findE i t.e = some v → VR φ v (a.tmps.getD i undef)
theorem TR.mono {φ' : Fi} {t : Tm} {a : Act} (hφ : ∀ r s, φ r = some s → φ' r = some s) (h : TR ds φ t a) : TR ds φ' t a := ⟨h.size, h.defers, h.few, fun i v hb hv => (h.tree i v hb hv).mono hφ, fun i v hb hv => (h.envs i v hb hv).mono hφ⟩
theorem clrK_spec {t : Tm} {a : Act} {K : Tm → Prop} (ht : TR ds φ t a) (hk : clrK t K) : ∃ t', K t' ∧ TR ds φ t' a := by
  obtain ⟨n, t, e, m⟩ := t
  exact ⟨_, hk, ht.size, ht.defers, ht.few, ht.tree, fun i v _ h => by cases h⟩

theorem undef_vr : VR φ undef undef := VR.mk ⟨#[], rfl, rfl⟩

theorem cvK_spec {v : Value} {K : Value → Prop} (hk : cvK v K) : ∃ x, K x ∧ VR φ x v := by
  have hany : ∀ {u : Value}, Fl u → VR φ any u := fun hu => VR.mk hu
  unfold cvK at hk
  split at hk
  · rename_i cs
    have : ∀ l : List Value, (List.rec (motive := fun _ => Prop) (K (.agg cs)) (fun x _ ih => match simple x with | true => ih | false => False) l : Prop) → K (.agg cs) ∧ All2 (fun x y => VR φ x y ∧ Fl x) l l := by
      intro l
      induction l with
      | nil => intro g; exact ⟨g, rfl⟩
      | cons x l ih =>
        intro g
        simp only at g
        split at g
        · rename_i hs
          exact ⟨(ih g).1, simple_vr hs, (ih g).2⟩
        · exact g.elim
    obtain ⟨g1, g2⟩ := this _ hk
    exact ⟨_, g1, VR.mk ⟨cs, rfl, g2⟩⟩
  · exact hk.elim
  · rename_i h1 h2
    split at hk
    · rename_i hs
      exact ⟨_, hk, (simple_vr hs).1⟩
    · exact ⟨_, hk, hany (by cases v <;> first | exact trivial | exact (h1 _ rfl).elim | exact (h2 _ rfl).elim)⟩

theorem valK_spec {t : Tm} {a : Act} {x : Operand} {K : Value → Prop} (ht : TR ds φ t a) (hk : valK t x K) : ∃ v, K v ∧ VR φ v (a.eval x) := by
  cases x with
  | tmp i =>
    obtain ⟨n, t, e, m⟩ := t
    have hk' : (Bool.rec (motive := fun _ => Prop) (lookK i e K) (tgetK W t i fun v => Option.rec (motive := fun _ => Prop) False (fun v => K v) v) (bitOf m i) : Prop) := hk
    cases hb : bitOf m i with
    | true =>
      rw [hb] at hk'
      simp only [tgetK_eq] at hk'
      cases hg : tget W t i with
      | none => rw [hg] at hk'; exact hk'.elim
      | some v => rw [hg] at hk'; exact ⟨v, hk', ht.tree i v hb hg⟩
    | false =>
      rw [hb] at hk'
      obtain ⟨v, h1, h2⟩ := lookK_spec hk'
      exact ⟨v, h2, ht.envs i v hb h1⟩
  | const v => exact cvK_spec hk
  | global g => exact ⟨_, hk, VR.mk (v := .pointer (some ⟨g, 0, some 0⟩)) (v' := a.eval (.global g)) rfl⟩
  | func f => exact ⟨_, hk, VR.mk ⟨#[], #[], rfl, rfl, rfl⟩⟩
theorem valsK_spec {t : Tm} {a : Act} (ht : TR ds φ t a) : ∀ {l : List Operand} {K : List Value → Prop}, valsK t l K → ∃ vs, K vs ∧ All2 (VR φ) vs (l.map a.eval)
  | [], K, hk => ⟨[], hk, rfl⟩
  | x :: l, K, hk => by
    have hk' : valK t x fun v => valsK t l fun l => K (v :: l) := hk
    obtain ⟨v, h1, h2⟩ := valK_spec ht hk'
    obtain ⟨vs, h3, h4⟩ := valsK_spec ht h1
    exact ⟨v :: vs, h3, h2, h4⟩

/-- The cells of a value. -/
theorem cellsK_spec {v v' : Value} {K : List Value → Prop} (hv : VR φ v v') (hk : cellsK v K) : ∃ cs, K cs ∧ All2 (CR φ) cs v'.cells.toList := by
  unfold cellsK at hk
  split at hk
  · obtain ⟨ys, rfl, h2⟩ := hv.inv
    exact ⟨_, hk, h2⟩
  · exact hk.elim
  · rename_i h1 h2
    have hf : Fl v := by cases v <;> first | exact trivial | exact (h1 _ rfl).elim | exact (h2 _ rfl).elim
    refine ⟨_, hk, ?_⟩
    have := hv.flat hf
    have e : v'.cells.toList = [v'] := by cases v' <;> first | rfl | exact this.elim
    rw [e]
    exact ⟨⟨hv, hf⟩, rfl⟩

/-- The cells of a row from a place on, as they lie in the world. -/
theorem cells_list {s : Sl} {o : Nat} : ∀ (l : List Value) (j : Nat), (∀ (i : Nat) (v : Value), l[i]? = some v → ∃ v', w.cell? ⟨s.b, s.base + o + j + i, none⟩ = some v' ∧ CR φ v v') →
    ∃ l' : List Value, All2 (CR φ) l l' ∧ ∀ (i : Nat) (v' : Value), l'[i]? = some v' → w.cell? ⟨s.b, s.base + o + j + i, none⟩ = some v'
  | [], _, _ => ⟨[], rfl, fun _ _ h => by simp at h⟩
  | v :: l, j, g => by
    obtain ⟨v', h1, h2⟩ := g 0 v rfl
    obtain ⟨l', h3, h4⟩ := cells_list (s := s) (o := o) l (j + 1) fun i x hx => by
      obtain ⟨y, h5, h6⟩ := g (i + 1) x (by simpa using hx)
      exact ⟨y, by rw [← h5]; congr 2; omega, h6⟩
    refine ⟨v' :: l', ⟨h2, h3⟩, fun i y hy => ?_⟩
    cases i with
    | zero => simp at hy; subst hy; simpa using h1
    | succ i => have := h4 i y (by simpa using hy); rw [← this]; congr 2; omega
theorem cellsAtK_spec {r o : Nat} {K : List Value → Prop} (hw : WR B φ h w) (hk : cellsAtK h r o K) :
    ∃ l l' s, K l ∧ φ r = some s ∧ All2 (CR φ) l l' ∧ ∀ (i : Nat) (v' : Value), l'[i]? = some v' → w.cell? ((⟨s.b, s.base + o, none⟩ : Addr).add i) = some v' := by
  obtain ⟨x, h1, h2⟩ := rowK_spec hk
  split at h2
  · rename_i cs e fz
    rw [dropK_iff] at h2
    obtain ⟨s, h3, h4⟩ := hw.rows r _ h1
    obtain ⟨_, _, _, _, _, _, h5⟩ := h4
    obtain ⟨l', h6, h7⟩ := cells_list (φ := φ) (w := w) (s := s) (o := o) (cs.toList.drop o) 0 fun i v hv => by
      obtain ⟨v', h8, h9⟩ := h5 (o + i) v (by simpa [List.getElem?_drop] using hv)
      exact ⟨v', by rw [← h8]; congr 2; omega, h9⟩
    refine ⟨_, l', s, h2.2, h3, h6, fun i v' hv => ?_⟩
    rw [← h7 i v' hv]
    congr 1
    unfold Addr.add
    split
    · subst_vars; rfl
    · simp
  · exact h2.elim

/-- A value out of cells. -/
theorem ofCellsK_spec {i : TI} {l l' : List Value} {K : Value → Prop} (hl : All2 (CR φ) l l') (hk : ofCellsK i l K) :
    ∃ v v', K v ∧ VR φ v v' ∧ (isAgg i.kind = true → i.size ≤ l'.length ∧ v' = .agg ⟨l'.take i.size⟩) ∧ (isAgg i.kind = false → l'[0]? = some v' ∧ Fl v) := by
  unfold ofCellsK at hk
  split at hk
  · rename_i ha
    rw [takeK_iff] at hk
    refine ⟨_, .agg ⟨l'.take i.size⟩, hk.2, VR.mk ⟨⟨l'.take i.size⟩, rfl, hl.take _⟩, fun _ => ⟨by rw [hl.length]; exact hk.1, rfl⟩, fun h => by rw [ha] at h; cases h⟩
  · rename_i ha
    split at hk
    · rename_i v l0
      cases l' with
      | nil => exact hl.elim
      | cons v' l' => exact ⟨v, v', hk, hl.1.1, (fun h => absurd (ha.symm.trans h) (by simp)), fun _ => ⟨rfl, hl.1.2⟩⟩
    · exact hk.elim

theorem loadVar_run {t : Nat} {i : TI} {a : Addr} {l' : List Value} {v' : Value} (hi : TiOK P t i) (hc : ∀ (j : Nat) (x : Value), l'[j]? = some x → w.cell? (a.add j) = some x)
    (h1 : isAgg i.kind = true → i.size ≤ l'.length ∧ v' = .agg ⟨l'.take i.size⟩) (h2 : isAgg i.kind = false → l'[0]? = some v') : (loadVar t a).run P w = .ok v' w := by
  simp only [loadVar, Sem.run_bind, hi.isAgg, Result.andThen_ok]
  cases ha : isAgg i.kind with
  | true =>
    obtain ⟨h3, h4⟩ := h1 ha
    have hl := run_loadCells_list (P := P) w a (l'.take i.size) fun j x hx => by
      rw [List.getElem?_take] at hx
      split at hx
      · exact hc j x hx
      · cases hx
    rw [List.length_take, Nat.min_eq_left h3] at hl
    simp only [if_true, Sem.run_bind, hi.size, Result.andThen_ok, hl, h4]
    rfl
  | false =>
    have h3 := hc 0 v' (h2 ha)
    have e : a.add 0 = a := by simp [Addr.add]
    rw [e] at h3
    simp only [Bool.false_eq_true, if_false, run_load, h3]

theorem loadK_spec {t : Nat} {x x' : Value} {K : Value → Prop} (hB : TOK P B) (hw : WR B φ h w) (hx : VR φ x x') (hk : loadK B h t x K) :
    ∃ v v', K v ∧ VR φ v v' ∧ (Instr.loadAt t x').run P w = .ok v' w := by
  unfold loadK at hk
  split at hk
  · rename_i r o
    obtain ⟨i, h1, h2⟩ := tyK_spec hk
    obtain ⟨l, l', s, h3, h4, h5, h6⟩ := cellsAtK_spec hw h2
    obtain ⟨v, v', h7, h8, h9, h10⟩ := ofCellsK_spec h5 h3
    obtain ⟨s', h11, h12⟩ := hx.inv
    rw [h4] at h11
    cases h11
    refine ⟨v, v', h7, h8, ?_⟩
    subst h12
    have := loadVar_run (P := P) (w := w) (hB.ok t i h1) h6 h9 fun h => (h10 h).1
    simp only [Instr.loadAt, Instr.sureAddr, Sem.run_bind, Sem.run_pure, Result.andThen_ok, this]
  · rename_i g o q
    split at hk
    · exact hk.elim
    rename_i hb
    have hg : g < GL := by
      rcases Nat.lt_or_ge g GL with hlt | hge
      · exact hlt
      · rw [Nat.ble_eq_true_of_le hge] at hb
        cases hb
    obtain ⟨i, h1, h2⟩ := tyK_spec hk
    obtain ⟨l, l', s, h3, h4, h5, h6⟩ := cellsAtK_spec hw h2
    obtain ⟨v, v', h7, h8, h9, h10⟩ := ofCellsK_spec h5 h3
    obtain ⟨e1, e2⟩ := hw.low.2 g s hg h4
    have hx' : x' = .pointer (some ⟨g, o, none⟩) := hx.inv
    refine ⟨v, v', h7, h8, ?_⟩
    subst hx'
    rw [e1, e2, Nat.zero_add] at h6
    have := loadVar_run (P := P) (w := w) (hB.ok t i h1) h6 h9 fun h => (h10 h).1
    simp only [Instr.loadAt, Instr.sureAddr, Sem.run_bind, Sem.run_pure, Result.andThen_ok, this]
  · exact hk.elim
end

end Rn
end Go.Proofs.YtllbjkeahafleaaGreatDoor
