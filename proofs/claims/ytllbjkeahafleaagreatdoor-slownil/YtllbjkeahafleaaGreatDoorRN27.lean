/-
  A test whether the table says what the program says of its types; whether the plans are those of its regions.
-/
import Derived.Test.YtllbjkeahafleaaGreatDoorRN18
set_option linter.unusedSimpArgs false
namespace Go.Proofs.YtllbjkeahafleaaGreatDoor
namespace Rn

/-- Two plain values are the same. -/
def eqPlain (v w : Value) : Bool := match v with
  | .bool a => match w with
    | .bool b => match a with
      | true => b
      | false => notB b
    | _ => false
  | .int k a => match w with
    | .int k' b => match Nat.beq (ikN k) (ikN k') with
      | true => intEq a b
      | false => false
    | _ => false
  | .string s => match w with
    | .string s' => match s.data.toList with
      | [] => match s'.data.toList with
        | [] => true
        | _ :: _ => false
      | _ :: _ => false
    | _ => false
  | .pointer none => match w with
    | .pointer none => true
    | _ => false
  | .slice none n c => match w with
    | .slice none n' c' => match Nat.beq n n' with
      | true => Nat.beq c c'
      | false => false
    | _ => false
  | .map none => match w with
    | .map none => true
    | _ => false
  | .nilFunc => match w with
    | .nilFunc => true
    | _ => false
  | .nilIface => match w with
    | .nilIface => true
    | _ => false
  | _ => false
def eqPlains : List Value → List Value → Bool
  | [], [] => true
  | v :: l, w :: m => match eqPlain v w with
    | true => eqPlains l m
    | false => false
  | _, _ => false
theorem intEq_spec {a b : Int} (h : intEq a b = true) : a = b := by
  unfold intEq at h
  split at h
  · split at h
    · rw [Nat.eq_of_beq_eq_true h]
    · cases h
  · split at h
    · cases h
    · rw [Nat.eq_of_beq_eq_true h]
theorem eqPlain_spec {v w : Value} (h : eqPlain v w = true) : v = w ∧ simple w = true := by
  unfold eqPlain at h
  split at h
  · split at h
    · rename_i b
      split at h
      · subst h; exact ⟨rfl, rfl⟩
      · cases b
        · exact ⟨rfl, rfl⟩
        · cases h
    · cases h
  · split at h
    · split at h
      · rename_i hb
        rw [ikN_inj hb, intEq_spec h]
        exact ⟨rfl, rfl⟩
      · cases h
    · cases h
  · rename_i s
    split at h
    · rename_i s'
      split at h
      · rename_i h1
        split at h
        · rename_i h2
          refine ⟨?_, rfl⟩
          have e : s.data = s'.data := Array.ext' (h1.trans h2.symm)
          cases s
          cases s'
          simp only at e
          rw [e]
        · cases h
      · cases h
    · cases h
  · split at h
    · exact ⟨rfl, rfl⟩
    · cases h
  · split at h
    · split at h
      · rename_i hb
        rw [Nat.eq_of_beq_eq_true hb, Nat.eq_of_beq_eq_true h]
        exact ⟨rfl, rfl⟩
      · cases h
    · cases h
  · split at h
    · exact ⟨rfl, rfl⟩
    · cases h
  · split at h
    · exact ⟨rfl, rfl⟩
    · cases h
  · split at h
    · exact ⟨rfl, rfl⟩
    · cases h
  · cases h
theorem eqPlains_spec : ∀ {l m : List Value}, eqPlains l m = true → l = m ∧ ∀ v ∈ m, simple v = true
  | [], [], _ => ⟨rfl, fun _ h => by cases h⟩
  | [], _ :: _, h => by cases h
  | _ :: _, [], h => by cases h
  | v :: l, w :: m, h => by
    have h' : (match eqPlain v w with | true => eqPlains l m | false => false) = true := h
    cases hb : eqPlain v w with
    | false => rw [hb] at h'; cases h'
    | true =>
      rw [hb] at h'
      obtain ⟨rfl, h1⟩ := eqPlain_spec hb
      obtain ⟨rfl, h2⟩ := eqPlains_spec h'
      refine ⟨rfl, fun x hx => ?_⟩
      rcases List.mem_cons.1 hx with rfl | hx
      · exact h1
      · exact h2 x hx

def fieldTest (P : Program) : List Field → List Field → Bool
  | [], [] => true
  | f :: l, g :: m => match Nat.beq g.type f.type with
    | true => match Nat.beq g.offset f.offset with
      | true => match g.name == "_" with
        | true => false
        | false => match P.info? g.type with
          | some _ => fieldTest P l m
          | none => false
      | false => false
    | false => false
  | _, _ => false
theorem fieldTest_spec {P : Program} : ∀ {l m : List Field}, fieldTest P l m = true → All2 (fun (f f' : Field) => f'.type = f.type ∧ f'.offset = f.offset ∧ f'.name ≠ "_") l m ∧ ∀ f ∈ m, ∃ ti, P.info? f.type = some ti
  | [], [], _ => ⟨rfl, fun _ h => by cases h⟩
  | [], _ :: _, h => by cases h
  | _ :: _, [], h => by cases h
  | f :: l, g :: m, h => by
    simp only [fieldTest] at h
    split at h
    · rename_i h1
      split at h
      · rename_i h2
        split at h
        · cases h
        · rename_i h3
          split at h
          · rename_i ti h4
            obtain ⟨k1, k2⟩ := fieldTest_spec h
            refine ⟨⟨⟨Nat.eq_of_beq_eq_true h1, Nat.eq_of_beq_eq_true h2, by simpa using h3⟩, k1⟩, fun x hx => ?_⟩
            rcases List.mem_cons.1 hx with rfl | hx
            · exact ⟨ti, h4⟩
            · exact k2 x hx
          · cases h
      · cases h
    · cases h

def kindTest (P : Program) (k d : TypeDesc) : Bool := match k with
  | .bool => match d with
    | .bool => true
    | _ => false
  | .int i => match d with
    | .int j => Nat.beq (ikN i) (ikN j)
    | _ => false
  | .string => match d with
    | .string => true
    | _ => false
  | .pointer e => match d with
    | .pointer e' => Nat.beq e e'
    | _ => false
  | .slice e => match d with
    | .slice e' => Nat.beq e e'
    | _ => false
  | .array n e => match d with
    | .array n' e' => match Nat.beq n n' with
      | true => Nat.beq e e'
      | false => false
    | _ => false
  | .map a b => match d with
    | .map a' b' => match Nat.beq a a' with
      | true => Nat.beq b b'
      | false => false
    | _ => false
  | .struct fs => match d with
    | .struct fs' => fieldTest P fs.toList fs'.toList
    | _ => false
  | .interface _ => match d with
    | .interface _ => true
    | _ => false
  | .func _ _ _ => match d with
    | .func _ _ _ => true
    | _ => false
  | _ => false
theorem kindTest_spec {P : Program} {k d : TypeDesc} (h : kindTest P k d = true) : Kd k d ∧ ∀ fs : Array Field, d = .struct fs → ∀ f ∈ fs.toList, ∃ ti, P.info? f.type = some ti := by
  unfold kindTest at h
  split at h
  · split at h
    · exact ⟨rfl, fun _ e => by cases e⟩
    · cases h
  · split at h
    · refine ⟨?_, fun _ e => by cases e⟩
      show _ = _
      rw [ikN_inj h]
    · cases h
  · split at h
    · exact ⟨rfl, fun _ e => by cases e⟩
    · cases h
  · split at h
    · refine ⟨?_, fun _ e => by cases e⟩
      show _ = _
      rw [Nat.eq_of_beq_eq_true h]
    · cases h
  · split at h
    · refine ⟨?_, fun _ e => by cases e⟩
      show _ = _
      rw [Nat.eq_of_beq_eq_true h]
    · cases h
  · split at h
    · split at h
      · rename_i hb
        refine ⟨?_, fun _ e => by cases e⟩
        show _ = _
        rw [Nat.eq_of_beq_eq_true h, Nat.eq_of_beq_eq_true hb]
      · cases h
    · cases h
  · split at h
    · split at h
      · rename_i hb
        refine ⟨?_, fun _ e => by cases e⟩
        show _ = _
        rw [Nat.eq_of_beq_eq_true h, Nat.eq_of_beq_eq_true hb]
      · cases h
    · cases h
  · split at h
    · rename_i fs'
      obtain ⟨h1, h2⟩ := fieldTest_spec h
      exact ⟨⟨fs', rfl, h1⟩, fun fs e => by cases e; exact h2⟩
    · cases h
  · split at h
    · exact ⟨⟨_, rfl⟩, fun _ e => by cases e⟩
    · cases h
  · split at h
    · exact ⟨⟨_, _, _, rfl⟩, fun _ e => by cases e⟩
    · cases h
  · cases h

def shapeTest (agg : Bool) (z : Value) (n : Nat) : Bool := match z with
  | .agg c => match agg with
    | true => Nat.beq c.toList.length n
    | false => false
  | .tuple _ => false
  | _ => notB agg
def eqTest (P : Program) (t : Nat) (e : Bool) : Bool := match e with
  | true => match P.eqGuardType P.depth t with
    | true => false
    | false => notB (P.stoodInHeld t)
  | false => true
def twoTest (i : TI) : Bool := match i.solo with
  | true => Nat.beq i.size 2
  | false => true
/-- The same steps? -/
def pathTest : List FieldStep → List FieldStep → Bool
  | [], [] => true
  | a :: l, b :: r => Nat.beq a.struct b.struct && (Nat.beq a.index b.index && ((match a.deref with
    | true => b.deref
    | false => notB b.deref) && pathTest l r))
  | _, _ => false
theorem pathTest_spec : ∀ {a b : List FieldStep}, pathTest a b = true → a = b
  | [], [], _ => rfl
  | [], _ :: _, h => by cases h
  | _ :: _, [], h => by cases h
  | ⟨a1, a2, a3⟩ :: l, ⟨b1, b2, b3⟩ :: r, h => by
    simp only [pathTest, Bool.and_eq_true] at h
    obtain ⟨h1, h2, h3, h4⟩ := h
    have e1 : a1 = b1 := Nat.eq_of_beq_eq_true h1
    have e2 : a2 = b2 := Nat.eq_of_beq_eq_true h2
    have e3 : a3 = b3 := by cases a3 <;> cases b3 <;> first | rfl | cases h3
    subst e1 e2 e3
    rw [pathTest_spec h4]
/-- Is a method the program's? -/
def metTest (ti : TypeInfo) (m : Mt) : Bool := match ti.methods.toList.find? fun x => x.name == m.name with
  | none => false
  | some m' => pathTest m'.path.toList m.path && (match m'.func with
    | none => false
    | some q => Nat.beq q.1 m.f && (match q.2 with
      | true => m.p
      | false => notB m.p))
theorem metTest_spec {ti : TypeInfo} {m : Mt} (h : metTest ti m = true) : ∃ m', (ti.methods.find? fun x => x.name == m.name) = some m' ∧ m'.path.toList = m.path ∧ m'.func = some (m.f, m.p) := by
  unfold metTest at h
  split at h
  · cases h
  · rename_i m' h1
    simp only [Bool.and_eq_true] at h
    obtain ⟨h2, h3⟩ := h
    refine ⟨m', by rw [← Array.find?_toList]; exact h1, pathTest_spec h2, ?_⟩
    split at h3
    · cases h3
    · rename_i q hq
      obtain ⟨a, b⟩ := q
      simp only [Bool.and_eq_true] at h3
      rw [hq, Nat.eq_of_beq_eq_true h3.1]
      obtain ⟨_, h5⟩ := h3
      obtain ⟨mn, mp, mf, mb⟩ := m
      cases b <;> cases mb <;> first | rfl | cases h5
def tiTest (P : Program) (t : Nat) (i : TI) : Bool := match P.info? t with
  | none => false
  | some ti => match P.underlying t with
    | none => false
    | some d => match ti.zero with
      | none => false
      | some z => Nat.beq ti.size i.size && (Nat.beq ti.bytes i.bytes && (kindTest P i.kind d && (eqPlains z.cells.toList i.zero && (shapeTest (isAgg i.kind) z i.size && (Nat.beq i.zero.length i.size && (eqTest P t i.eq && (twoTest i && i.ms.all (metTest ti))))))))
theorem tiTest_spec {P : Program} {t : Nat} {i : TI} (h : tiTest P t i = true) : TiOK P t i := by
  unfold tiTest at h
  split at h
  · cases h
  · rename_i ti h1
    split at h
    · cases h
    · rename_i d h2
      split at h
      · cases h
      · rename_i z h3
        simp only [Bool.and_eq_true] at h
        obtain ⟨g1, g2, g3, g4, g5, g6, g7, g8, g9⟩ := h
        obtain ⟨k1, k2⟩ := kindTest_spec g3
        obtain ⟨k3, k4⟩ := eqPlains_spec g4
        refine ⟨⟨ti, d, z, h1, h2, Nat.eq_of_beq_eq_true g1, Nat.eq_of_beq_eq_true g2, k1, h3, k3, fun ha => ?_, fun ha => ?_⟩, k4, Nat.eq_of_beq_eq_true g6, fun fs hfs => ?_, fun hs => ?_, fun he => ?_, fun m hm => ?_⟩
        · refine ⟨z, rfl, ?_⟩
          rw [ha] at g5
          cases z <;> first | exact trivial | cases g5
        · rw [ha] at g5
          cases z with
          | agg c => exact ⟨c, rfl, by simpa using Nat.eq_of_beq_eq_true g5⟩
          | _ => cases g5
        · rw [h2] at hfs
          cases hfs
          exact k2 fs rfl
        · simp only [twoTest, hs] at g8
          exact Nat.eq_of_beq_eq_true g8
        · unfold eqTest at g7
          rw [he] at g7
          simp only at g7
          split at g7
          · cases g7
          · rename_i h5
            refine ⟨h5, ?_⟩
            cases hst : P.stoodInHeld t with
            | false => rfl
            | true => rw [hst] at g7; cases g7
        · obtain ⟨m', q1, q2, q3⟩ := metTest_spec (List.all_eq_true.1 g9 m hm)
          exact ⟨ti, m', h1, q1, q2, q3⟩

/-- All rows of the table, each by its number m * k + c. -/
def tabTest (P : Program) : Nat → Tb → Nat → Nat → Bool
  | 0, _, _, _ => true
  | f + 1, t, m, c => match t with
    | none => true
    | some ⟨v, l, r⟩ => (match v with
      | none => true
      | some i => tiTest P c i) && (tabTest P f l (Nat.mul 2 m) (Nat.add m c) && tabTest P f r (Nat.mul 2 m) (Nat.add (Nat.mul 2 m) c))
theorem tabTest_spec {P : Program} : ∀ (f : Nat) (t : Tb) (m c : Nat), tabTest P f t m c = true → ∀ k i, tget f t k = some i → TiOK P (m * k + c) i
  | 0, _, _, _, _, _, _, h => by cases h
  | f + 1, none, _, _, _, _, _, h => by cases h
  | f + 1, some ⟨v, l, r⟩, m, c, h, k, i, hk => by
    simp only [tabTest, Bool.and_eq_true] at h
    obtain ⟨h1, h2, h3⟩ := h
    cases k with
    | zero =>
      have : v = some i := hk
      subst this
      rw [Nat.mul_zero, Nat.zero_add]
      exact tiTest_spec h1
    | succ k =>
      simp only [tget] at hk
      have hb : ∀ x : Nat, Nat.beq (Nat.mod x 2) 0 = decide (x % 2 = 0) := fun x => by
        change Nat.beq (x % 2) 0 = _
        cases hx : Nat.beq (x % 2) 0
        · have := Nat.ne_of_beq_eq_false hx; simp [this]
        · have := Nat.eq_of_beq_eq_true hx; simp [this]
      rw [hb] at hk
      by_cases e : k % 2 = 0
      · simp only [e, decide_true] at hk
        have := tabTest_spec f l _ _ h2 (k / 2) i hk
        have e2 : m * (k + 1) + c = Nat.mul 2 m * (k / 2) + Nat.add m c := by
          show m * (k + 1) + c = 2 * m * (k / 2) + (m + c)
          have : k = 2 * (k / 2) := by omega
          generalize k / 2 = j at this
          subst this
          rw [Nat.mul_add, Nat.mul_one, ← Nat.mul_assoc, Nat.mul_comm m 2]
          omega
        rw [e2]
        exact this
      · simp only [e, decide_false] at hk
        have := tabTest_spec f r _ _ h3 (k / 2) i hk
        have e2 : m * (k + 1) + c = Nat.mul 2 m * (k / 2) + Nat.add (Nat.mul 2 m) c := by
          show m * (k + 1) + c = 2 * m * (k / 2) + (2 * m + c)
          have : k = 2 * (k / 2) + 1 := by omega
          generalize k / 2 = j at this
          subst this
          rw [show 2 * j + 1 + 1 = 2 * (j + 1) by omega, ← Nat.mul_assoc, Nat.mul_comm m 2, Nat.mul_add, Nat.mul_one]
          omega
        rw [e2]
        exact this

/-- No function that has a body asks for the goroutines' number. -/
def namesTest : List Func → Bool
  | [] => true
  | f :: l => (match f.body with
    | none => true
    | some _ => !(f.name == "runtime.NumGoroutine")) && namesTest l
theorem namesTest_spec : ∀ {l : List Func}, namesTest l = true → ∀ f ∈ l, ∀ c, f.body = some c → (f.name == "runtime.NumGoroutine") = false
  | [], _, _, h, _, _ => by cases h
  | x :: l, h, f, hf, c, hc => by
    simp only [namesTest, Bool.and_eq_true] at h
    rcases List.mem_cons.1 hf with rfl | hf
    · rw [hc] at h
      simpa using h.1
    · exact namesTest_spec h.2 f hf c hc
theorem run_enter {P : Program} {f : FuncId} {fn : Func} {c : Code} (hf : P.funcs[f]? = some fn) (hname : (fn.name == "runtime.NumGoroutine") = false) (hb : fn.body = some c) (args : Array Value) (w : World) :
    (callFunc f args).run P w = .ok (.enter f args) w := by
  simp only [callFunc, Sem.run_bind, run_program, Result.andThen_ok, hf, hname, hb, Option.isNone_some, Bool.false_eq_true, if_false]
  rfl
theorem tok_of {P : Program} {B : Tb} (h1 : tabTest P W B 1 0 = true) (h2 : namesTest P.funcs.toList = true) (h3 : P.follows .mixedOrders = true) : TOK P B := {
  ok := fun t i ht => by simpa using tabTest_spec W B 1 0 h1 t i ht
  calls := fun g fn c hg hc args w => run_enter hg (namesTest_spec h2 fn (by have := List.mem_of_getElem? (l := P.funcs.toList) (i := g) (by simpa using hg); exact this) c hc) hc args w
  mixed := h3 }

end Rn
end Go.Proofs.YtllbjkeahafleaaGreatDoor
