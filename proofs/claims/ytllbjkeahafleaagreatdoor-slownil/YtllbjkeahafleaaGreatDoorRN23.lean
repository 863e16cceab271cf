/-
  Regions whose order is drawn: what was got ready, and may have been made already.
-/
import Derived.Test.YtllbjkeahafleaaGreatDoorRN24
set_option linter.unusedSimpArgs false
namespace Go.Proofs.YtllbjkeahafleaaGreatDoor
namespace Rn

/-- What was got ready, the operation, and its cells in the machine. -/
structure Pz where
  z : Pe
  o : Oper
  c : Array Value

/-- The machine's state (L', a', w) beside that of the plan (L, a): of those that were got ready some are made (D: in which block), and have come up. -/
structure Inv (P : Program) (B : Tb) (ops : Array Oper) (X : List Nat) (w0 : World) (φ : Fi) (L L' : Array Bool) (Zs : List Pz) (D : Nat → Option Nat) (a a' : Act) (h : Hp) (w : World) : Prop where
  item : ∀ q ∈ Zs, ops[q.z.i]? = some q.o ∧ lateO q.o = true ∧ q.o.dst = some q.z.dst ∧ L.getD q.z.i true = false ∧ All2 (CR φ) q.z.cs q.c.toList ∧ ((q.z.sl = true → q.z.n ≠ TOP) ∧ (solo B q.z.e = true → q.c.size = 2)) ∧
    (∀ w0, (execOp a.eval q.o).run P w0 = .ok (.value (peVal q.z w0.heap.size)) (w0.alloc (.cells q.c q.z.e))) ∧ q.z.i ∈ X
  pair : ∀ q ∈ Zs, ∀ q' ∈ Zs, q = q' ∨ (q.z.i ≠ q'.z.i ∧ q.z.dst ∉ q'.o.looksAt ops ∧ q.z.dst ≠ q'.z.dst)
  done : ∀ k b, D k = some b → ∃ q ∈ Zs, q.z.i = k ∧ w.heap[b]? = some (.cells q.c q.z.e) ∧ Spare φ h b ∧ w0.heap.size ≤ b ∧ (q.z.dst < a.tmps.size → a'.tmps[q.z.dst]? = some (peVal q.z b))
  inj : ∀ k k' b, D k = some b → D k' = some b → k = k'
  defers : a'.defers = a.defers
  size : a'.tmps.size = a.tmps.size
  frame : ∀ k, (∀ q ∈ Zs, (D q.z.i).isSome = true → q.z.dst ≠ k) → a'.tmps[k]? = a.tmps[k]?
  lsize : L'.size = L.size
  listed : ∀ k, L'[k]? = if (D k).isSome = true then some true else L[k]?

section
variable {P : Program} {B : Tb} {ops : Array Oper} {X : List Nat} {φ : Fi} {L L' : Array Bool} {Zs : List Pz} {D : Nat → Option Nat} {a a' : Act} {h : Hp} {w w0 : World}

theorem Inv.getD (g : Inv P B ops X w0 φ L L' Zs D a a' h w) (k : Nat) (d : Bool) : L'.getD k d = if (D k).isSome = true then true else L.getD k d := by
  rw [Array.getD_eq_getD_getElem?, g.listed k, Array.getD_eq_getD_getElem?]
  split <;> rfl
theorem getD_false {L : Array Bool} {k : Nat} (h : L.getD k true = false) : k < L.size ∧ L.getD k false = false := by
  have hlt : k < L.size := by
    rcases Nat.lt_or_ge k L.size with g | g
    · exact g
    · simp [Array.getElem?_eq_none g] at h
  refine ⟨hlt, ?_⟩
  simpa [hlt] using h
theorem Inv.free (g : Inv P B ops X w0 φ L L' Zs D a a' h w) {k : Nat} (hk : L'.getD k true = false) : D k = none ∧ L.getD k true = false := by
  rw [g.getD] at hk
  split at hk
  · cases hk
  · rename_i hd
    exact ⟨by simpa using hd, hk⟩
theorem Inv.out (g : Inv P B ops X w0 φ L L' Zs D a a' h w) {k : Nat} (hk : ∀ q ∈ Zs, q.z.i ≠ k) : D k = none := by
  cases hd : D k with
  | none => rfl
  | some b =>
    obtain ⟨q, h1, h2, _⟩ := g.done k b hd
    exact absurd h2 (hk q h1)
theorem Inv.up (g : Inv P B ops X w0 φ L L' Zs D a a' h w) {k : Nat} (hk : L.getD k false = true) : L'.getD k false = true := by
  rw [g.getD]
  split
  · rfl
  · exact hk

def ApartZ (ops : Array Oper) (Zs : List Pz) (o : Oper) : Prop := ∀ q ∈ Zs, q.o.apart ops o = true
theorem apartZ_spec {o : Oper} (g : Inv P B ops X w0 φ L L' Zs D a a' h w) (hz : apartZ ops (Zs.map fun q => q.z.i) o = true) : ApartZ ops Zs o := fun q hq => by
  have := List.all_eq_true.1 hz q.z.i (List.mem_map.2 ⟨q, hq, rfl⟩)
  rw [(g.item q hq).1] at this
  exact this

theorem Inv.same {o : Oper} (g : Inv P B ops X w0 φ L L' Zs D a a' h w) (hs : ∀ cs b, o.op ≠ .select cs b) (hz : ApartZ ops Zs o) :
    execOp a'.eval o = execOp a.eval o ∧ Region.wanted o (yielded ops a'.tmps) = Region.wanted o (yielded ops a.tmps) := by
  have hk : ∀ k, k ∈ o.looksAt ops → a'.tmps[k]? = a.tmps[k]? := fun k hk => g.frame k fun q hq _ e => by
    have := (Oper.apart_spec (hz q hq)).1 q.z.dst (g.item q hq).2.2.1
    rw [e] at this
    exact this hk
  constructor
  · refine execOp_congr o hs fun x hx => ?_
    cases x with
    | tmp k =>
      show a'.tmps.getD k undef = a.tmps.getD k undef
      rw [Array.getD_eq_getD_getElem?, Array.getD_eq_getD_getElem?, hk k (List.mem_append_left _ (List.mem_filterMap.2 ⟨.tmp k, by simpa using hx, rfl⟩))]
    | const v => rfl
    | global n => rfl
    | func f => rfl
  · unfold Region.wanted
    cases hg : o.guard with
    | none => rfl
    | some gw =>
      obtain ⟨j, want⟩ := gw
      have hy : yielded ops a'.tmps j = yielded ops a.tmps j := by
        unfold yielded
        cases ht : (ops[j]?).bind (·.dst) with
        | none => rfl
        | some t => simp only [Option.bind_some, hk t (by simp [Oper.looksAt, hg, ht])]
      simp only [hy]

theorem put_get {a : Act} {d : Option Tmp} {u : Value} {k : Nat} (hd : d ≠ some k) : (a.put d u).tmps[k]? = a.tmps[k]? := by
  cases d with
  | none => rfl
  | some d =>
    have : d ≠ k := fun e => hd (by rw [e])
    simp [Act.put, Array.getElem?_setIfInBounds_ne this]
theorem put_size {a : Act} {d : Option Tmp} {u : Value} : (a.put d u).tmps.size = a.tmps.size := by cases d <;> simp [Act.put]
theorem put_defs {a : Act} {d : Option Tmp} {u : Value} : (a.put d u).defers = a.defers := by cases d <;> rfl
theorem put_at {a : Act} {d : Nat} {u : Value} (hd : d < a.tmps.size) : (a.put (some d) u).tmps[d]? = some u := by simp [Act.put, hd]
theorem set_getE {L : Array Bool} {i k : Nat} : (L.setIfInBounds i true)[k]? = if i = k ∧ k < L.size then some true else L[k]? := by
  rw [Array.getElem?_setIfInBounds]
  by_cases e : i = k
  · subst e
    by_cases hl : i < L.size <;> simp [hl]
  · simp [e]

/-- Behind an operation that is no such. -/
theorem Inv.step {o : Oper} {i : Nat} {u : Value} {φ' : Fi} {h' : Hp} {w' : World} (g : Inv P B ops X w0 φ L L' Zs D a a' h w) (hs : Region.noSelect ops = true) (hz : ApartZ ops Zs o) (hi : ∀ q ∈ Zs, q.z.i ≠ i)
    (hst : St φ h w φ' h' w') : Inv P B ops X w0 φ' (L.setIfInBounds i true) (L'.setIfInBounds i true) Zs D (a.put o.dst u) (a'.put o.dst u) h' w' := by
  have hDi := g.out hi
  refine ⟨fun q hq => ?_, g.pair, fun k b hd => ?_, g.inj, by rw [put_defs, put_defs]; exact g.defers, by rw [put_size, put_size]; exact g.size, fun k hk => ?_, by simp [g.lsize], fun k => ?_⟩
  · obtain ⟨h1, h2, h3, h4, h5, h6, h7, h8⟩ := g.item q hq
    refine ⟨h1, h2, h3, ?_, h5.mono fun _ _ k => k.mono hst.ext, h6, fun w0 => ?_, h8⟩
    · rw [getD_set_ne true (Ne.symm (hi q hq))]; exact h4
    · rw [execOp_put q.o (fun cs b => Region.noSelect_spec hs _ _ cs b h1) a o.dst u (Oper.apart_spec (hz q hq)).2.2]
      exact h7 w0
  · obtain ⟨q, h1, h2, h3, h4, h5, h6⟩ := g.done k b hd
    obtain ⟨k1, _, k3⟩ := hst.spare (Array.getElem?_eq_some_iff.1 h3).1 h4
    refine ⟨q, h1, h2, by rw [k1]; exact h3, k3, h5, fun hl => ?_⟩
    rw [put_get ((Oper.apart_spec (hz q h1)).2.1 _ (g.item q h1).2.2.1)]
    exact h6 (by rw [put_size] at hl; exact hl)
  · by_cases e : o.dst = some k
    · rw [e]
      by_cases hl : k < a.tmps.size
      · rw [put_at hl, put_at (by rw [g.size]; exact hl)]
      · rw [Array.getElem?_eq_none (by rw [put_size, g.size]; omega), Array.getElem?_eq_none (by rw [put_size]; omega)]
    · rw [put_get e, put_get e]
      exact g.frame k hk
  · rw [set_getE, set_getE, g.listed k, g.lsize]
    by_cases e : i = k
    · subst e
      simp [hDi]
    · simp [e]

/-- One of those that were got ready comes up. -/
theorem Inv.early {q : Pz} (g : Inv P B ops X w0 φ L L' Zs D a a' h w) (hw : WR B φ h w) (hle : w0.heap.size ≤ w.heap.size) (hq : q ∈ Zs) :
    Inv P B ops X w0 φ L (L'.setIfInBounds q.z.i true) Zs (fun k => if k = q.z.i then some w.heap.size else D k) a (a'.put q.o.dst (peVal q.z w.heap.size)) h (w.alloc (.cells q.c q.z.e)) := by
  obtain ⟨h1, h2, h3, h4, h5, h6, h7, h8⟩ := g.item q hq
  have old : ∀ k b, D k = some b → b < w.heap.size := fun k b hk => by
    obtain ⟨_, _, _, g3, _⟩ := g.done k b hk
    exact (Array.getElem?_eq_some_iff.1 g3).1
  refine ⟨g.item, g.pair, fun k b hk => ?_, fun k k' b hk hk' => ?_, by rw [put_defs]; exact g.defers, by rw [put_size]; exact g.size, fun k hk => ?_, by simp [g.lsize], fun k => ?_⟩
  · by_cases e : k = q.z.i
    · simp only [e, if_true, Option.some.injEq] at hk
      subst hk
      refine ⟨q, hq, e.symm, heap_alloc_new, hw.spare, hle, fun hl => ?_⟩
      rw [h3]
      exact put_at (by rw [g.size]; exact hl)
    · simp only [e, if_false] at hk
      obtain ⟨q', k1, k2, k3, k4, k5, k6⟩ := g.done k b hk
      refine ⟨q', k1, k2, by rw [heap_alloc (old k b hk)]; exact k3, k4, k5, fun hl => ?_⟩
      rcases g.pair q hq q' k1 with rfl | ⟨_, _, p3⟩
      · exact absurd k2.symm e
      · rw [h3, put_get (fun e => p3 (by simpa using e))]
        exact k6 hl
  · by_cases e : k = q.z.i <;> by_cases e' : k' = q.z.i <;> simp only [e, e', if_true, if_false, Option.some.injEq] at hk hk'
    · rw [e, e']
    · have := old _ _ hk'; omega
    · have := old _ _ hk; omega
    · exact g.inj k k' b hk hk'
  · have hne : q.o.dst ≠ some k := fun e => by
      rw [h3] at e
      exact hk q hq (by simp) (by simpa using e)
    rw [put_get hne]
    refine g.frame k fun q' hq' hd' => hk q' hq' ?_
    by_cases e : q'.z.i = q.z.i
    · simp [e]
    · simp [e, hd']
  · have hlt := (getD_false h4).1
    rw [set_getE, g.listed k, g.lsize]
    by_cases e : k = q.z.i
    · subst e
      simp [hlt]
    · have e' : ¬ q.z.i = k := fun x => e x.symm
      simp [e, e']

/-- What was made early is named. -/
theorem Inv.name {q : Pz} {b : Nat} {φ' : Fi} {h' : Hp} (g : Inv P B ops X w0 φ L L' Zs D a a' h w) (hs : Region.noSelect ops = true) (hq : q ∈ Zs) (hd : D q.z.i = some b)
    (hext : ∀ r s, φ r = some s → φ' r = some s) (hsp : ∀ b', b' ≠ b → Spare φ h b' → Spare φ' h' b') :
    Inv P B ops X w0 φ' (L.setIfInBounds q.z.i true) L' (Zs.filter fun y => !Nat.beq y.z.i q.z.i) (fun k => if k = q.z.i then none else D k) (a.put (some q.z.dst) (peVal q.z b)) a' h' w := by
  obtain ⟨h1, h2, h3, h4, h5, h6, h7, h8⟩ := g.item q hq
  have sub : ∀ y, y ∈ Zs.filter (fun y => !Nat.beq y.z.i q.z.i) → y ∈ Zs ∧ y.z.i ≠ q.z.i := fun y hy => by
    obtain ⟨k1, k2⟩ := List.mem_filter.1 hy
    refine ⟨k1, fun e => ?_⟩
    rw [e, Nat.beq_refl] at k2
    cases k2
  have sup : ∀ y, y ∈ Zs → y.z.i ≠ q.z.i → y ∈ Zs.filter (fun y => !Nat.beq y.z.i q.z.i) := fun y hy hne => by
    refine List.mem_filter.2 ⟨hy, ?_⟩
    cases hb : Nat.beq y.z.i q.z.i with
    | true => exact absurd (Nat.eq_of_beq_eq_true hb) hne
    | false => rfl
  refine ⟨fun y hy => ?_, fun y hy y' hy' => g.pair y (sub y hy).1 y' (sub y' hy').1, fun k c hk => ?_, fun k k' c hk hk' => ?_, by rw [put_defs]; exact g.defers, by rw [put_size]; exact g.size, fun k hk => ?_, by simp [g.lsize], fun k => ?_⟩
  · obtain ⟨hy1, hy2⟩ := sub y hy
    obtain ⟨k1, k2, k3, k4, k5, k6, k7, k8⟩ := g.item y hy1
    refine ⟨k1, k2, k3, by rw [getD_set_ne true (Ne.symm hy2)]; exact k4, k5.mono fun _ _ k => k.mono hext, k6, fun w0 => ?_, k8⟩
    rw [execOp_put (ops := ops) y.o (fun cs b => Region.noSelect_spec hs _ _ cs b k1) a (some q.z.dst) _ fun d hd => ?_]
    · exact k7 w0
    · cases hd
      rcases g.pair q hq y hy1 with e | ⟨_, p2, _⟩
      · exact absurd (by rw [e]) hy2
      · exact p2
  · by_cases e : k = q.z.i
    · simp [e] at hk
    · simp only [e, if_false] at hk
      obtain ⟨y, k1, k2, k3, k4, k5, k6⟩ := g.done k c hk
      have hne : y.z.i ≠ q.z.i := by rw [k2]; exact e
      exact ⟨y, sup y k1 hne, k2, k3, hsp c (fun e' => e (g.inj k q.z.i b (by rw [← e']; exact hk) hd)) k4, k5, fun hl => k6 (by rw [put_size] at hl; exact hl)⟩
  · by_cases e : k = q.z.i
    · simp [e] at hk
    · by_cases e' : k' = q.z.i
      · simp [e'] at hk'
      · simp only [e, e', if_false] at hk hk'
        exact g.inj k k' c hk hk'
  · by_cases e : k = q.z.dst
    · subst e
      by_cases hl : q.z.dst < a.tmps.size
      · rw [put_at hl]
        obtain ⟨y, k1, k2, _, _, _, k6⟩ := g.done _ b hd
        rcases g.pair q hq y k1 with e | ⟨p1, _, _⟩
        · rw [e]; exact k6 (by rw [← e]; exact hl)
        · exact absurd k2.symm p1
      · rw [Array.getElem?_eq_none (by rw [g.size]; omega), Array.getElem?_eq_none (by rw [put_size]; omega)]
    · rw [put_get (fun x => e (by simpa using x.symm))]
      refine g.frame k fun y hy hyd => ?_
      by_cases e2 : y.z.i = q.z.i
      · rcases g.pair q hq y hy with e3 | ⟨p1, _, _⟩
        · rw [← e3]; exact fun x => e x.symm
        · exact absurd e2.symm p1
      · exact hk y (sup y hy e2) (by simp [e2, hyd])
  · have hlt := (getD_false h4).1
    rw [set_getE, g.listed k]
    by_cases e : k = q.z.i
    · subst e
      simp [hd, hlt]
    · have e' : ¬ q.z.i = k := fun x => e x.symm
      simp [e, e']

/-- How many have not come up. -/
def unl (L : Array Bool) : Nat := L.toList.countP fun b => !b
theorem unl_set {L : Array Bool} {i : Nat} (hi : L.getD i true = false) : unl (L.setIfInBounds i true) + 1 = unl L := by
  obtain ⟨hlt, hf⟩ := getD_false hi
  obtain ⟨l⟩ := L
  have hlt' : i < l.length := hlt
  have hv : l[i] = false := by simpa [hlt'] using hf
  have key : ∀ (l : List Bool) (i : Nat) (h : i < l.length), l[i] = false → (l.set i true).countP (fun b => !b) + 1 = l.countP fun b => !b := by
    intro l
    induction l with
    | nil => intro i h; simp at h
    | cons x l ih =>
      intro i h hx
      cases i with
      | zero =>
        have : x = false := hx
        subst this
        simp
      | succ i =>
        have := ih i (by simpa using h) (by simpa using hx)
        simp only [List.set_cons_succ, List.countP_cons]
        omega
  have := key l i hlt' hv
  simpa [unl] using this
end

end Rn
end Go.Proofs.YtllbjkeahafleaaGreatDoor
