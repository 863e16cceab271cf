/-
  slices.Insert in the middle of a slice of numbers of which it is not known how much room it has: what the runner goes on with, and that it is what the function's contracts tell.
-/
import Derived.Test.YtialppfpbgaanaaGreatDoorRO28
set_option linter.unusedSimpArgs false
namespace Go.Proofs.YtialppfpbgaanaaGreatDoor
namespace Rn

def insM (B : Tb) (e r o n i : Nat) (v : Value) (h : Hp) (K : KV) : Prop := match v with
  | .slice (some ⟨r2, o2, none⟩) m _ => match m with
    | 0 => False
    | m + 1 => match Nat.beq r2 r with
      | true => False
      | false => tySK B e fun ti => match Nat.beq ti.size 1 with
        | false => False
        | true => rowK h r2 fun x2 => match x2 with
          | .cells cs2 _ (0, 0) => dropK o2 cs2.toList fun l2 => takeK (Nat.succ m) l2 fun new => rowK h r fun x => match x with
            | .cells cs e' (0, 0) => match Nat.beq e e' with
              | true => dropK o cs.toList fun l => takeK n l fun old => takeK i old fun a => dropK i old fun b => appK new b fun nb => appK a nb fun all => fN (Nat.add n (Nat.succ m)) fun need => match Nat.ble need 1000000 with
                | true => setK h r none fun h => grownK h e all need K
                | false => False
              | false => False
            | _ => False
          | _ => False
  | _ => False
/-- slices.Insert; at the end, or where the capacity is known, the call as it is. -/
def insK (B : Tb) (e : Nat) (args : List Value) (h : Hp) (K : KV) (N : Prop) : Prop := match args with
  | s :: i :: v :: [] => match s with
    | .slice (some ⟨r, o, none⟩) n c => match Nat.beq c TOP with
      | true => i64K i fun i => match Nat.ble n i with
        | true => N
        | false => insM B e r o n i v h K
      | false => N
    | _ => N
  | _ => False

/-- The contracts of slices.Insert at numbers. -/
structure InsOK (P : Program) (g e : Nat) : Prop where
  body : ∃ fn c, P.funcs[g]? = some fn ∧ fn.body = some c
  shift : ∀ (b off n c i vb voff m vc : Nat) (cs vs : List Value) (w : World), i < n → 0 < m → n + m ≤ c → c ≤ MAXL → vb ≠ b → cs.length = n → vs.length = m →
    (∀ j v, cs[j]? = some v → w.cell? ⟨b, off + j, none⟩ = some v) → (∀ j, j < n + m → (w.cell? ⟨b, off + j, none⟩).isSome = true) → (∀ j, j < n + m → w.frozen? ⟨b, off + j, none⟩ = false) →
    (∀ j v, vs[j]? = some v → w.cell? ⟨vb, voff + j, none⟩ = some v) → (∀ v ∈ cs, v.oneCell' = true) → (∀ v ∈ vs, v.oneCell' = true) →
    ∀ (tA tB : Nat) (kA kB : Nat), w.shape? vb = some (tA, kA) → w.shape? b = some (tB, kB) → kB ≠ 0 → w.frozen? ⟨vb, voff, none⟩ = false → w.frozen? ⟨vb, kA, none⟩ = false →
    Calls P g #[.slice (some ⟨b, off, none⟩) n c, .int .i64 i, .slice (some ⟨vb, voff, none⟩) m vc] w fun e w' =>
      e = .returned (.slice (some ⟨b, off, none⟩) (n + m) c) ∧ w' = (w.drew.setCells b (off + (i + m)) (cs.drop i)).setCells b (off + i) vs
  grow : ∀ (b off n c i vb voff m vc : Nat) (cs vs : List Value) (w : World), i < n → 0 < m → n ≤ c → c < n + m → (n + m) * 8 ≤ 140737488355328 → cs.length = n → vs.length = m →
    (∀ j v, cs[j]? = some v → w.cell? ⟨b, off + j, none⟩ = some v) →
    (∀ j v, vs[j]? = some v → w.cell? ⟨vb, voff + j, none⟩ = some v) → (∀ v ∈ cs, v.oneCell' = true) → (∀ v ∈ vs, v.oneCell' = true) →
    Calls P g #[.slice (some ⟨b, off, none⟩) n c, .int .i64 i, .slice (some ⟨vb, voff, none⟩) m vc] w fun x w' => ∃ cap : Nat, n + m ≤ cap ∧ cap ≤ MAXL ∧
      x = .returned (.slice (some ⟨w.heap.size, 0, none⟩) (n + m) cap) ∧
      w' = (((w.alloc (.cells ((cs.take i).toArray ++ Builtin.zeroCells (Value.int .i64 0).cells (n + m - i) ++ Builtin.zeroCells (Value.int .i64 0).cells (cap - (n + m))) e)).drew.setCells w.heap.size i vs).drew).setCells w.heap.size (i + m) (cs.drop i)

section
variable {P : Program} {B : Tb} {φ : Fi} {h : Hp} {w : World} {K : KV}

theorem setCell_comm (w : World) (b i j : Nat) (x y : Value) (h : i ≠ j) : (w.setCell ⟨b, i, none⟩ x).setCell ⟨b, j, none⟩ y = (w.setCell ⟨b, j, none⟩ y).setCell ⟨b, i, none⟩ x := by
  unfold World.setCell
  congr 1
  apply Array.ext
  · simp
  · intro k h1 h2
    simp only [Array.size_modify] at h1 h2
    simp only [Array.getElem_modify]
    by_cases hk : b = k
    · subst hk
      simp only [if_true]
      cases w.heap[b] <;> simp
      rw [Array.setIfInBounds_comm _ _ h]
    · simp [hk]
theorem setCells_setCell (b i : Nat) (x : Value) : ∀ (ys : List Value) (k : Nat) (w : World), i < k → (w.setCells b k ys).setCell ⟨b, i, none⟩ x = (w.setCell ⟨b, i, none⟩ x).setCells b k ys
  | [], _, _, _ => rfl
  | y :: ys, k, w, h => by
    rw [World.setCells, World.setCells, setCells_setCell b i x ys (k + 1) _ (by omega), setCell_comm _ _ _ _ _ _ (by omega)]
/-- First what stands behind, then what stands ahead of it. -/
theorem two_sets (b : Nat) : ∀ (xs ys : List Value) (o : Nat) (w : World), (w.setCells b (o + xs.length) ys).setCells b o xs = w.setCells b o (xs ++ ys)
  | [], _, _, _ => rfl
  | x :: xs, ys, o, w => by
    rw [World.setCells, List.cons_append, World.setCells, setCells_setCell _ _ _ _ _ _ (by simp only [List.length_cons]; omega), ← two_sets b xs ys (o + 1)]
    rw [show o + (x :: xs).length = o + 1 + xs.length by simp only [List.length_cons]; omega]

/-- Cells that are written one by one. -/
def putC (C : Array Value) : Nat → List Value → Array Value
  | _, [] => C
  | o, v :: vs => putC (C.setIfInBounds o v) (o + 1) vs
theorem putC_size : ∀ (vs : List Value) (C : Array Value) (o : Nat), (putC C o vs).size = C.size
  | [], _, _ => rfl
  | v :: vs, C, o => by rw [putC, putC_size vs]; simp
theorem putC_get : ∀ (vs : List Value) (C : Array Value) (o j : Nat), o + vs.length ≤ C.size → (putC C o vs)[j]? = if o ≤ j ∧ j < o + vs.length then vs[j - o]? else C[j]?
  | [], C, o, j, _ => by
    have : ¬ (o ≤ j ∧ j < o + ([] : List Value).length) := by simp
    rw [if_neg this]
    rfl
  | v :: vs, C, o, j, h => by
    simp only [List.length_cons] at h
    rw [putC, putC_get vs _ (o + 1) j (by simp; omega), Array.getElem?_setIfInBounds]
    by_cases h1 : o + 1 ≤ j ∧ j < o + 1 + vs.length
    · have h2 : o ≤ j ∧ j < o + (v :: vs).length := by simp only [List.length_cons]; omega
      rw [if_pos h1, if_pos h2, show j - o = (j - (o + 1)) + 1 by omega, List.getElem?_cons_succ]
    · rw [if_neg h1]
      by_cases h3 : o = j
      · subst h3
        have h2 : o ≤ o ∧ o < o + (v :: vs).length := by simp only [List.length_cons]; omega
        rw [if_pos h2]
        have : o < C.size := by omega
        simp [this]
      · have h2 : ¬ (o ≤ j ∧ j < o + (v :: vs).length) := by simp only [List.length_cons]; omega
        rw [if_neg h2, if_neg h3]
theorem heap_drew_set (b : Nat) : ∀ (vs : List Value) (o : Nat) (w w' : World), w'.heap = w.heap → (w'.setCells b o vs).heap = (w.setCells b o vs).heap
  | [], _, _, _, h => h
  | v :: vs, o, w, w', h => by
    rw [World.setCells, World.setCells]
    exact heap_drew_set b vs (o + 1) _ _ (by simp only [World.setCell, h])
theorem alloc_set (e : Nat) (w : World) : ∀ (vs : List Value) (o : Nat) (C : Array Value), (w.alloc (.cells C e)).setCells w.heap.size o vs = w.alloc (.cells (putC C o vs) e)
  | [], _, _ => rfl
  | v :: vs, o, C => by
    rw [World.setCells, World.setCell_alloc_new]
    exact alloc_set e w vs (o + 1) _

/-- The machine's cells of a part of a row. -/
theorem read_list {s : Sl} {cs : Array Value} (hcs : ∀ (i : Nat) (v : Value), cs[i]? = some v → ∃ v', w.cell? ⟨s.b, s.base + i, none⟩ = some v' ∧ CR φ v v') :
    ∀ (n o : Nat), o + n ≤ cs.size → ∃ l', All2 (CR φ) ((cs.toList.drop o).take n) l' ∧ l'.length = n ∧ ∀ (j : Nat) (v : Value), l'[j]? = some v → w.cell? ⟨s.b, s.base + o + j, none⟩ = some v
  | 0, o, _ => ⟨[], by simp [All2], rfl, fun j v h => by simp at h⟩
  | n + 1, o, h => by
    have ho : o < cs.size := by omega
    obtain ⟨v', h1, h2⟩ := hcs o cs[o] (Array.getElem?_eq_getElem ho)
    obtain ⟨l', h3, h4, h5⟩ := read_list hcs n (o + 1) (by omega)
    have hd : cs.toList.drop o = cs[o] :: cs.toList.drop (o + 1) := by
      rw [List.drop_eq_getElem_cons (by simpa using ho)]
      simp
    refine ⟨v' :: l', ?_, by simp [h4], fun j v hj => ?_⟩
    · rw [hd, List.take_succ_cons]
      exact ⟨h2, h3⟩
    · cases j with
      | zero =>
        have : v' = v := by simpa using hj
        subst this
        exact h1
      | succ j =>
        have := h5 j v (by simpa using hj)
        rwa [show s.base + o + (j + 1) = s.base + (o + 1) + j by omega]
theorem cr_one {xs ys : List Value} (h : All2 (CR φ) xs ys) : ∀ v ∈ ys, v.oneCell' = true := fun v hv' => by
  obtain ⟨i, hi, rfl⟩ := List.mem_iff_getElem.1 hv'
  have hl := h.length
  have hi' : i < xs.length := by omega
  obtain ⟨y, h3, h4⟩ := h.get i xs[i] (by simp [hi'])
  have : y = ys[i] := by simpa [hi] using h3.symm
  subst this
  exact fl_one (h4.1.flat h4.2)
/-- A row is let go. -/
theorem St.letgo {r : Nat} {o : Obj} (hw : WR B φ h w) (hlw : h.low ≤ r) (hr : tget W h.rows r = some o) : St φ h w φ ⟨tput W h.rows r none, h.next, h.low⟩ w := by
  have hl := (hw.live r _ hr).1
  have hf := hw.few
  have hget : ∀ r', tget W (tput W h.rows r none) r' = if r' = r then none else tget W h.rows r' := fun r' => tget_tput _ _ _ _ _ (w_fits (by omega))
  refine ⟨fun _ _ h => h, Nat.le_refl _, fun _ _ _ => rfl, fun r' x' s1 hx1 h1' => .inr ⟨r', x', s1, ?_, h1', rfl⟩, Sm.refl _, rfl, fun r' x' s1 hr1 hx1 _ _ => ⟨?_, rfl⟩⟩
  · have hx2 : tget W (tput W h.rows r none) r' = some x' := hx1
    rw [hget] at hx2
    by_cases ee : r' = r
    · simp [ee] at hx2
    · simpa only [ee, if_false] using hx2
  · have e2 : ¬ r' = r := by omega
    show tget W (tput W h.rows r none) r' = some x'
    rw [hget]
    simpa only [e2, if_false] using hx1

theorem insM_ok {g e r o n i : Nat} {v s' v' : Value} (hI : InsOK P g e) (hw : WR B φ h w) (hs : VR φ (.slice (some ⟨r, o, none⟩) n TOP) s') (hv : VR φ v v') (hin : i < n) (hk : insM B e r o n i v h K) :
    Calls P g #[s', .int .i64 i, v'] w fun e w' => ∃ φ' h' v v', e = .returned v' ∧ VR φ' v v' ∧ WR B φ' h' w' ∧ St φ h w φ' h' w' ∧ K v h' := by
  unfold insM at hk
  split at hk
  case h_2 => exact hk.elim
  rename_i r2 o2 m c2
  split at hk
  · exact hk.elim
  rename_i m
  split at hk
  · exact hk.elim
  rename_i hne0
  have hne : r2 ≠ r := Nat.ne_of_beq_eq_false hne0
  obtain ⟨ti, ht1, ht2, hsolo⟩ := tySK_spec hk
  split at ht2
  · exact ht2.elim
  rename_i hsz0
  have hsz : ti.size = 1 := Nat.eq_of_beq_eq_true hsz0
  obtain ⟨x2, g1, g2⟩ := rowK_spec ht2
  split at g2
  case h_2 => exact g2.elim
  rename_i cs2 e2
  rw [dropK_iff, takeK_iff] at g2
  obtain ⟨d1, d2, g2⟩ := g2
  simp only [Array.length_toList, List.length_drop] at d1 d2
  obtain ⟨x, g3, g4⟩ := rowK_spec g2
  split at g4
  case h_2 => exact g4.elim
  rename_i cs e'
  split at g4
  case h_2 => exact g4.elim
  rename_i hee
  have hee' := Nat.eq_of_beq_eq_true hee
  subst hee'
  simp only [dropK_iff, takeK_iff, appK_eq, fN_eq] at g4
  obtain ⟨d3, d4, d5, d6, g4⟩ := g4
  simp only [Array.length_toList, List.length_drop, List.length_take] at d3 d4 d5 d6
  split at g4
  case h_2 => exact g4.elim
  rename_i hneed0
  have hneed : n + (m + 1) ≤ 1000000 := Nat.le_of_ble_eq_true hneed0
  have hlw := setK_low g4
  have g5 := setK_spec g4
  have hon : o + n ≤ cs.size := by omega
  have hon2 : o2 + (m + 1) ≤ cs2.size := by have : m.succ = m + 1 := rfl; omega
  -- where they lie
  rcases hs.inv with ⟨hr, _⟩ | ⟨hrn, q, c', hq, rfl, _, hc2⟩
  · exact absurd hr (hw.live r _ g3).2
  obtain ⟨hc3, hc4, hc5, hc6⟩ := hc2 rfl
  obtain ⟨q', hq1, hq2⟩ := hw.rows r _ g3
  rw [hq] at hq1
  cases hq1
  have hq2' := hq2
  obtain ⟨hb, hu, hrm, ⟨sz, hsh, _⟩, hcl, hfz, hcs⟩ := hq2
  have hu1 : q.u = 1 := by rw [hu ti ht1, hsz]
  rcases hv.inv with ⟨hr, _⟩ | ⟨hrn2, p, vc, hp, rfl, _, _⟩
  · exact absurd hr (hw.live r2 _ g1).2
  obtain ⟨p', hp1, hp2⟩ := hw.rows r2 _ g1
  rw [hp] at hp1
  cases hp1
  obtain ⟨hbv, huv, hrmv, ⟨szv, hshv, _⟩, hclv, hfzv, hcsv⟩ := hp2
  have hbne : p.b ≠ q.b := fun e => hne (hw.apart r2 r _ _ p g1 g3 hp ⟨q, hq, e.symm⟩)
  obtain ⟨l1, a1, a2, a3⟩ := read_list (φ := φ) hcs n o hon
  obtain ⟨l2, b1, b2, b3⟩ := read_list (φ := φ) hcsv (m + 1) o2 hon2
  have hsolo' : solo B e = false := by
    cases hh : solo B e with
    | false => rfl
    | true => exact no_solo ht1 hsolo hh
  obtain ⟨old, hold⟩ : ∃ old, old = (cs.toList.drop o).take n := ⟨_, rfl⟩
  obtain ⟨new, hnew⟩ : ∃ new, new = (cs2.toList.drop o2).take (m + 1) := ⟨_, rfl⟩
  have hnew' : new = (cs2.toList.drop o2).take m.succ := hnew
  rw [← hold] at a1 g5
  rw [← hnew'] at g5
  rw [← hnew] at b1
  have hol : old.length = n := by rw [hold]; simp; omega
  have hnl : new.length = m + 1 := by rw [hnew]; simp; omega
  have hot : old.take i = (cs.toList.drop o).take i := by rw [hold, List.take_take, Nat.min_eq_left (by omega)]
  have hg5 : newK ⟨tput W h.rows r none, h.next, h.low⟩ (.cells ⟨old.take i ++ (new ++ old.drop i)⟩ e) fun r h => K (.slice (some ⟨r, 0, none⟩) (n + (m + 1)) TOP) h := by
    unfold grownK at g5
    rw [fN_eq] at g5
    exact g5
  obtain ⟨k1, k2⟩ := newK_spec hg5
  by_cases hfit : n + (m + 1) ≤ c'
  · -- it finds room
    have hroom : o + (n + (m + 1)) ≤ q.room := by
      rw [← hc4, hu1]
      omega
    have hcall := hI.shift q.b (q.base + o) n c' i p.b (p.base + o2) (m + 1) vc l1 l2 w hin (by omega) hfit hc6 hbne a2 b2 a3
      (fun j hj => by have := hcl (o + j) (by omega); rwa [show q.base + (o + j) = q.base + o + j by omega] at this)
      (fun j _ => hfz rfl _) b3 (cr_one a1) (cr_one b1) e2 e szv sz hshv hsh (fun h0 => by
        have := hcl o (by omega)
        rw [World.cell?] at this
        rw [h0] at hsh
        unfold World.shape? at hsh
        split at hsh
        · rename_i cc t fz hh
          rw [hh] at this
          simp only [Option.some.injEq, Prod.mk.injEq] at hsh
          have h2 : ¬ (q.base + o < cc.size) := by omega
          simp [h2] at this
        · cases hsh) (hfzv rfl _) (hfzv rfl _)
    refine hcall.mono ?_
    rintro x w' ⟨rfl, rfl⟩
    have hwd : WR B φ h w.drew := hw.same rfl
    obtain ⟨_, p2, p3⟩ := hwd.adopt (P := P) (o := o) (m := i) (vs := new ++ old.drop i) (vs' := l2 ++ l1.drop i) hlw k1 g3 hq (.inr (by omega)) hsolo' (b1.app (a1.drop i)) (by simp only [List.length_append, List.length_drop, hol, hnl]; omega)
    have hw2 : (w.drew.setCells q.b (q.base + o + (i + (m + 1))) (l1.drop i)).setCells q.b (q.base + o + i) l2 = w.drew.setCells q.b (q.base + o + i) (l2 ++ l1.drop i) := by
      rw [← two_sets, b2, show q.base + o + i + (m + 1) = q.base + o + (i + (m + 1)) by omega]
    rw [hw2]
    rw [← hot] at p2 p3
    have hnx : h.next ≠ NOWHERE := by have := hw.low; simp only [GL] at this; show h.next ≠ 999; omega
    refine ⟨_, _, .slice (some ⟨h.next, 0, none⟩) (n + (m + 1)) TOP, _, rfl, ?_, p2, (St.same (φ := φ) (h := h) (w := w) (w' := w.drew) rfl ⟨rfl, rfl, rfl⟩).trans p3, k2⟩
    exact slice_vr (s := ⟨q.b, q.base + o, q.room - o, q.u⟩) hnx (by simp) (fun e => absurd rfl e) (fun _ => ⟨hfit, by show 0 + c' * q.u = q.room - o; omega, hc5, hc6⟩)
  · -- it does not
    have hcall := hI.grow q.b (q.base + o) n c' i p.b (p.base + o2) (m + 1) vc l1 l2 w hin (by omega) hc3 (by omega) (by omega) a2 b2 a3 b3 (cr_one a1) (cr_one b1)
    refine hcall.mono ?_
    rintro x w' ⟨cap, hcap1, hcap2, rfl, rfl⟩
    obtain ⟨A, hA⟩ : ∃ A : Array Value, A = (l1.take i).toArray ++ Builtin.zeroCells (Value.int .i64 0).cells (n + (m + 1) - i) ++ Builtin.zeroCells (Value.int .i64 0).cells (cap - (n + (m + 1))) := ⟨_, rfl⟩
    rw [← hA]
    have hAs : A.size = cap := by
      have e1 : (Value.int .i64 0).cells = #[.int .i64 0] := rfl
      rw [hA, Array.size_append, Array.size_append, e1]
      simp [Builtin.zeroCells, a2]
      omega
    have hAt : ∀ j, j < i → A[j]? = l1[j]? := fun j hj => by
      rw [hA, Array.append_assoc, Array.getElem?_append_left (by simp; omega)]
      simp [hj]
    obtain ⟨C, hC⟩ : ∃ C, C = putC (putC A i l2) (i + (m + 1)) (l1.drop i) := ⟨_, rfl⟩
    have hheap : ((((w.alloc (.cells A e)).drew.setCells w.heap.size i l2).drew).setCells w.heap.size (i + (m + 1)) (l1.drop i)).heap = (w.alloc (.cells C e)).heap := by
      rw [hC, ← alloc_set]
      refine heap_drew_set _ _ _ _ _ ?_
      rw [← alloc_set]
      exact heap_drew_set _ _ _ _ _ rfl
    have hCs : C.size = cap := by rw [hC, putC_size, putC_size, hAs]
    have hCt : C.toList.take (n + (m + 1)) = l1.take i ++ (l2 ++ l1.drop i) := by
      apply List.ext_getElem?
      intro j
      rw [List.getElem?_take]
      have hCj : C.toList[j]? = C[j]? := by simp
      rw [hCj, hC, putC_get _ _ _ _ (by rw [putC_size, hAs, List.length_drop, a2]; omega), putC_get _ _ _ _ (by rw [hAs, b2]; omega), List.length_drop, a2, b2]
      by_cases j1 : j < i
      · rw [if_pos (by omega), if_neg (by omega), if_neg (by omega), hAt j j1, List.getElem?_append_left (by simp; omega), List.getElem?_take, if_pos j1]
      · rw [List.getElem?_append_right (by simp; omega)]
        have e1 : j - (l1.take i).length = j - i := by simp; omega
        rw [e1]
        by_cases j2 : j < i + (m + 1)
        · rw [if_pos (by omega), if_neg (by omega), if_pos (by omega), List.getElem?_append_left (by omega)]
        · rw [List.getElem?_append_right (by omega), b2]
          by_cases j3 : j < n + (m + 1)
          · rw [if_pos j3, if_pos (by omega), show j - i - (m + 1) = j - (i + (m + 1)) by omega]
          · rw [if_neg j3, List.getElem?_eq_none (by simp; omega)]
    obtain ⟨φ', h', rr, p1, p2, p3, p4, p5⟩ := newCells (c := C) 1 (hw.drop g3) hg5
      (by
        have : (old.take i ++ (new ++ old.drop i)).length = n + (m + 1) := by simp only [List.length_append, List.length_take, List.length_drop, hol, hnl]; omega
        rw [this, hCt]
        exact (a1.take i).app (b1.app (a1.drop i)))
      (by simp only [List.length_append, List.length_take, List.length_drop, hol, hnl, hCs]; omega) (fun k hk => by rw [ht1] at hk; cases hk; exact hsz.symm) (no_solo ht1 hsolo)
    have hsame : Sm (w.alloc (.cells C e)) ((((w.alloc (.cells A e)).drew.setCells w.heap.size i l2).drew).setCells w.heap.size (i + (m + 1)) (l1.drop i)) := by
      refine Sm.trans (w2 := ((w.alloc (.cells A e)).drew.setCells w.heap.size i l2).drew) ?_ (sm_setCells _ _ _ _)
      refine Sm.trans (w2 := (w.alloc (.cells A e)).drew.setCells w.heap.size i l2) ?_ ⟨rfl, rfl, rfl⟩
      exact Sm.trans (w2 := (w.alloc (.cells A e)).drew) ⟨rfl, rfl, rfl⟩ (sm_setCells _ _ _ _)
    refine ⟨φ', h', .slice (some ⟨rr, 0, none⟩) (n + (m + 1)) TOP, _, rfl, ?_, p1.same hheap, ((St.letgo hw hlw g3).trans p2).trans (St.same hheap hsame), p5⟩
    exact slice_vr (s := ⟨w.heap.size, 0, C.size, 1⟩) p4 p3 (fun e => absurd rfl e) (fun _ => ⟨hcap1, by show 0 + cap * 1 = C.size; rw [hCs]; omega, Nat.le_refl 1, hcap2⟩)

theorem insK_ok {g e : Nat} (hI : InsOK P g e) : ExOK P B g (insK B e) := {
  body := hI.body
  run := fun {args args' h K N φ w} hw hargs hk => by
    unfold insK at hk
    split at hk
    · rename_i s i v
      cases args' with
      | nil => exact hargs.elim
      | cons s' l =>
        cases l with
        | nil => exact hargs.2.elim
        | cons i' l =>
          cases l with
          | nil => exact hargs.2.2.elim
          | cons v' l =>
            obtain ⟨hs, hi, hv, hl⟩ := hargs
            cases hl
            split at hk
            · rename_i r o n c
              split at hk
              · rename_i hT
                have hT' := Nat.eq_of_beq_eq_true hT
                subst hT'
                unfold i64K at hk
                split at hk
                · rename_i i
                  split at hk
                  · exact .inl hk
                  · rename_i hle
                    have hin := lt_of_ble hle
                    have hi' : i' = .int .i64 (.ofNat i) := hi.inv
                    subst hi'
                    exact .inr (insM_ok hI hw hs hv hin hk)
                · exact hk.elim
              · exact .inl hk
            · exact .inl hk
    · exact hk.elim }
end

end Rn
end Go.Proofs.YtialppfpbgaanaaGreatDoor
