/-
  What the runner's steps on its memory say of the machine's: a new row, a store, a row that is let go, a row that another one is laid over.
-/
import Derived.Test.YtllbjkeahafleaaGreatDoorRN2
namespace Go.Proofs.YtllbjkeahafleaaGreatDoor
namespace Rn

theorem heap_alloc {w : World} {o : Obj} {b : Nat} (h : b < w.heap.size) : (w.alloc o).heap[b]? = w.heap[b]? := by
  simp only [World.alloc]
  rw [Array.getElem?_push]
  have : ¬ b = w.heap.size := by omega
  simp [this]
theorem heap_alloc_new {w : World} {o : Obj} : (w.alloc o).heap[w.heap.size]? = some o := Array.getElem?_push_size
theorem size_alloc {w : World} {o : Obj} : (w.alloc o).heap.size = w.heap.size + 1 := Array.size_push _
theorem heap_setCell {w : World} {a : Addr} {v : Value} {b : Nat} (h : a.block ≠ b) : (w.setCell a v).heap[b]? = w.heap[b]? := by
  simp only [World.setCell]
  rw [Array.getElem?_modify]
  simp [h]
theorem size_setCell {w : World} {a : Addr} {v : Value} : (w.setCell a v).heap.size = w.heap.size := by simp [World.setCell]
theorem heap_setCells {g b : Nat} (h : g ≠ b) : ∀ (vs : List Value) (o : Nat) (w : World), (w.setCells g o vs).heap[b]? = w.heap[b]?
  | [], _, _ => rfl
  | v :: vs, o, w => by rw [World.setCells, heap_setCells h vs, heap_setCell h]
theorem size_setCells (g : Nat) : ∀ (vs : List Value) (o : Nat) (w : World), (w.setCells g o vs).heap.size = w.heap.size
  | [], _, _ => rfl
  | v :: vs, o, w => by rw [World.setCells, size_setCells g vs, size_setCell]
theorem shape_setCell {w : World} {a : Addr} {v : Value} {b : Nat} : (w.setCell a v).shape? b = w.shape? b := by
  by_cases h : a.block = b
  · subst h
    unfold World.shape? World.setCell
    simp only [Array.getElem?_modify, if_true]
    cases w.heap[a.block]? with
    | none => rfl
    | some o =>
      cases o <;> simp
      split <;> simp
  · simp only [World.shape?, heap_setCell h]
theorem shape_setCells (g b : Nat) : ∀ (vs : List Value) (o : Nat) (w : World), (w.setCells g o vs).shape? b = w.shape? b
  | [], _, _ => rfl
  | v :: vs, o, w => by rw [World.setCells, shape_setCells g b vs, shape_setCell]

theorem sm_setCells (g : Nat) : ∀ (vs : List Value) (o : Nat) (w : World), Sm w (w.setCells g o vs)
  | [], _, _ => Sm.refl _
  | v :: vs, o, w => by
    rw [World.setCells]
    exact Sm.trans (w2 := w.setCell _ v) ⟨rfl, rfl, rfl⟩ (sm_setCells g vs _ _)
theorem w_fits {n : Nat} (h : n ≤ MOST + 1) : n + 1 < 2 ^ W := by
  have : (2 : Nat) ^ W = 1099511627776 := by decide
  rw [this]
  simp only [MOST] at h
  omega

section
variable {B : Tb} {φ : Fi} {h : Hp} {w : World}

theorem rowK_spec {r : Nat} {K : Obj → Prop} (hk : rowK h r K) : ∃ o, tget W h.rows r = some o ∧ K o := by
  obtain ⟨rows, next, low⟩ := h
  simp only [rowK, tgetK_eq] at hk
  cases hr : tget W rows r with
  | none => rw [hr] at hk; exact hk.elim
  | some o => rw [hr] at hk; exact ⟨o, rfl, hk⟩
theorem setK_spec {r : Nat} {o : Option Obj} {K : Hp → Prop} (hk : setK h r o K) : K ⟨tput W h.rows r o, h.next, h.low⟩ := by
  obtain ⟨rows, next, low⟩ := h
  simp only [setK, tputK_eq] at hk
  split at hk
  · exact hk
  · exact hk.elim
theorem setK_low {r : Nat} {o : Option Obj} {K : Hp → Prop} (hk : setK h r o K) : h.low ≤ r := by
  obtain ⟨rows, next, low⟩ := h
  simp only [setK] at hk
  split at hk
  · rename_i hb
    exact Nat.le_of_ble_eq_true hb
  · exact hk.elim
theorem tyK_spec {t : Nat} {K : TI → Prop} (hk : tyK B t K) : ∃ i, tget W B t = some i ∧ K i := by
  unfold tyK at hk
  cases hr : tget W B t with
  | none => rw [hr] at hk; exact hk.elim
  | some o => rw [hr] at hk; exact ⟨o, rfl, hk⟩
theorem tySK_spec {t : Nat} {K : TI → Prop} (hk : tySK B t K) : ∃ i, tget W B t = some i ∧ K i ∧ i.solo = false := by
  obtain ⟨i, h1, h2⟩ := tyK_spec hk
  split at h2
  · exact h2.elim
  · rename_i hs
    exact ⟨i, h1, h2, hs⟩
theorem newK_spec {o : Obj} {K : Nat → Hp → Prop} (hk : newK h o K) : h.next ≤ MOST ∧ K h.next ⟨tput W h.rows h.next (some o), h.next + 1, h.low⟩ := by
  obtain ⟨rows, next, low⟩ := h
  simp only [newK] at hk
  split at hk
  · rename_i hb
    rw [fN_eq, tputK_eq] at hk
    exact ⟨Nat.le_of_ble_eq_true hb, hk⟩
  · exact hk.elim

/-- A row more, somewhere where none lies. -/
theorem WR.more {w' : World} {o : Obj} {s : Sl} (hw : WR B φ h w) (hn : h.next ≤ MOST)
    (hold : ∀ r o s, tget W h.rows r = some o → φ r = some s → w'.heap[s.b]? = w.heap[s.b]?) (hsz : w.heap.size ≤ w'.heap.size)
    (hap : ∀ r o s', tget W h.rows r = some o → φ r = some s' → s'.b ≠ s.b)
    (hr : RR B (fun r => if r = h.next then some s else φ r) w' s o) :
    WR B (fun r => if r = h.next then some s else φ r) ⟨tput W h.rows h.next (some o), h.next + 1, h.low⟩ w' := by
  have hext : ∀ r s', φ r = some s' → (if r = h.next then some s else φ r) = some s' := fun r s' hs => by
    have : r ≠ h.next := by rintro rfl; rw [hw.below _ (Nat.le_refl _)] at hs; cases hs
    simp [this, hs]
  have hget : ∀ r, tget W (tput W h.rows h.next (some o)) r = if r = h.next then some o else tget W h.rows r := fun r => tget_tput _ _ _ _ _ (w_fits (by omega))
  refine ⟨fun r x hx => ?_, fun r r' x x' s1 hl hx hx' h1 h2 => ?_, fun r hr' => ?_, fun r x hx => ?_, by show h.next + 1 ≤ MOST + 1; omega, ⟨by have := hw.low.1; show GL ≤ h.next + 1; omega, hw.low.2.new hw.low.1⟩⟩
  · rw [hget] at hx
    by_cases e : r = h.next
    · subst e
      simp only [if_true, Option.some.injEq] at hx
      subst hx
      exact ⟨s, by simp, hr⟩
    · simp only [e, if_false] at hx
      obtain ⟨s', h1, h2⟩ := hw.rows r x hx
      exact ⟨s', hext r s' h1, h2.keep hext hsz (hold r x s' hx h1)⟩
  · obtain ⟨s2, h2, h3⟩ := h2
    rw [hget] at hx hx'
    by_cases e : r = h.next
    · by_cases e' : r' = h.next
      · rw [e, e']
      · simp only [e', if_false] at hx' h2
        simp only [e, if_true, Option.some.injEq] at h1
        subst h1
        exact absurd h3 (hap r' x' s2 hx' h2)
    · by_cases e' : r' = h.next
      · simp only [e, if_false] at hx h1
        simp only [e', if_true, Option.some.injEq] at h2
        subst h2
        exact absurd h3.symm (hap r x s1 hx h1)
      · simp only [e, e', if_false] at hx hx' h1 h2
        exact hw.apart r r' x x' s1 hl hx hx' h1 ⟨s2, h2, h3⟩
  · have h1 : ¬ r = h.next := by have : h.next + 1 ≤ r := hr'; omega
    simp only [h1, if_false]
    exact hw.below r (by have : h.next + 1 ≤ r := hr'; omega)
  · rw [hget] at hx
    by_cases e : r = h.next
    · subst e; exact ⟨by show h.next < h.next + 1; omega, by have := hw.low.1; simp only [GL] at this; show h.next ≠ 999; omega⟩
    · simp only [e, if_false] at hx
      have := hw.live r x hx
      exact ⟨by show r < h.next + 1; omega, this.2⟩

theorem St.more {o o' : Obj} {s : Sl} (hw : WR B φ h w) (hn : h.next ≤ MOST) (hs : s.b = w.heap.size) :
    St φ h w (fun r => if r = h.next then some s else φ r) ⟨tput W h.rows h.next (some o), h.next + 1, h.low⟩ (w.alloc o') := {
  ext := fun r s' hs' => by
    have : r ≠ h.next := by rintro rfl; rw [hw.below _ (Nat.le_refl _)] at hs'; cases hs'
    simp [this, hs']
  size := by rw [size_alloc]; omega
  keep := fun b hb _ => heap_alloc hb
  new := fun r x s' hx h1 => by
    change tget W (tput W h.rows h.next (some o)) r = some x at hx
    rw [tget_tput _ _ _ _ _ (w_fits (by omega))] at hx
    by_cases e : r = h.next
    · simp only [e, if_true, Option.some.injEq] at h1
      subst h1
      exact .inl (by omega)
    · simp only [e, if_false] at hx h1
      exact .inr ⟨r, x, s', hx, h1, rfl⟩
  sm := ⟨rfl, rfl, rfl⟩
  lo := rfl
  still := fun r x s' _ hx _ hb => by
    have hl := (hw.live r x hx).1
    have e : ¬ r = h.next := by omega
    refine ⟨?_, heap_alloc hb⟩
    show tget W (tput W h.rows h.next (some o)) r = some x
    rw [tget_tput _ _ _ _ _ (w_fits (by omega))]
    simpa only [e, if_false] using hx }

/-- A new row lies in a new block. -/
theorem WR.alloc {o o' : Obj} {room u : Nat} (hw : WR B φ h w) (hn : h.next ≤ MOST)
    (hr : ∀ φ' : Fi, (∀ r s, φ r = some s → φ' r = some s) → RR B φ' (w.alloc o') ⟨w.heap.size, 0, room, u⟩ o) :
    WR B (fun r => if r = h.next then some ⟨w.heap.size, 0, room, u⟩ else φ r) ⟨tput W h.rows h.next (some o), h.next + 1, h.low⟩ (w.alloc o') := by
  refine hw.more hn (fun r x s hx h1 => ?_) (by rw [size_alloc]; omega) (fun r x s hx h1 => ?_) (hr _ fun r s' hs' => ?_)
  · obtain ⟨s', h2, h3⟩ := hw.rows r x hx
    rw [h1] at h2
    cases h2
    exact heap_alloc h3.lt
  · obtain ⟨s', h2, h3⟩ := hw.rows r x hx
    rw [h1] at h2
    cases h2
    have := h3.lt
    show s.b ≠ w.heap.size
    omega
  · have : r ≠ h.next := by rintro rfl; rw [hw.below _ (Nat.le_refl _)] at hs'; cases hs'
    simp [this, hs']

/-- A new row of cells. -/
theorem rr_cells {cs : List Value} {c : Array Value} {e u : Nat} (hc : All2 (CR φ) (cs : List Value) (c.toList.take cs.length)) (hle : cs.length ≤ c.size) (hu : ∀ i, tget W B e = some i → u = i.size) (hso : solo B e = true → c.size = 2) :
    RR B φ (w.alloc (.cells c e)) ⟨w.heap.size, 0, c.size, u⟩ (.cells ⟨cs⟩ e) := by
  have hh : (w.alloc (.cells c e)).heap[w.heap.size]? = some (.cells c e) := heap_alloc_new
  refine ⟨by rw [size_alloc]; show w.heap.size < w.heap.size + 1; omega, hu, hle, fun _ => ⟨c.size, by simp only [World.shape?, hh], fun g => ⟨rfl, hso g⟩⟩, fun j hj => ?_, fun _ j => ?_, fun i v hv => ?_⟩
  · have : j < c.size := hj
    simp only [World.cell?, hh]
    simp [this]
  · simp only [World.frozen?, hh]
    simp
  · obtain ⟨v', h1, h2⟩ := hc.get i v (by simpa using hv)
    refine ⟨v', ?_, h2⟩
    have : c[i]? = some v' := by
      rw [List.getElem?_take] at h1
      split at h1
      · simpa using h1
      · cases h1
    simp only [World.cell?, hh]
    simpa using this

/-- A row is let go. -/
theorem WR.drop {r : Nat} {o : Obj} (hw : WR B φ h w) (hr : tget W h.rows r = some o) : WR B φ ⟨tput W h.rows r none, h.next, h.low⟩ w := by
  have hl := (hw.live r o hr).1
  have hf := hw.few
  have hget : ∀ r', tget W (tput W h.rows r none) r' = if r' = r then none else tget W h.rows r' := fun r' => tget_tput _ _ _ _ _ (w_fits (by omega))
  have sub : ∀ {r' x}, tget W (tput W h.rows r none) r' = some x → tget W h.rows r' = some x ∧ r' ≠ r := fun {r' x} hx => by
    rw [hget] at hx
    by_cases e : r' = r
    · simp [e] at hx
    · simp only [e, if_false] at hx; exact ⟨hx, e⟩
  exact ⟨fun r' x hx => hw.rows r' x (sub hx).1, fun r1 r2 x x' s hl h1 h2 h3 h4 => hw.apart r1 r2 x x' s hl (sub h1).1 (sub h2).1 h3 h4, hw.below, fun r' x hx => hw.live r' x (sub hx).1, hw.few, hw.low⟩

/-- Another row in the place of one: all else is as it was. -/
theorem WR.set {r : Nat} {o o' : Obj} {s : Sl} {w' : World} (hw : WR B φ h w) (hlw : h.low ≤ r) (hr : tget W h.rows r = some o) (hs : φ r = some s)
    (hold : ∀ b, b < w.heap.size → b ≠ s.b → w'.heap[b]? = w.heap[b]?) (hsz : w'.heap.size = w.heap.size) (hsm : Sm w w') (hrr : RR B φ w' s o') :
    WR B φ ⟨tput W h.rows r (some o'), h.next, h.low⟩ w' ∧ St φ h w φ ⟨tput W h.rows r (some o'), h.next, h.low⟩ w' := by
  have hl := (hw.live r o hr).1
  have hf := hw.few
  have hget : ∀ r', tget W (tput W h.rows r (some o')) r' = if r' = r then some o' else tget W h.rows r' := fun r' => tget_tput _ _ _ _ _ (w_fits (by omega))
  have sub : ∀ {r' x}, tget W (tput W h.rows r (some o')) r' = some x → ∃ y, tget W h.rows r' = some y := fun {r' x} hx => by
    rw [hget] at hx
    by_cases e : r' = r
    · subst e; exact ⟨o, hr⟩
    · simp only [e, if_false] at hx; exact ⟨x, hx⟩
  refine ⟨⟨fun r' x hx => ?_, fun r1 r2 x x' s1 hl2 h1 h2 h3 h4 => ?_, hw.below, fun r' x hx => ?_, hw.few, hw.low⟩, ⟨fun _ _ h => h, by omega, fun b hb hn => hold b hb (hn r o s hr hs).symm, fun r' x s' hx h1 => ?_, hsm, rfl, fun r' x s' hr' hx h1 _ => ?_⟩⟩
  · rw [hget] at hx
    by_cases e : r' = r
    · subst e
      simp only [if_true, Option.some.injEq] at hx
      subst hx
      exact ⟨s, hs, hrr⟩
    · simp only [e, if_false] at hx
      obtain ⟨s', h1, h2⟩ := hw.rows r' x hx
      refine ⟨s', h1, h2.keep (fun _ _ h => h) (by omega) (hold _ h2.lt fun e' => e ?_)⟩
      exact hw.apart r' r x o s' hlw hx hr h1 ⟨s, hs, e'.symm⟩
  · obtain ⟨y1, g1⟩ := sub h1
    obtain ⟨y2, g2⟩ := sub h2
    exact hw.apart r1 r2 y1 y2 s1 hl2 g1 g2 h3 h4
  · obtain ⟨y, g⟩ := sub hx
    exact hw.live r' y g
  · obtain ⟨y, g⟩ := sub hx
    exact .inr ⟨r', y, s', g, h1, rfl⟩
  · have e : ¬ r' = r := by omega
    refine ⟨?_, ?_⟩
    · show tget W (tput W h.rows r (some o')) r' = some x
      rw [hget]
      simpa only [e, if_false] using hx
    · obtain ⟨s2, h2, h3⟩ := hw.rows r' x hx
      rw [h1] at h2
      cases h2
      exact hold _ h3.lt fun e' => e (hw.apart r' r x o s' hlw hx hr h1 ⟨s, hs, e'.symm⟩)

/-- Cells are written over. -/
theorem WR.store {P : Program} {r o e : Nat} {cs : Array Value} {s : Sl} {vs vs' : List Value} (hw : WR B φ h w) (hlw : h.low ≤ r) (hr : tget W h.rows r = some (.cells cs e (0, 0))) (hs : φ r = some s)
    (hv : All2 (CR φ) vs vs') (hl : o + vs.length ≤ cs.size) :
    (storeCells ⟨s.b, s.base + o, none⟩ vs').run P w = .ok () (w.setCells s.b (s.base + o) vs') ∧
    WR B φ ⟨tput W h.rows r (some (.cells ⟨cs.toList.take o ++ vs ++ cs.toList.drop (o + vs.length)⟩ e (0, 0))), h.next, h.low⟩ (w.setCells s.b (s.base + o) vs') ∧
    St φ h w φ ⟨tput W h.rows r (some (.cells ⟨cs.toList.take o ++ vs ++ cs.toList.drop (o + vs.length)⟩ e (0, 0))), h.next, h.low⟩ (w.setCells s.b (s.base + o) vs') := by
  obtain ⟨s', h1, h2⟩ := hw.rows r _ hr
  rw [hs] at h1
  cases h1
  obtain ⟨hb, hu, hrm, q0, hcl, hfz, hcs⟩ := h2
  obtain ⟨sz, hsh, hso⟩ := q0 rfl
  have hlen := hv.length
  have hin : ∀ j, j < vs'.length → (w.cell? ⟨s.b, s.base + o + j, none⟩).isSome = true := fun j hj => by
    have := hcl (o + j) (by omega)
    rwa [show s.base + (o + j) = s.base + o + j by omega] at this
  have hone : ∀ v ∈ vs', v.oneCell' = true := fun v hv' => by
    obtain ⟨i, hi, rfl⟩ := List.mem_iff_getElem.1 hv'
    have hi' : i < vs.length := by omega
    obtain ⟨y, h3, h4⟩ := hv.get i vs[i] (by simp [hi'])
    have : y = vs'[i] := by simpa [hi] using h3.symm
    subst this
    exact fl_one (h4.1.flat h4.2)
  have hrun := run_storeCells_cells (P := P) s.b (s.base + o) vs' 0 w (by simpa using hin) (by
    intro j hj
    exact hfz rfl _) hone
  refine ⟨by simpa using hrun, ?_⟩
  refine hw.set hlw hr hs (fun b _ hne => heap_setCells (fun e' => hne e'.symm) _ _ _) (size_setCells _ _ _ _) (sm_setCells _ _ _ _) ?_
  have hsize : (cs.toList.take o ++ vs ++ cs.toList.drop (o + vs.length)).length = cs.size := by simp; omega
  refine ⟨by rw [size_setCells]; exact hb, hu, by show List.length _ ≤ _; rw [hsize]; exact hrm, fun _ => ⟨sz, by rw [shape_setCells]; exact hsh, hso⟩, fun j hj => ?_, fun _ j => by rw [World.frozen?_setCells]; exact hfz rfl j, fun i v hv' => ?_⟩
  · by_cases hjo : o ≤ j ∧ j < o + vs'.length
    · have := World.cell?_setCells_in s.b vs' (s.base + o) w hin (j - o) (by omega)
      rw [show s.base + o + (j - o) = s.base + j by omega] at this
      rw [this]; rfl
    · rw [World.cell?_setCells_out s.b vs' _ _ _ fun _ _ => ?_]
      · exact hcl j hj
      · show s.base + j < s.base + o ∨ s.base + o + vs'.length ≤ s.base + j
        omega
  · have hv2 : (cs.toList.take o ++ vs ++ cs.toList.drop (o + vs.length))[i]? = some v := by simpa using hv'
    by_cases hi1 : i < o
    · have hcv : cs[i]? = some v := by
        rw [List.append_assoc, List.getElem?_append_left (by simp; omega), List.getElem?_take] at hv2
        simpa [hi1] using hv2
      obtain ⟨v', h5, h6⟩ := hcs i v hcv
      refine ⟨v', ?_, h6⟩
      rw [World.cell?_setCells_out s.b vs' _ _ _ fun _ _ => ?_]
      · exact h5
      · show s.base + i < s.base + o ∨ _
        omega
    · by_cases hi2 : i < o + vs.length
      · have hvv : vs[i - o]? = some v := by
          rw [List.getElem?_append_left (by simp; omega), List.getElem?_append_right (by simp; omega)] at hv2
          simpa [show min o cs.size = o by omega] using hv2
        obtain ⟨v', h5, h6⟩ := hv.get _ _ hvv
        refine ⟨v', ?_, h6⟩
        have hlt : i - o < vs'.length := by omega
        have := World.cell?_setCells_in s.b vs' (s.base + o) w hin (i - o) hlt
        rw [show s.base + o + (i - o) = s.base + i by omega] at this
        rw [this]
        simpa [hlt] using h5
      · have hcv : cs[i]? = some v := by
          rw [List.getElem?_append_right (by simp; omega)] at hv2
          simp only [List.length_append, List.length_take, Array.length_toList, List.getElem?_drop] at hv2
          have e1 : o + vs.length + (i - (min o cs.size + vs.length)) = i := by omega
          rw [e1] at hv2
          simpa using hv2
        obtain ⟨v', h5, h6⟩ := hcs i v hcv
        refine ⟨v', ?_, h6⟩
        rw [World.cell?_setCells_out s.b vs' _ _ _ fun _ _ => ?_]
        · exact h5
        · show s.base + i < s.base + o ∨ s.base + o + vs'.length ≤ s.base + i
          omega
end

end Rn
end Go.Proofs.YtllbjkeahafleaaGreatDoor
