/-
  What the runner's append says of the machine's, where the row has room: it may lie in the elder one.
-/
import Derived.Test.YtllbjkeahafleaaGreatDoorRN9
set_option linter.unusedSimpArgs false
namespace Go.Proofs.YtllbjkeahafleaaGreatDoor
namespace Rn

section
variable {P : Program} {B : Tb} {φ : Fi} {h : Hp} {w : World} {K : KV}

/-- A row is let go, and another one is laid over it: so many of its cells, from a place on, and others behind them. -/
theorem WR.adopt {r o m e : Nat} {cs : Array Value} {s : Sl} {vs vs' : List Value} (hw : WR B φ h w) (hlw : h.low ≤ r) (hn : h.next ≤ MOST) (hr : tget W h.rows r = some (.cells cs e (0, 0))) (hs : φ r = some s)
    (hm : m = 0 ∨ o + m ≤ cs.size) (hso : solo B e = false) (hv : All2 (CR φ) vs vs') (hroom : o + m + vs.length ≤ s.room) :
    (storeCells ⟨s.b, s.base + o + m, none⟩ vs').run P w = .ok () (w.setCells s.b (s.base + o + m) vs') ∧
    WR B (fun x => if x = h.next then some ⟨s.b, s.base + o, s.room - o, s.u⟩ else φ x) ⟨tput W (tput W h.rows r none) h.next (some (.cells ⟨(cs.toList.drop o).take m ++ vs⟩ e (0, 0))), h.next + 1, h.low⟩ (w.setCells s.b (s.base + o + m) vs') ∧
    St φ h w (fun x => if x = h.next then some ⟨s.b, s.base + o, s.room - o, s.u⟩ else φ x) ⟨tput W (tput W h.rows r none) h.next (some (.cells ⟨(cs.toList.drop o).take m ++ vs⟩ e (0, 0))), h.next + 1, h.low⟩ (w.setCells s.b (s.base + o + m) vs') := by
  obtain ⟨s', h1, h2⟩ := hw.rows r _ hr
  rw [hs] at h1
  cases h1
  obtain ⟨hb, hu, hrm, q0, hcl, hfz, hcs⟩ := h2
  obtain ⟨sz, hsh, _⟩ := q0 rfl
  have hlen := hv.length
  have hlive := hw.live r _ hr
  have hfew := hw.few
  have hin : ∀ j, j < vs'.length → (w.cell? ⟨s.b, s.base + o + m + j, none⟩).isSome = true := fun j hj => by
    have := hcl (o + m + j) (by omega)
    rwa [show s.base + (o + m + j) = s.base + o + m + j by omega] at this
  have hone : ∀ v ∈ vs', v.oneCell' = true := fun v hv' => by
    obtain ⟨i, hi, rfl⟩ := List.mem_iff_getElem.1 hv'
    have hi' : i < vs.length := by omega
    obtain ⟨y, h3, h4⟩ := hv.get i vs[i] (by simp [hi'])
    have : y = vs'[i] := by simpa [hi] using h3.symm
    subst this
    exact fl_one (h4.1.flat h4.2)
  have hrun := run_storeCells_cells (P := P) s.b (s.base + o + m) vs' 0 w (by simpa using hin) (by
    intro j hj
    exact hfz rfl _) hone
  have hd := hw.drop hr
  have hget : ∀ r', tget W (tput W h.rows r none) r' = if r' = r then none else tget W h.rows r' := fun r' => tget_tput _ _ _ _ _ (w_fits (by omega))
  have sub : ∀ {r' x}, tget W (tput W h.rows r none) r' = some x → tget W h.rows r' = some x ∧ r' ≠ r := fun {r' x} hx => by
    rw [hget] at hx
    by_cases e : r' = r
    · simp [e] at hx
    · simp only [e, if_false] at hx; exact ⟨hx, e⟩
  have hext : ∀ r' s', φ r' = some s' → (if r' = h.next then some (⟨s.b, s.base + o, s.room - o, s.u⟩ : Sl) else φ r') = some s' := fun r' s' hs' => by
    have : r' ≠ h.next := by rintro rfl; rw [hw.below _ (Nat.le_refl _)] at hs'; cases hs'
    simp [this, hs']
  refine ⟨by simpa using hrun, ?_, ?_⟩
  · refine hd.more (s := ⟨s.b, s.base + o, s.room - o, s.u⟩) hn (fun r' x s' hx h5 => ?_) (by rw [size_setCells]; exact Nat.le_refl _) (fun r' x s' hx h5 => ?_) ?_
    · obtain ⟨g1, g2⟩ := sub hx
      exact heap_setCells (fun e' => g2 (hw.apart r' r x _ s' hlw g1 hr h5 ⟨s, hs, e'⟩)) _ _ _
    · obtain ⟨g1, g2⟩ := sub hx
      exact fun e' => g2 (hw.apart r' r x _ s' hlw g1 hr h5 ⟨s, hs, e'.symm⟩)
    · have hml : ((cs.toList.drop o).take m).length = m := by
        rcases hm with rfl | hm
        · simp
        · simp; omega
      refine ⟨by rw [size_setCells]; exact hb, hu, by show List.length _ ≤ s.room - o; rw [List.length_append, hml]; omega, fun _ => ⟨sz, by rw [shape_setCells]; exact hsh, fun g => by rw [hso] at g; cases g⟩, fun j hj => ?_, fun _ j => ?_, fun i v hv' => ?_⟩
      · have hj' : j < s.room - o := hj
        show (World.cell? _ ⟨s.b, s.base + o + j, none⟩).isSome = true
        by_cases hjo : m ≤ j ∧ j < m + vs'.length
        · have := World.cell?_setCells_in s.b vs' (s.base + o + m) w hin (j - m) (by omega)
          rw [show s.base + o + m + (j - m) = s.base + o + j by omega] at this
          rw [this]; rfl
        · rw [World.cell?_setCells_out s.b vs' _ _ _ fun _ _ => ?_]
          · have := hcl (o + j) (by omega)
            rwa [show s.base + (o + j) = s.base + o + j by omega] at this
          · show s.base + o + j < s.base + o + m ∨ s.base + o + m + vs'.length ≤ s.base + o + j
            omega
      · rw [World.frozen?_setCells]
        exact hfz rfl _
      · have hv2 : ((cs.toList.drop o).take m ++ vs)[i]? = some v := by simpa using hv'
        show ∃ v', World.cell? _ ⟨s.b, s.base + o + i, none⟩ = some v' ∧ _
        by_cases hi1 : i < m
        · have hcv : cs[o + i]? = some v := by
            rw [List.getElem?_append_left (by omega), List.getElem?_take] at hv2
            simp only [hi1, if_true, List.getElem?_drop] at hv2
            simpa using hv2
          obtain ⟨v', h5, h6⟩ := hcs (o + i) v hcv
          refine ⟨v', ?_, h6.mono hext⟩
          rw [World.cell?_setCells_out s.b vs' _ _ _ fun _ _ => ?_]
          · rwa [show s.base + (o + i) = s.base + o + i by omega] at h5
          · show s.base + o + i < s.base + o + m ∨ _
            omega
        · have hvv : vs[i - m]? = some v := by
            rw [List.getElem?_append_right (by omega), hml] at hv2
            exact hv2
          obtain ⟨v', h5, h6⟩ := hv.get _ _ hvv
          have hlt : i - m < vs'.length := by
            have := (List.getElem?_eq_some_iff.1 h5).1
            exact this
          refine ⟨v', ?_, h6.mono hext⟩
          have := World.cell?_setCells_in s.b vs' (s.base + o + m) w hin (i - m) hlt
          rw [show s.base + o + m + (i - m) = s.base + o + i by omega] at this
          rw [this]
          simpa [hlt] using h5
  · refine ⟨hext, by rw [size_setCells]; exact Nat.le_refl _, fun b hb' hne => heap_setCells (fun e' => hne r _ s hr hs e') _ _ _, fun r' x s' hx h5 => ?_, sm_setCells _ _ _ _, rfl, fun r' x s' hr' hx h5 _ => ?_⟩
    rotate_left
    · have hl := (hw.live r' x hx).1
      have e1 : ¬ r' = h.next := by omega
      have e2 : ¬ r' = r := by omega
      refine ⟨?_, heap_setCells (fun e' => e2 (hw.apart r' r x _ s' hlw hx hr h5 ⟨s, hs, e'⟩)) _ _ _⟩
      show tget W (tput W (tput W h.rows r none) h.next _) r' = some x
      rw [tget_tput _ _ _ _ _ (w_fits (by omega))]
      simp only [e1, if_false, hget, e2]
      exact hx
    have hx' : tget W (tput W (tput W h.rows r none) h.next (some (.cells ⟨(cs.toList.drop o).take m ++ vs⟩ e (0, 0)))) r' = some x := hx
    rw [tget_tput _ _ _ _ _ (w_fits (by omega))] at hx'
    by_cases e : r' = h.next
    · simp only [e, if_true, Option.some.injEq] at h5
      subst h5
      exact .inr ⟨r, _, s, hr, hs, rfl⟩
    · simp only [e, if_false] at hx' h5
      exact .inr ⟨r', x, s', (sub hx').1, h5, rfl⟩

theorem firstK_row {size n r o len c : Nat} {K : List Value → Prop} (hk : firstK h size n (.slice (some ⟨r, o, none⟩) len c) K) :
    (n * size = 0 ∧ K []) ∨ ∃ cs e fz, tget W h.rows r = some (.cells cs e fz) ∧ o + n * size ≤ cs.size ∧ K ((cs.toList.drop o).take (n * size)) := by
  unfold firstK at hk
  simp only at hk
  rw [fN_eq] at hk
  split at hk
  · rename_i h0; exact .inl ⟨h0, hk⟩
  · rename_i k h0
    have h0' : n * size = k + 1 := h0
    obtain ⟨x, h1, h2⟩ := rowK_spec hk
    split at h2
    · rename_i cs e fz
      rw [dropK_iff, takeK_iff] at h2
      obtain ⟨h3, h4, h5⟩ := h2
      simp only [Array.length_toList, List.length_drop] at h3 h4
      exact .inr ⟨cs, e, fz, h1, by rw [h0']; have : k.succ = k + 1 := rfl; omega, by rw [h0']; exact h5⟩
    · exact h2.elim

theorem rowK_intro {r : Nat} {o : Obj} {K : Obj → Prop} (h1 : tget W h.rows r = some o) (hk : K o) : rowK h r K := by
  obtain ⟨rows, next, low⟩ := h
  simp only [rowK, tgetK_eq]
  have h1' : tget W rows r = some o := h1
  rw [h1']
  exact hk
theorem firstK_det {size n : Nat} {v : Value} {K : List Value → Prop} (hk : firstK h size n v K) : ∃ l, K l ∧ firstK h size n v fun x => x = l := by
  unfold firstK at hk
  split at hk
  · rename_i r o len c
    rw [fN_eq] at hk
    split at hk
    · rename_i h0
      refine ⟨[], hk, ?_⟩
      unfold firstK
      simp only
      rw [fN_eq, h0]
      exact trivial
    · rename_i k h0
      obtain ⟨x, h1, h2⟩ := rowK_spec hk
      split at h2
      · rename_i cs e fz
        rw [dropK_iff, takeK_iff] at h2
        refine ⟨_, h2.2.2, ?_⟩
        unfold firstK
        simp only
        rw [fN_eq, h0]
        refine rowK_intro h1 ?_
        simp only
        rw [dropK_iff, takeK_iff]
        exact ⟨h2.1, h2.2.1, rfl⟩
      · exact h2.elim
  · split at hk
    · exact ⟨[], hk, by unfold firstK; rfl⟩
    · exact hk.elim
  · split at hk
    · exact ⟨[], hk, by unfold firstK; rfl⟩
    · exact hk.elim
  · split at hk
    · rw [ofBytesK_eq, takeK_iff] at hk
      refine ⟨_, hk.2, ?_⟩
      unfold firstK
      simp only
      rw [ofBytesK_eq, takeK_iff]
      exact ⟨hk.1, rfl⟩
    · exact hk.elim
  · exact hk.elim

/-- An append that finds room. -/
theorem append_room {st xt ty e sl n sc : Nat} {i : TI} {base : Option Addr} {x' : Value} {new : List Value} {w2 : World} (hB : TOK P B) (hi : tget W B e = some i) (hst : P.underlying st = some (.slice e)) (hxt : ∃ d, P.underlying xt = some d ∧ ∀ k, d ≠ .int k)
    (hlen : (Builtin.lenOf x').run P w = .ok n w) (hnew : (Builtin.firstCells i.size n x').run P w = .ok new.toArray w) (hle : sl + n ≤ sc)
    (hstore : match base with | some a => (storeCells (a.add (sl * i.size)) new).run P w = .ok () w2 | none => w2 = w) :
    (Builtin.append_ #[st, xt] ty #[.slice base sl sc, x']).run P w = .ok (.slice base (sl + n) sc) w2 := by
  obtain ⟨d, hd1, hd2⟩ := hxt
  have hiO := hB.ok e i hi
  have hz : (underlying xt).run P w = .ok d w := run_underlying hd1 w
  have hm : (match d with | .int _ => true | _ => false) = false := by cases d <;> first | rfl | exact absurd rfl (hd2 _)
  simp only [Builtin.append_, List.getElem?_toArray, List.getElem?_cons_zero, List.getElem?_cons_succ, Sem.run_bind, run_underlying hst, Result.andThen_ok, hiO.size, hz, Sem.run_pure, hlen, Bool.false_eq_true, if_false, hle, if_true, hnew, Bool.not_false]
  cases base with
  | none =>
    simp only at hstore
    subst hstore
    simp only [hm, Bool.false_eq_true, if_false, Sem.run_bind, Sem.run_pure, Result.andThen_ok, hlen, hle, if_true, hnew, Bool.not_false]
  | some a =>
    simp only at hstore
    simp only [hm, Bool.false_eq_true, if_false, Sem.run_bind, Sem.run_pure, Result.andThen_ok, hlen, hle, if_true, hnew, Bool.not_false, hstore]

theorem appendK_spec {st xt ty : Nat} {s s' x x' : Value} (hB : TOK P B) (hw : WR B φ h w) (hs : VR φ s s') (hx : VR φ x x') (hxt : ∃ d, P.underlying xt = some d ∧ ∀ k, d ≠ .int k) (hk : appendK B st s x h K) :
    Done B φ h w ((Builtin.append_ #[st, xt] ty #[s', x']).run P w) K := by
  obtain ⟨i0, h1, h2⟩ := tyK_spec hk
  obtain ⟨d0, h3, h4⟩ := (hB.ok st i0 h1).under
  split at h2
  · rename_i e hki
    have hd := kd_slice hki h4
    subst hd
    obtain ⟨i, h5, h6, hso⟩ := tySK_spec h2
    have hsolo : solo B e = false := by simp only [solo, h5, hso]
    have hiO := hB.ok e i h5
    split at h6
    · rename_i base sl sc
      obtain ⟨n, h7, h8⟩ := lenVK_spec (P := P) (w := w) hx h6
      obtain ⟨new, new', h9, h10, h11, h12⟩ := firstK_spec (P := P) hw hx h7
      obtain ⟨old, h13, h9b⟩ := firstK_det h9
      obtain ⟨old2, old', hold2, h14, h15, h16⟩ := firstK_spec (P := P) hw hs h9b
      rw [hold2] at h14 h15
      have hol' : old'.length = sl * i.size := by rw [h14.length, h15]
      have hnl' : new'.length = n * i.size := by rw [h10.length, h11]
      rw [fN_eq] at h13
      split at h13
      · rename_i hsm0
        have hsm : (sl + n) * (i.bytes + i.size + 1) ≤ MOST := Nat.le_of_ble_eq_true hsm0
        split at h13
        · -- nothing is appended
          have hnew' : new' = [] := List.eq_nil_of_length_eq_zero (by rw [h10.length]; rfl)
          subst hnew'
          split at h13
          · have fin : ∀ (b' : Option Addr) (sc' : Nat), s' = .slice b' sl sc' → sl ≤ sc' → K (.slice base sl sc) h → Done B φ h w ((Builtin.append_ #[st, xt] ty #[s', x']).run P w) K := fun b' sc' e hle hkk => by
              subst e
              rw [append_room (n := 0) (w2 := w) hB h5 h3 hxt h8 (h12 w rfl) (by omega) (by cases b' <;> rfl)]
              exact .same hw hs hkk
            have hshape : ∃ b' sc', s' = .slice b' sl sc' ∧ (sc ≠ TOP → sc' = sc) ∧ (sc = TOP → base ≠ none → sl ≤ sc') := by
              cases base with
              | none => exact ⟨none, sc, hs.inv, fun _ => rfl, fun _ h => absurd rfl h⟩
              | some a =>
                obtain ⟨a', c', e1, e2, e3⟩ := slice_shape hs
                exact ⟨_, _, e1, e2, fun e _ => e3 e⟩
            obtain ⟨b', sc', g1, g2, g3⟩ := hshape
            split at h13
            · rename_i hT
              have hT' := Nat.eq_of_beq_eq_true hT
              by_cases hbn : base = none
              · subst hbn
                have e : s' = .slice none sl sc := hs.inv
                exact fin none sc e (by rw [hT']; have := need_small hsm; simp only [TOP]; omega) h13
              · exact fin b' sc' g1 (g3 hT' hbn) h13
            · rename_i hT
              have hT' : sc ≠ TOP := fun e => by rw [e, Nat.beq_refl] at hT; cases hT
              split at h13
              · rename_i hle
                exact fin b' sc' g1 (by rw [g2 hT']; exact Nat.le_of_ble_eq_true hle) h13
              · exact h13.elim
          · exact h13.elim
        · rename_i v vs
          have hone : 1 ≤ i.size := by
            rcases Nat.eq_zero_or_pos i.size with h0 | h0
            · rw [h0] at h11; simp at h11
            · exact h0
          split at h13
          · -- the room is not known
            rename_i hT
            have hT' := Nat.eq_of_beq_eq_true hT
            split at h13
            · rename_i r o
              obtain ⟨row, g1, g2⟩ := rowK_spec h13
              split at g2
              · rename_i cs e'
                split at g2
                · rename_i hee
                  have hee' := Nat.eq_of_beq_eq_true hee
                  subst hee'
                  rw [appK_eq] at g2
                  have g3 := setK_spec g2
                  have g3l := setK_low g2
                  rcases hs.inv with ⟨hr, _⟩ | ⟨hrn, q, c', hq, rfl, _, hc2⟩
                  · exact absurd hr (hw.live r _ g1).2
                  · obtain ⟨hc3, hc4, hc5⟩ := hc2 hT'
                    by_cases hfit : sl + n ≤ c'
                    · -- it finds room
                      have g4 : newK ⟨tput W h.rows r none, h.next, h.low⟩ (.cells ⟨old ++ v :: vs⟩ e) fun r h => K (.slice (some ⟨r, 0, none⟩) (sl + n) TOP) h := by
                        unfold grownK at g3
                        rw [fN_eq] at g3
                        exact g3
                      obtain ⟨g5, g6⟩ := newK_spec g4
                      obtain ⟨q', hq1, hq2⟩ := hw.rows r _ g1
                      rw [hq] at hq1
                      cases hq1
                      have hu : q.u = i.size := hq2.2.1 i h5
                      have holdrow : old = (cs.toList.drop o).take (sl * i.size) ∧ (sl * i.size = 0 ∨ o + sl * i.size ≤ cs.size) := by
                        rcases firstK_row h9b with ⟨q1, q2⟩ | ⟨cs', e2, fz, q1, q2, q3⟩
                        · exact ⟨by rw [q1]; simpa using q2.symm, .inl q1⟩
                        · rw [g1] at q1
                          cases q1
                          exact ⟨q3.symm, .inr q2⟩
                      obtain ⟨ho1, ho2⟩ := holdrow
                      have hmul : (sl + n) * i.size ≤ c' * q.u := by rw [hu]; exact Nat.mul_le_mul_right _ hfit
                      rw [Nat.add_mul] at hmul
                      obtain ⟨p1, p2, p3⟩ := hw.adopt (P := P) g3l g5 g1 hq ho2 hsolo h10 (by rw [h11]; omega)
                      rw [← ho1] at p2 p3
                      have hrun := append_room (ty := ty) (w2 := w.setCells q.b (q.base + o + sl * i.size) new') (base := some ⟨q.b, q.base + o, none⟩) (sc := c') hB h5 h3 hxt h8 (h12 w rfl) hfit (by
                        simp only [add_plain]
                        exact p1)
                      rw [hrun]
                      have hnx : h.next ≠ NOWHERE := by have := hw.low.1; simp only [GL] at this; show h.next ≠ 999; omega
                      refine ⟨_, _, _, .slice (some ⟨h.next, 0, none⟩) (sl + n) TOP, _, rfl, ?_, p2, p3, g6⟩
                      exact slice_vr (s := ⟨q.b, q.base + o, q.room - o, q.u⟩) hnx (by simp) (fun e => absurd rfl e) (fun _ => ⟨hfit, by show 0 + c' * q.u = q.room - o; omega, hc5⟩)
                    · -- it does not
                      have hwd := hw.drop g1
                      obtain ⟨φ', h', w', vv, vv', k1, k2, k3, k4, k5⟩ := grown_new (ty := ty) (s' := .slice (some ⟨q.b, q.base + o, none⟩) sl c') hB hwd h5 hso h3 hxt rfl h8 (fun w' he => h16 w' he) (fun w' he => h12 w' he) hol' hnl' (by omega) hsm (h14.app h10) hone g3
                      refine ⟨φ', h', w', vv, vv', k1, k2, k3, ?_, k5⟩
                      have hstd : St φ h w φ ⟨tput W h.rows r none, h.next, h.low⟩ w := by
                        refine ⟨fun _ _ h => h, Nat.le_refl _, fun _ _ _ => rfl, fun r' x' s1 hx1 h1' => .inr ⟨r', x', s1, ?_, h1', rfl⟩, Sm.refl _, rfl, fun r' x' s1 hr1 hx1 _ _ => ⟨?_, rfl⟩⟩
                        rotate_left
                        · have hl := (hw.live r _ g1).1
                          have hf := hw.few
                          have e2 : ¬ r' = r := by omega
                          show tget W (tput W h.rows r none) r' = some x'
                          rw [tget_tput _ _ _ _ _ (w_fits (by omega))]
                          simpa only [e2, if_false] using hx1
                        have hl := (hw.live r _ g1).1
                        have hf := hw.few
                        have hx2 : tget W (tput W h.rows r none) r' = some x' := hx1
                        rw [tget_tput _ _ _ _ _ (w_fits (by omega))] at hx2
                        by_cases ee : r' = r
                        · simp [ee] at hx2
                        · simpa only [ee, if_false] using hx2
                      exact hstd.trans k4
                · exact g2.elim
              · exact g2.elim
            · rename_i r o p
              split at h13
              case h_2 => exact h13.elim
              obtain ⟨row, g1, g2⟩ := rowK_spec h13
              split at g2
              · rename_i cs e'
                split at g2
                · rename_i hee
                  have hee' := Nat.eq_of_beq_eq_true hee
                  subst hee'
                  have g3 := setK_spec g2
                  have g3l := setK_low g2
                  have hold0 : old' = [] := List.eq_nil_of_length_eq_zero (by rw [hol', Nat.zero_mul])
                  have hold1 : old = [] := List.eq_nil_of_length_eq_zero (by rw [h15, Nat.zero_mul])
                  subst hold0 hold1
                  obtain ⟨_, _, q, a, c', hq, rfl, hc2⟩ := hs.inv
                  by_cases hfit : 0 + n ≤ c'
                  · -- it finds room
                    have hn0 : n ≠ 0 := fun h0 => by rw [h0, Nat.zero_mul] at h11; simp at h11
                    obtain ⟨rfl, hc4, hc5⟩ := hc2 (by omega)
                    have g4 : newK ⟨tput W h.rows r none, h.next, h.low⟩ (.cells ⟨v :: vs⟩ e) fun r h => K (.slice (some ⟨r, 0, none⟩) (0 + n) TOP) h := by
                      unfold grownK at g3
                      rw [fN_eq] at g3
                      exact g3
                    obtain ⟨g5, g6⟩ := newK_spec g4
                    obtain ⟨q', hq1, hq2⟩ := hw.rows r _ g1
                    rw [hq] at hq1
                    cases hq1
                    have hu : q.u = i.size := hq2.2.1 i h5
                    have hmul : (0 + n) * i.size ≤ c' * q.u := by rw [hu]; exact Nat.mul_le_mul_right _ hfit
                    rw [Nat.zero_add] at hmul
                    have hlen0 : (v :: vs).length = n * i.size := h11
                    have hroom0 : o + 0 + (v :: vs).length ≤ q.room := by
                      rw [hlen0, ← hc4]
                      show o + 0 + n * i.size ≤ o + c' * q.u
                      omega
                    obtain ⟨p1, p2, p3⟩ := hw.adopt (P := P) (m := 0) g3l g5 g1 hq (.inl rfl) hsolo h10 hroom0
                    simp only [List.take_zero, List.nil_append] at p2 p3
                    have hrun := append_room (ty := ty) (sl := 0) (w2 := w.setCells q.b (q.base + o + 0) new') (base := some ⟨q.b, q.base + o, none⟩) (sc := c') hB h5 h3 hxt h8 (h12 w rfl) hfit (by
                      simp only [add_plain, Nat.zero_mul]
                      exact p1)
                    rw [hrun]
                    have hnx : h.next ≠ NOWHERE := by have := hw.low.1; simp only [GL] at this; show h.next ≠ 999; omega
                    refine ⟨_, _, _, .slice (some ⟨h.next, 0, none⟩) (0 + n) TOP, _, rfl, ?_, p2, p3, g6⟩
                    exact slice_vr (s := ⟨q.b, q.base + o, q.room - o, q.u⟩) hnx (by simp) (fun e => absurd rfl e) (fun _ => ⟨hfit, by show 0 + c' * q.u = q.room - o; omega, hc5⟩)
                  · -- it does not
                    have hwd := hw.drop g1
                    obtain ⟨φ', h', w', vv, vv', k1, k2, k3, k4, k5⟩ := grown_new (ty := ty) (s' := .slice (some a) 0 c') hB hwd h5 hso h3 hxt rfl h8 (fun w' he => h16 w' he) (fun w' he => h12 w' he) hol' hnl' (by omega) hsm (h14.app h10) hone g3
                    refine ⟨φ', h', w', vv, vv', k1, k2, k3, ?_, k5⟩
                    have hstd : St φ h w φ ⟨tput W h.rows r none, h.next, h.low⟩ w := by
                      refine ⟨fun _ _ h => h, Nat.le_refl _, fun _ _ _ => rfl, fun r' x' s1 hx1 h1' => .inr ⟨r', x', s1, ?_, h1', rfl⟩, Sm.refl _, rfl, fun r' x' s1 hr1 hx1 _ _ => ⟨?_, rfl⟩⟩
                      rotate_left
                      · have hl := (hw.live r _ g1).1
                        have hf := hw.few
                        have e2 : ¬ r' = r := by omega
                        show tget W (tput W h.rows r none) r' = some x'
                        rw [tget_tput _ _ _ _ _ (w_fits (by omega))]
                        simpa only [e2, if_false] using hx1
                      have hl := (hw.live r _ g1).1
                      have hf := hw.few
                      have hx2 : tget W (tput W h.rows r none) r' = some x' := hx1
                      rw [tget_tput _ _ _ _ _ (w_fits (by omega))] at hx2
                      by_cases ee : r' = r
                      · simp [ee] at hx2
                      · simpa only [ee, if_false] using hx2
                    exact hstd.trans k4
                · exact g2.elim
              · exact g2.elim
            · exact h13.elim
          · rename_i hT
            have hT' : sc ≠ TOP := fun e => by rw [e, Nat.beq_refl] at hT; cases hT
            split at h13
            · -- there is room
              rename_i hle
              have hle' := Nat.le_of_ble_eq_true hle
              split at h13
              · rename_i r o
                obtain ⟨q, h', w', g1, g2, g3, g4, g5⟩ := storeK_spec (P := P) hw h10 h13
                rcases hs.inv with ⟨hr, _⟩ | ⟨hrn, q', c', hq, rfl, hc1, _⟩
                · obtain ⟨row, k1, _⟩ := rowK_spec h13
                  exact absurd hr (hw.live r _ k1).2
                · rw [g1] at hq
                  cases hq
                  have hcc := hc1 hT'
                  subst hcc
                  have hrun := append_room (ty := ty) (w2 := w') (base := some ⟨q.b, q.base + o, none⟩) (sc := c') hB h5 h3 hxt h8 (h12 w rfl) hle' (by
                    simp only [add_plain]
                    rw [show q.base + o + sl * i.size = q.base + (o + sl * i.size) by omega]
                    exact g2)
                  rw [hrun]
                  exact ⟨φ, h', w', _, _, rfl, slice_vr hrn g1 (fun _ => rfl) (fun e => absurd e hT'), g3, g4, g5⟩
              · exact h13.elim
            · -- there is none
              rename_i hle
              have hgt : sc < sl + n := by
                rcases Nat.lt_or_ge sc (sl + n) with g | g
                · exact g
                · have hc : Nat.ble (Nat.add sl n) sc = true := Nat.ble_eq_true_of_le g
                  exact absurd (hc.symm.trans hle) (by simp)
              rw [appK_eq] at h13
              have hshape : ∃ b', s' = .slice b' sl sc := by
                cases base with
                | none => exact ⟨none, hs.inv⟩
                | some a =>
                  obtain ⟨a', c', e1, e2, _⟩ := slice_shape hs
                  exact ⟨_, by rw [e1, e2 hT']⟩
              obtain ⟨b', hb'⟩ := hshape
              exact grown_new hB hw h5 hso h3 hxt hb' h8 h16 h12 hol' hnl' hgt hsm (h14.app h10) hone h13
      · exact h13.elim
    · exact h6.elim
  · exact h2.elim
end

end Rn
end Go.Proofs.YtllbjkeahafleaaGreatDoor
