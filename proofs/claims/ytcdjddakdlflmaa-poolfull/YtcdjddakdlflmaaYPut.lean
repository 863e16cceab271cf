/-
  The contracts of the second builder's put, word, class, ended. The list has less than 990000 entries.
-/
import Derived.Test.YtcdjddakdlflmaaPFit
namespace Go.Proofs.Ytcdjddakdlflmaa
open Go.RowKit

theorem owe_cap {w : World} {B C : Nat} {a : Addr} {n m cap cap' : Nat} {l k : List En} (h : OwE w B (.slice (some a) n cap) l) (g : OwE w C (.slice (some a) m cap') k) : cap = cap' := by
  rcases h.2 with ⟨q, _⟩ | ⟨b, c, cur, q, _, q3, _, _, q6, _⟩
  · simp at q
  · rcases g.2 with ⟨r, _⟩ | ⟨b', c', cur', r, _, r3, _, _, r6, _⟩
    · simp at r
    · simp at q r
      obtain ⟨rfl, _, rfl⟩ := q
      obtain ⟨r1, _, rfl⟩ := r
      simp at r1
      subst r1
      rw [q3] at r3
      simp at r3
      subst r3
      omega

/-- A builder's list behind calls, and its elder slice: it still holds what it held. -/
structure Rb (w w' : World) (b : Nat) (ao : Option Addr) (cap : Nat) (l : List En) (R' : Option Nat) (l' : List En) : Prop where
  bt : Bt w w' b (ao.map (·.block)) R' l'
  old : OwE w' 0 (.slice ao l.length cap) l
  st : (∃ n, w'.cell? ⟨b, 0, none⟩ = some (.slice ao n cap)) ∨ ∃ g, R' = some g ∧ w.heap.size ≤ g
  pre : ∃ r, l' = l ++ r

theorem Rb.refl {w : World} {b : Nat} {ao : Option Addr} {cap : Nat} {l : List En} {R : Option Nat} (hB : Bd w b R l) (hc : w.cell? ⟨b, 0, none⟩ = some (.slice ao l.length cap)) : Rb w w b ao cap l R l ∧ R = ao.map (·.block) := by
  obtain ⟨ao', cap', hc', how, hR⟩ := hB.ex
  rw [hc] at hc'
  simp at hc'
  obtain ⟨rfl, rfl⟩ := hc'
  subst hR
  exact ⟨⟨Bt.refl hB, how, .inl ⟨_, hc⟩, ⟨[], by simp⟩⟩, rfl⟩

theorem Rb.next {w w1 w2 : World} {b : Nat} {ao : Option Addr} {cap : Nat} {l l1 : List En} {R1 : Option Nat} (h : Rb w w1 b ao cap l R1 l1) (k : Only [] w1 w2) : Rb w w2 b ao cap l R1 l1 :=
  ⟨h.bt.next k, owe_only h.old k (by simp), by
    rcases h.st with ⟨n, hn⟩ | q
    · exact .inl ⟨n, by rw [k.cell h.bt.bd.lt (by simp)]; exact hn⟩
    · exact .inr q, h.pre⟩

theorem Rb.trans {w w1 w2 : World} {b : Nat} {ao ao1 : Option Addr} {cap cap1 : Nat} {l l1 l2 : List En} {R1 R2 : Option Nat} (hB : Bd w b (ao.map (·.block)) l) (h : Rb w w1 b ao cap l R1 l1) (hc : w1.cell? ⟨b, 0, none⟩ = some (.slice ao1 l1.length cap1)) (hR : R1 = ao1.map (·.block)) (k : Rb w1 w2 b ao1 cap1 l1 R2 l2) : Rb w w2 b ao cap l R2 l2 := by
  obtain ⟨r, hr⟩ := h.pre
  obtain ⟨r', hr'⟩ := k.pre
  have hsz := h.bt.only.size
  have kb := k.bt
  rw [← hR] at kb
  refine ⟨h.bt.trans kb, ?_, ?_, ⟨r ++ r', by rw [hr', hr]; simp⟩⟩
  · rcases h.st with ⟨n, hn⟩ | ⟨g, hg, hge⟩
    · rw [hc] at hn
      simp at hn
      obtain ⟨rfl, _, rfl⟩ := hn
      have := owe_take k.old l.length (by rw [hr]; simp)
      rw [hr, List.take_left] at this
      exact this
    · refine owe_only h.old kb.only ?_
      intro x hx
      cases ao with
      | none => cases hx
      | some a =>
        simp [Value.ownBlock] at hx
        subst hx
        have h1 := hB.row_lt a.block rfl
        have h2 := hB.ne
        simp at h2
        simp [hg]
        exact ⟨h2, by omega⟩
  · rcases k.st with ⟨n, hn⟩ | ⟨g, hg, hge⟩
    · rcases h.st with ⟨n', hn'⟩ | ⟨g, hg, hge⟩
      · rw [hc] at hn'
        simp at hn'
        obtain ⟨rfl, _, rfl⟩ := hn'
        exact .inl ⟨n, hn⟩
      · right
        rcases kb.row with e | ⟨g', e, hg'⟩
        · exact ⟨g, by rw [e, hg], hge⟩
        · exact ⟨g', e, by omega⟩
    · exact .inr ⟨g, hg, by omega⟩

/-- The builder's slice, wherever it is. -/
theorem Bd.slice {w : World} {b : Nat} {R : Option Nat} {l : List En} (h : Bd w b R l) : ∃ ao cap, w.cell? ⟨b, 0, none⟩ = some (.slice ao l.length cap) ∧ R = ao.map (·.block) := by
  obtain ⟨ao, cap, hc, _, hR⟩ := h.ex
  exact ⟨ao, cap, hc, hR⟩

theorem rput_end {w z w' : World} {b : Nat} {R : Option Nat} {l l' : List En} {ao ao' : Option Addr} {cap cap' : Nat} (hB : Bd w b R l) (hR : R = ao.map (·.block)) (hc : w.cell? ⟨b, 0, none⟩ = some (.slice ao l.length cap)) (oz : Only [] w z) (hg : z.grownBy w' (Value.ownBlock (.slice ao l.length cap)))
    (hown : OwE w' 0 (.slice ao' l'.length cap') l') (hao : ∀ a, ao' = some a → (∃ a', ao = some a' ∧ a'.block = a.block) ∨ z.heap.size ≤ a.block) (hnn : ao' = none → ao = none) (hold : OwE w' 0 (.slice ao l.length cap) l) (hpre : ∃ r, l' = l ++ r) :
    ∃ R', Rb w (w'.setCell ⟨b, 0, none⟩ (.slice ao' l'.length cap')) b ao cap l R' l' := by
  obtain ⟨R', hbt⟩ := put_end hB hR hc oz hg hown hao hnn
  obtain ⟨h1, _, _⟩ := put_cell hB hR hc oz hg
  have hs := oz.size
  refine ⟨R', by rw [← hR]; exact hbt, ?_, ?_, hpre⟩
  · refine owe_only (S := [b]) hold ((Only.refl _ _).setCell (.inl (by simp)) _) ?_
    intro k hk
    cases ao with
    | none => cases hk
    | some a =>
      simp [Value.ownBlock] at hk
      subst hk
      have := hB.ne
      rw [hR] at this
      simp at this
      simpa using this
  · have hcell : (w'.setCell ⟨b, 0, none⟩ (.slice ao' l'.length cap')).cell? ⟨b, 0, none⟩ = some (.slice ao' l'.length cap') := cell_setCell_same _ _ h1
    have hR' : R' = ao'.map (·.block) := by
      obtain ⟨ao2, cap2, hc2, hr2⟩ := hbt.bd.slice
      rw [hcell] at hc2
      simp at hc2
      rw [hr2, ← hc2.1]
    cases ao' with
    | none =>
      obtain rfl := hnn rfl
      left
      refine ⟨l'.length, ?_⟩
      rw [hcell]
      have q1 := (ES.of_owns hown).2.2.2.1 rfl
      have q2 := (ES.of_owns hold).2.2.2.1 rfl
      rw [q1, q2]
    | some a =>
      rcases hao a rfl with ⟨a', e1, e2⟩ | e1
      · left
        refine ⟨l'.length, ?_⟩
        rw [hcell]
        subst e1
        have p1 := ((ES.of_owns hown).2.2.2.2 a rfl).2.2
        have p2 := ((ES.of_owns hold).2.2.2.2 a' rfl).2.2
        have ea : a = a' := by rw [p1, p2, e2]
        subst ea
        rw [owe_cap hown hold]
      · right
        exact ⟨a.block, by rw [hR']; rfl, by omega⟩

set_option maxHeartbeats 400000 in
set_option maxRecDepth 100000 in
theorem rput_any {w : World} {b : Nat} {R : Option Nat} {l : List En} (hB : Bd w b R l) (hl : l.length < 1000000) {ao : Option Addr} {cap : Nat} (hc : w.cell? ⟨b, 0, none⟩ = some (.slice ao l.length cap)) (e : En) :
    Calls Try.prog 73 #[.pointer (some ⟨b, 0, none⟩), enV e] w fun r w' => r = .returned (.int .i64 (putE l e).2) ∧ ∃ R', Rb w w' b ao cap l R' (putE l e).1 := by
  have hx : ∃ x, x = putE l e := ⟨_, rfl⟩
  obtain ⟨x, hx⟩ := hx
  rw [← hx]
  replace hx := hid hx
  have hblt := hB.lt
  obtain ⟨hRb, hR⟩ := Rb.refl hB hc
  have how := hRb.old
  have hE := (ES.of_owns how).1
  have o0 := (Only.refl [] w).alloc (.cells #[.int .i64 e.1, .string (str e.2.1), .int .i64 e.2.2.1, .int .i64 e.2.2.2.1, .int .i64 e.2.2.2.2.1, .int .i64 e.2.2.2.2.2] 38)
  have E0 := enAt_new w e 38
  have hq := fun x : En => eq_entry x e
  have hcW := fun W (hW : Only [] w W) => (hW.cell (p := ⟨b, 0, none⟩) hblt (by simp)).trans hc
  simp only [enV] at hq ⊢
  generalize hdd : (ao.map (·.block)).getD 0 = d at hE
  clear hdd
  replace hq := hid hq
  replace E0 := hid E0
  replace hE := hid hE
  replace o0 := hid o0
  replace hB := hid hB
  replace hRb := hid hRb
  replace how := hid how
  replace hR := hid hR
  replace hcW := hid hcW
  replace hc := hid hc
  have hc0 := hcW.out _ o0.out
  go_enter Try.func73, Try.ntmps73
  go_wp2
  go_loopw [5] (fun i wr => ∃ k : Nat, k ≤ l.length ∧ i = .int .i64 (k : Int) ∧ (∀ j (hj : j < l.length), j < k → l[j] ≠ e) ∧ Only [] (w.alloc (.cells #[.int .i64 e.1, .string (str e.2.1), .int .i64 e.2.2.1, .int .i64 e.2.2.2.1, .int .i64 e.2.2.2.2.1, .int .i64 e.2.2.2.2.2] 38)) wr) (fun i _ => l.length - (intOf i).toNat)
  case atStart => exact ⟨0, by omega, rfl, fun j _ h => by omega, Only.refl _ _⟩
  case round =>
    clear hc0
    obtain ⟨k, hk, rfl, hok, hor⟩ := hrel
    have hon := o0.out.next hor (by simp)
    have hc1 := hcW.out _ hon
    obtain ⟨e0, e1, e2, e3, e4, e5⟩ := E0.out.only hor (by simp)
    simp only [Nat.zero_add] at e0 e1 e2 e3 e4 e5
    by_cases hlt : k < l.length
    · have g2 : ((k : Int) < (l.length : Int)) := by omega
      obtain ⟨off, hao, y0, y1, y2, y3, y4, y5⟩ := (hE.out.only hon (by simp)).at hlt
      subst hao
      have hqk := hq.out l[k]
      by_cases hz : l[k] = e
      · have hat := firstAt_at hlt (fun j hj => hok j (by omega) hj) hz
        have hxk : Hid (x = (l, (k : Int))) := by unfold Hid; rw [hx.out]; simp [putE, hat]
        rw [decide_eq_true hz] at hqk
        generalize l[k] = u at *
        clear hok hz hat
        go_wp2_with fail
        go_region
        go_wp2
        go_ret
        exact ⟨by rw [hxk.out]; rfl, R, by rw [hxk.out]; exact hRb.out.next hon.drew⟩
      · have hnx : ∀ j (hj : j < l.length), j < k + 1 → l[j] ≠ e := by
          intro j hj hjk
          by_cases e' : j = k
          · subst e'
            exact hz
          · exact hok j hj (by omega)
        rw [decide_eq_false hz] at hqk
        generalize l[k] = u at *
        replace hnx := hid hnx
        clear hok hz
        go_wp2_with fail
        go_region
        go_wp2
        exact ⟨⟨k + 1, by omega, by go_num, hnx.out, hor.drew⟩, by simp [intOf]; omega⟩
    · have g2 : ¬ ((k : Int) < (l.length : Int)) := by omega
      obtain rfl : k = l.length := by omega
      have hall := firstAt_none (l := l) (e := e) fun y hy => by
        obtain ⟨j, hj, rfl⟩ := List.getElem_of_mem hy
        exact hok j hj hj
      have hxk : Hid (x = (l ++ [e], (l.length : Int))) := by unfold Hid; rw [hx.out]; simp [putE, hall]
      clear hok hall
      obtain ⟨k, t, n, a, b', c⟩ := e
      simp only at *
      have hc2 : ∀ o, (wr.alloc o).cell? ⟨b, 0, none⟩ = some (.slice ao l.length cap) := fun o => cell_alloc o hc1
      have oz := (hon.drew).alloc (.cells #[.int .i64 k, .string (str t), .int .i64 n, .int .i64 a, .int .i64 b', .int .i64 c] 38)
      have hO := hid (owe_only how.out oz (by simp))
      have hX := hid (es_one wr.drew (k, t, n, a, b', c) 38)
      have hPC := hid (fun w' => put_cell (w' := w') hB.out hR.out hc.out oz)
      have hPE := hid (fun ao' cap' w' => rput_end (w' := w') (l' := l ++ [(k, t, n, a, b', c)]) (ao' := ao') (cap' := cap') hB.out hR.out hc.out oz)
      replace oz := hid oz
      replace hon := hid hon
      go_wp2_with fail
      go_region_law (refine step_append_entries rfl (.tmp 29) (.tmp 31) Try.underlying22 rfl rfl rfl hO.out hX.out (by simp) (by simp; omega) (by simp) ?_; intro ao' cap' w' hown hgrow hao hnn hold; obtain ⟨d0, d1, d2⟩ := hPC.out w' hgrow; replace hPE := hid (hPE.out ao' cap' w' hgrow hown hao hnn hold ⟨_, rfl⟩); clear hown hgrow hao hnn hold d2)
      go_wp2
      all_goals
        go_ret
        refine ⟨by rw [hxk.out]; rfl, ?_⟩
        rw [hxk.out]
        have h := hPE.out
        simp only [List.length_append, List.length_cons, List.length_nil, Nat.zero_add] at h
        exact h

end Go.Proofs.Ytcdjddakdlflmaa
