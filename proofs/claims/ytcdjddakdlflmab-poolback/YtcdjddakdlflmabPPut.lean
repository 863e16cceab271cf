/-
  The contract of put. The list has less than a million entries.
-/
import Derived.Test.YtcdjddakdlflmabPBd
import Derived.Deep.RegionHeld3
namespace Go.Proofs.Ytcdjddakdlflmab
open Go.RowKit

theorem keep_pe {a b z : World} {p q : Nat} {y x0 x1 x2 x3 x4 x5 : Value} (ho : Only [] a b)
    (h : a.cell? ⟨q, 0, none⟩ = some y ∧ a.cell? ⟨p, 0, none⟩ = some x0 ∧ a.cell? ⟨p, 1, none⟩ = some x1 ∧ a.cell? ⟨p, 2, none⟩ = some x2 ∧ a.cell? ⟨p, 3, none⟩ = some x3 ∧ a.cell? ⟨p, 4, none⟩ = some x4 ∧ a.cell? ⟨p, 5, none⟩ = some x5 ∧ Only [] z a) :
    b.cell? ⟨q, 0, none⟩ = some y ∧ b.cell? ⟨p, 0, none⟩ = some x0 ∧ b.cell? ⟨p, 1, none⟩ = some x1 ∧ b.cell? ⟨p, 2, none⟩ = some x2 ∧ b.cell? ⟨p, 3, none⟩ = some x3 ∧ b.cell? ⟨p, 4, none⟩ = some x4 ∧ b.cell? ⟨p, 5, none⟩ = some x5 ∧ Only [] z b := by
  obtain ⟨h, h0⟩ := h
  exact ⟨(ho.cell (p := ⟨q, 0, none⟩) (World.block_lt_of_cell? _ _ h) (by simp)).trans h, keep_en ho h0⟩

theorem es_one (w : World) (e : En) (u : TypeId) : ES (w.alloc (.cells #[.int .i64 e.1, .string (str e.2.1), .int .i64 e.2.2.1, .int .i64 e.2.2.2.1, .int .i64 e.2.2.2.2.1, .int .i64 e.2.2.2.2.2] u)) (some ⟨w.heap.size, 0, none⟩) [e] w.heap.size := by
  refine .inr ⟨0, rfl, fun j hj => ?_⟩
  have : j = 0 := by simpa using hj
  subst this
  exact enAt_new w e u

/-- The builder's own cell behind an append. -/
theorem put_cell {w z w' : World} {b : Nat} {R : Option Nat} {l : List En} {ao : Option Addr} {cap : Nat} (hB : Bd w b R l) (hR : R = ao.map (·.block)) (hc : w.cell? ⟨b, 0, none⟩ = some (.slice ao l.length cap)) (oz : Only [] w z) (hg : z.grownBy w' (Value.ownBlock (.slice ao l.length cap))) :
    w'.cell? ⟨b, 0, none⟩ = some (.slice ao l.length cap) ∧ w'.frozen? ⟨b, 0, none⟩ = false ∧ Only (b :: R.toList) w w' := by
  have hlt := hB.lt
  have hne : b ∉ (Value.ownBlock (.slice ao l.length cap)).toList := by
    intro hm
    apply hB.ne
    rw [hR]
    cases ao with
    | none => cases hm
    | some a =>
      simp [Value.ownBlock] at hm
      simp [hm]
  have o1 := Only.of_grown hg
  refine ⟨?_, ?_, (oz.mono (S' := b :: R.toList) (by simp)).trans o1 ?_⟩
  · rw [o1.cell (Nat.lt_of_lt_of_le hlt oz.size) hne, oz.cell hlt (by simp)]
    exact hc
  · rw [o1.frozen (Nat.lt_of_lt_of_le hlt oz.size) hne, oz.frozen hlt (by simp)]
    exact hB.f
  · intro x hx
    left
    rw [hR]
    cases ao with
    | none => cases hx
    | some a =>
      simp [Value.ownBlock] at hx
      simp [hx]

theorem put_end {w z w' : World} {b : Nat} {R : Option Nat} {l l' : List En} {ao ao' : Option Addr} {cap cap' : Nat} (hB : Bd w b R l) (hR : R = ao.map (·.block)) (hc : w.cell? ⟨b, 0, none⟩ = some (.slice ao l.length cap)) (oz : Only [] w z) (hg : z.grownBy w' (Value.ownBlock (.slice ao l.length cap)))
    (hown : OwE w' 0 (.slice ao' l'.length cap') l') (hao : ∀ a, ao' = some a → (∃ a', ao = some a' ∧ a'.block = a.block) ∨ z.heap.size ≤ a.block) (hnn : ao' = none → ao = none) :
    ∃ R', Bt w (w'.setCell ⟨b, 0, none⟩ (.slice ao' l'.length cap')) b R R' l' := by
  obtain ⟨h1, h2, h3⟩ := put_cell hB hR hc oz hg
  have hlt := hB.lt
  have hz := oz.size
  have hb' : ∀ a, ao' = some a → a.block ≠ b := by
    intro a ha
    rcases hao a ha with ⟨a', e1, e2⟩ | e1
    · rw [← e2]
      intro e3
      exact hB.ne (by rw [hR, e1]; simp [e3])
    · omega
  refine ⟨ao'.map (·.block), ⟨⟨ao', cap', cell_setCell_same _ _ h1, owe_only (S := [b]) hown ((Only.refl _ _).setCell (.inl (by simp)) _) ?_, rfl⟩, by rw [frozen_setCell]; exact h2, ?_⟩, h3.setCell (.inl (by simp)) _, ?_⟩
  · intro k hk
    cases ao' with
    | none => cases hk
    | some a =>
      simp [Value.ownBlock] at hk
      subst hk
      simpa using hb' a rfl
  · cases ao' with
    | none => simp
    | some a => simpa using hb' a rfl
  · cases ao' with
    | none =>
      left
      rw [hR, hnn rfl]
    | some a =>
      rcases hao a rfl with ⟨a', e1, e2⟩ | e1
      · left
        rw [hR, e1]
        simp [e2]
      · right
        exact ⟨a.block, rfl, by omega⟩

set_option maxHeartbeats 400000 in
set_option maxRecDepth 100000 in
theorem put_any {w : World} {b : Nat} {R : Option Nat} {l : List En} (hB : Bd w b R l) (hl : l.length < 1000000) (e : En) :
    Calls Try.prog 35 #[.pointer (some ⟨b, 0, none⟩), enV e] w fun r w' => r = .returned (.int .i64 (putE l e).2) ∧ ∃ R', Bt w w' b R R' (putE l e).1 := by
  have hx : ∃ x, x = putE l e := ⟨_, rfl⟩
  obtain ⟨x, hx⟩ := hx
  rw [← hx]
  have hblt := hB.lt
  obtain ⟨ao, cap, hc, how, hR⟩ := hB.ex
  have HI := fun W (hW : Only [] w W) => index_any' (cap := cap) ((ES.of_owns how).1.only hW (by simp)) (by omega) e
  have hii : idxI l e = match firstAt l e with | some i => (i : Int) | none => -1 := rfl
  generalize idxI l e = ii at *
  have o0 := (Only.refl [] w).alloc (.cells #[.int .i64 e.1, .string (str e.2.1), .int .i64 e.2.2.1, .int .i64 e.2.2.2.1, .int .i64 e.2.2.2.2.1, .int .i64 e.2.2.2.2.2] 43)
  have E0 := enAt_new w e 43
  have hc0 : (w.alloc (.cells #[.int .i64 e.1, .string (str e.2.1), .int .i64 e.2.2.1, .int .i64 e.2.2.2.1, .int .i64 e.2.2.2.2.1, .int .i64 e.2.2.2.2.2] 43)).cell? ⟨b, 0, none⟩ = some (.slice ao l.length cap) := cell_alloc _ hc
  simp only [enV] at HI ⊢
  obtain ⟨k, t, n, a, b', c⟩ := e
  simp only at *
  obtain ⟨e0, e1, e2, e3, e4, e5⟩ := E0
  simp only [Nat.zero_add] at e0 e1 e2 e3 e4 e5
  replace HI := hid HI
  replace hB := hid hB
  replace how := hid how
  replace hR := hid hR
  replace hc := hid hc
  cases hf : firstAt l (k, t, n, a, b', c) with
  | some i =>
    have ex : x = (l, (i : Int)) := by rw [hx]; simp [putE, hf]
    subst ex
    have ei : ii = (i : Int) := by rw [hii, hf]
    subst ei
    clear hx hii hf
    replace o0 := hid o0
    have g0 : (0 : Int) ≤ (i : Int) := by omega
    go_enter Try.func35, Try.ntmps35
    go_wp2_with fail
    go_region_held3 (fun w' => w'.cell? ⟨b, 0, none⟩ = some (.slice ao l.length cap) ∧ w'.cell? ⟨w.heap.size, 0, none⟩ = some (.int .i64 k) ∧ w'.cell? ⟨w.heap.size, 1, none⟩ = some (.string (str t)) ∧ w'.cell? ⟨w.heap.size, 2, none⟩ = some (.int .i64 n) ∧ w'.cell? ⟨w.heap.size, 3, none⟩ = some (.int .i64 a) ∧ w'.cell? ⟨w.heap.size, 4, none⟩ = some (.int .i64 b') ∧ w'.cell? ⟨w.heap.size, 5, none⟩ = some (.int .i64 c) ∧ Only [] w w') (first | exact keep_pe (by assumption) (by assumption) | exact ⟨hc0, e0, e1, e2, e3, e4, e5, o0.out.drew⟩ | exact ⟨hc0, e0, e1, e2, e3, e4, e5, o0.out⟩ | assumption) (first | (go_at_call 52; with_reducible refine (HI.out _ ?_).mono ?_; (simp [*]); rintro e w6 ⟨rfl, ho6⟩))
    rename_i hS
    go_wp2
    go_ret
    exact ⟨rfl, R, (Bt.refl hB.out).next hS.2.2.2.2.2.2.2⟩
  | none =>
    have ex : x = (l ++ [(k, t, n, a, b', c)], (l.length : Int)) := by rw [hx]; simp [putE, hf]
    subst ex
    have ei : ii = -1 := by rw [hii, hf]
    subst ei
    clear hx hii hf
    replace o0 := hid o0
    go_enter Try.func35, Try.ntmps35
    go_wp2_with fail
    go_region_held3 (fun w' => w'.cell? ⟨b, 0, none⟩ = some (.slice ao l.length cap) ∧ w'.cell? ⟨w.heap.size, 0, none⟩ = some (.int .i64 k) ∧ w'.cell? ⟨w.heap.size, 1, none⟩ = some (.string (str t)) ∧ w'.cell? ⟨w.heap.size, 2, none⟩ = some (.int .i64 n) ∧ w'.cell? ⟨w.heap.size, 3, none⟩ = some (.int .i64 a) ∧ w'.cell? ⟨w.heap.size, 4, none⟩ = some (.int .i64 b') ∧ w'.cell? ⟨w.heap.size, 5, none⟩ = some (.int .i64 c) ∧ Only [] w w') (first | exact keep_pe (by assumption) (by assumption) | exact ⟨hc0, e0, e1, e2, e3, e4, e5, o0.out.drew⟩ | exact ⟨hc0, e0, e1, e2, e3, e4, e5, o0.out⟩ | assumption) (first | (go_at_call 52; with_reducible refine (HI.out _ ?_).mono ?_; (simp [*]); rintro e w6 ⟨rfl, ho6⟩))
    rename_i hS
    clear e0 e1 e2 e3 e4 e5 hc0
    obtain ⟨hc1, e0, e1, e2, e3, e4, e5, o1⟩ := hS
    have hc2 : ∀ o, (w6.alloc o).cell? ⟨b, 0, none⟩ = some (.slice ao l.length cap) := fun o => cell_alloc o hc1
    have oz := (o1.drew).alloc (.cells #[.int .i64 k, .string (str t), .int .i64 n, .int .i64 a, .int .i64 b', .int .i64 c] 43)
    have hO := hid (owe_only how.out oz (by simp))
    have hX := hid (es_one w6.drew (k, t, n, a, b', c) 43)
    have hPC := hid (fun w' => put_cell (w' := w') hB.out hR.out hc.out oz)
    have hPE := hid (fun ao' cap' w' => put_end (w' := w') (l' := l ++ [(k, t, n, a, b', c)]) (ao' := ao') (cap' := cap') hB.out hR.out hc.out oz)
    replace oz := hid oz
    replace o1 := hid o1
    go_wp2_with fail
    go_region_law (refine step_append_entries rfl (.tmp 17) (.tmp 19) Try.underlying48 rfl rfl rfl hO.out hX.out (by simp) (by simp; omega) (by simp) ?_; intro ao' cap' w' hown hgrow hao hnn hold; obtain ⟨d0, d1, d2⟩ := hPC.out w' hgrow; replace hPE := hid (hPE.out ao' cap' w' hgrow hown hao hnn); clear hown hgrow hao hnn hold d2)
    go_wp2
    all_goals
      go_ret
      refine ⟨rfl, ?_⟩
      have h := hPE.out
      simp only [List.length_append, List.length_cons, List.length_nil, Nat.zero_add] at h
      exact h

end Go.Proofs.Ytcdjddakdlflmab
