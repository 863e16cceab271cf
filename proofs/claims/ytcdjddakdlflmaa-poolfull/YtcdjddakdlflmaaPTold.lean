/-
  The contract of told: one call of both builders. Their list has less than 10000 entries.
-/
import Derived.Test.YtcdjddakdlflmaaYBuild
import Derived.Test.YtcdjddakdlflmaaPCall
namespace Go.Proofs.Ytcdjddakdlflmaa
open Go.RowKit

/-- What a call does to a builder's list, and answers. -/
def callB (l : List En) (x : Cal) : List En × Int × Int :=
  if x.k = 1 then textB l x.m else if x.k = 2 then numberB l x.n else if x.k = 3 then classB l x.c else if x.k = 4 then typeB l x.t else
  if x.k = 5 then fieldB l x.c x.m x.t else if x.k = 6 then methodB l x.c x.m (x.ps, x.v, x.r) else (l, 0, 0)

/-- Two builders of one list, side by side. -/
structure Tw (w : World) (b r : Nat) (R Q : Option Nat) (l : List En) : Prop where
  p : Bd w b R l
  q : Bd w r Q l
  br : b ≠ r
  rb : R ≠ some r
  qb : Q ≠ some b
  rq : ∀ g, R = some g → Q ≠ some g

/-- What a call of both does. -/
structure Tt (w w' : World) (b r : Nat) (R Q R' Q' : Option Nat) (l' : List En) : Prop where
  tw : Tw w' b r R' Q' l'
  only : Only (b :: r :: (R.toList ++ Q.toList)) w w'
  rowR : R' = R ∨ ∃ g, R' = some g ∧ w.heap.size ≤ g
  rowQ : Q' = Q ∨ ∃ g, Q' = some g ∧ w.heap.size ≤ g

theorem Tw.only {w w' : World} {S : List Nat} {b r : Nat} {R Q : Option Nat} {l : List En} (h : Tw w b r R Q l) (ho : Only S w w') (hb : b ∉ S) (hr : r ∉ S) (hR : ∀ g, R = some g → g ∉ S) (hQ : ∀ g, Q = some g → g ∉ S) : Tw w' b r R Q l :=
  ⟨h.p.only ho hb hR, h.q.only ho hr hQ, h.br, h.rb, h.qb, h.rq⟩

/-- First the one, then the other. -/
theorem tt_of {w z w1 w2 : World} {b r : Nat} {R Q R1 Q1 : Option Nat} {l l' : List En} (h : Tw w b r R Q l) (hz : Only [] w z) (h1 : Bt z w1 b R R1 l') (h2 : Bt w1 w2 r Q Q1 l') : Tt w w2 b r R Q R1 Q1 l' := by
  have sz := hz.size
  have s1 := h1.only.size
  have rl := h.q.lt
  have ql := h.q.row_lt
  have bl := h.p.lt
  have b1 := h1.bd.lt
  have r1 := h1.bd.row_lt
  have hb2 : b ∉ r :: Q.toList := by
    simp
    exact ⟨h.br, h.qb⟩
  have hR2 : ∀ g, R1 = some g → g ∉ r :: Q.toList := by
    intro g hg
    simp
    rcases h1.row with e | ⟨g', e, hg'⟩
    · rw [e] at hg
      refine ⟨fun e2 => h.rb (by rw [hg, e2]), h.rq g hg⟩
    · rw [e] at hg
      simp at hg
      subst hg
      refine ⟨by omega, fun e2 => ?_⟩
      have := ql _ e2
      omega
  refine ⟨⟨h1.bd.only h2.only hb2 hR2, h2.bd, h.br, ?_, ?_, ?_⟩, ?_, ?_, ?_⟩
  · rcases h1.row with e | ⟨g', e, hg'⟩
    · rw [e]
      exact h.rb
    · rw [e]
      simp
      omega
  · rcases h2.row with e | ⟨g', e, hg'⟩
    · rw [e]
      exact h.qb
    · rw [e]
      simp
      omega
  · intro g hg
    rcases h2.row with e | ⟨g', e, hg'⟩
    · rw [e]
      intro e2
      exact (by simpa using hR2 g hg : ¬ (g = r) ∧ ¬ (Q = some g)).2 e2
    · rw [e]
      have := r1 g hg
      simp
      omega
  · refine (hz.mono (S' := b :: r :: (R.toList ++ Q.toList)) (by simp)).trans ((h1.only.mono (S' := b :: r :: (R.toList ++ Q.toList)) ?_).trans h2.only ?_) (fun x hx => .inl hx)
    · intro x hx
      left
      simp at hx ⊢
      rcases hx with hx | hx
      · exact .inl hx
      · exact .inr (.inr (.inl hx))
    · intro x hx
      left
      simp at hx ⊢
      rcases hx with hx | hx
      · exact .inr (.inl hx)
      · exact .inr (.inr (.inr hx))
  · rcases h1.row with e | ⟨g, e, hg⟩
    · exact .inl e
    · exact .inr ⟨g, e, by omega⟩
  · rcases h2.row with e | ⟨g, e, hg⟩
    · exact .inl e
    · exact .inr ⟨g, e, by omega⟩

set_option maxHeartbeats 1000000 in
set_option maxRecDepth 100000 in
theorem told_any {w : World} {b r : Nat} {R Q : Option Nat} {l : List En} (h : Tw w b r R Q l) (hl : l.length < 10000) {x : Cal} (hx : CalOK w x) (hd : x.ps ≠ [] → x.d ∉ b :: R.toList) :
    Calls Try.prog 16 #[.pointer (some ⟨b, 0, none⟩), .pointer (some ⟨r, 0, none⟩), clV x] w fun e w' => e = .returned (.bool true) ∧ ∃ R' Q', Tt w w' b r R Q R' Q' (callB l x).1 := by
  have o0 := (Only.refl [] w).alloc (.cells #[.int .i64 x.k, .int .i64 x.n, .string (str x.c), .string (str x.m), .int .i64 x.t.1, .string (str x.t.2), .slice x.ao x.ps.length x.cap, .bool x.v, .int .i64 x.r.1, .string (str x.r.2)] 45)
  have C0 := calAt_new w x 45
  have B0 := h.p.only o0 (by simp) (by simp)
  have K0 := h.q.only o0 (by simp) (by simp)
  have X0 := hx.only o0 (by simp)
  have bl := h.p.lt
  have rl := h.p.row_lt
  have hp0 : w.heap.size ∉ b :: R.toList := by
    simp
    refine ⟨by omega, fun e => ?_⟩
    have := rl _ e
    omega
  have hr0 : r ∉ b :: R.toList := by
    simp
    exact ⟨fun e => h.br e.symm, h.rb⟩
  have hq0 : ∀ g, Q = some g → g ∉ b :: R.toList := by
    intro g hg
    simp
    exact ⟨fun e => h.qb (by rw [hg, e]), fun e => h.rq g e hg⟩
  have hy : ∃ y, y = callB l x := ⟨_, rfl⟩
  obtain ⟨y, hy⟩ := hy
  rw [← hy]
  have hfin := fun w1 w2 R1 Q1 l' (h1 : Bt _ w1 b R R1 l') (h2 : Bt w1 w2 r Q Q1 l') => tt_of (l' := l') h o0 h1 h2
  obtain ⟨k, n, c, m, ⟨td, tn⟩, ao, cap, d, ps, v, ⟨rd, rn⟩⟩ := x
  simp only [clV] at *
  obtain ⟨X1, X2, X3, X4, X5, X6, X7, X8⟩ := X0
  simp only at X1 X2 X3 X4 X5 X6 X7 X8 hd
  replace hfin := hid hfin
  replace C0 := hid C0
  replace hy := hid hy
  replace h := hid h
  replace K0 := hid K0
  replace B0 := hid B0
  replace X1 := hid X1
  replace X7 := hid X7
  replace hd := hid hd
  clear hx X2
  by_cases h1 : k = 1
  · subst h1
    have ey : y = textB l m := by rw [hy.out]; simp [callB]
    have HB := btext_any B0.out hl m X4
    rw [← ey] at HB
    replace ey := hid ey
    unfold BPost at HB
    replace HB := hid HB
    clear hy
    go_enter Try.func16, Try.ntmps16
    go_wp2_with fail
    refine HB.out.mono ?_
    rintro e w1 ⟨rfl, R1, hb1⟩
    obtain ⟨c0, c1, c2, c3, c4, c5, c6, c7, c8, c9⟩ := C0.out.only hb1.only hp0
    simp only [Nat.zero_add] at c0 c1 c2 c3 c4 c5 c6 c7 c8 c9
    have HR := rbtext_any (K0.out.only hb1.only hr0 hq0) hl m X4
    rw [← ey.out] at HR
    unfold BPost at HR
    replace HR := hid HR
    replace hb1 := hid hb1
    go_wp2_with (go_at_call 37; refine HR.out.mono ?_; rintro e w2 ⟨rfl, Q1, hb2⟩)
    go_ret
    exact ⟨by simp, R1, Q1, hfin.out w1 w2 R1 Q1 y.1 hb1.out hb2⟩
  have g1 : (k == 1) = false := by simpa using h1
  by_cases h2 : k = 2
  · subst h2
    have ey : y = numberB l n := by rw [hy.out]; simp [callB]
    have HB := bnumber_any B0.out hl n
    rw [← ey] at HB
    replace ey := hid ey
    unfold BPost at HB
    replace HB := hid HB
    clear hy h1 g1
    go_enter Try.func16, Try.ntmps16
    go_wp2_with fail
    refine HB.out.mono ?_
    rintro e w1 ⟨rfl, R1, hb1⟩
    obtain ⟨c0, c1, c2, c3, c4, c5, c6, c7, c8, c9⟩ := C0.out.only hb1.only hp0
    simp only [Nat.zero_add] at c0 c1 c2 c3 c4 c5 c6 c7 c8 c9
    have HR := rbnumber_any (K0.out.only hb1.only hr0 hq0) hl n
    rw [← ey.out] at HR
    unfold BPost at HR
    replace HR := hid HR
    replace hb1 := hid hb1
    go_wp2_with (go_at_call 39; refine HR.out.mono ?_; rintro e w2 ⟨rfl, Q1, hb2⟩)
    go_ret
    exact ⟨by simp, R1, Q1, hfin.out w1 w2 R1 Q1 y.1 hb1.out hb2⟩
  have g2 : (k == 2) = false := by simpa using h2
  by_cases h3 : k = 3
  · subst h3
    have ey : y = classB l c := by rw [hy.out]; simp [callB]
    have HB := bclass_any B0.out hl c X3
    rw [← ey] at HB
    replace ey := hid ey
    unfold BPost at HB
    replace HB := hid HB
    clear hy h1 g1 h2 g2
    go_enter Try.func16, Try.ntmps16
    go_wp2_with fail
    refine HB.out.mono ?_
    rintro e w1 ⟨rfl, R1, hb1⟩
    obtain ⟨c0, c1, c2, c3, c4, c5, c6, c7, c8, c9⟩ := C0.out.only hb1.only hp0
    simp only [Nat.zero_add] at c0 c1 c2 c3 c4 c5 c6 c7 c8 c9
    have HR := rbclass_any (K0.out.only hb1.only hr0 hq0) hl c X3
    rw [← ey.out] at HR
    unfold BPost at HR
    replace HR := hid HR
    replace hb1 := hid hb1
    go_wp2_with (go_at_call 40; refine HR.out.mono ?_; rintro e w2 ⟨rfl, Q1, hb2⟩)
    go_ret
    exact ⟨by simp, R1, Q1, hfin.out w1 w2 R1 Q1 y.1 hb1.out hb2⟩
  have g3 : (k == 3) = false := by simpa using h3
  by_cases h4 : k = 4
  · subst h4
    have ey : y = typeB l (td, tn) := by rw [hy.out]; simp [callB]
    have HB := btype_any B0.out hl (td, tn) X5
    rw [← ey] at HB
    replace ey := hid ey
    unfold BPost at HB
    simp only [tyV] at HB
    replace HB := hid HB
    clear hy h1 g1 h2 g2 h3 g3
    go_enter Try.func16, Try.ntmps16
    go_wp2_with fail
    refine HB.out.mono ?_
    rintro e w1 ⟨rfl, R1, hb1⟩
    obtain ⟨c0, c1, c2, c3, c4, c5, c6, c7, c8, c9⟩ := C0.out.only hb1.only hp0
    simp only [Nat.zero_add] at c0 c1 c2 c3 c4 c5 c6 c7 c8 c9
    have HR := rbtype_any (K0.out.only hb1.only hr0 hq0) hl (td, tn) X5
    rw [← ey.out] at HR
    unfold BPost at HR
    simp only [tyV] at HR
    replace HR := hid HR
    replace hb1 := hid hb1
    go_wp2_with (go_at_call 42; refine HR.out.mono ?_; rintro e w2 ⟨rfl, Q1, hb2⟩)
    go_ret
    exact ⟨by simp, R1, Q1, hfin.out w1 w2 R1 Q1 y.1 hb1.out hb2⟩
  have g4 : (k == 4) = false := by simpa using h4
  by_cases h5 : k = 5
  · subst h5
    have ey : y = fieldB l c m (td, tn) := by rw [hy.out]; simp [callB]
    have HB := bfield_any B0.out hl c m X3 X4 (td, tn) X5
    rw [← ey] at HB
    replace ey := hid ey
    unfold BPost at HB
    simp only [tyV] at HB
    replace HB := hid HB
    clear hy h1 g1 h2 g2 h3 g3 h4 g4
    go_enter Try.func16, Try.ntmps16
    go_wp2_with fail
    refine HB.out.mono ?_
    rintro e w1 ⟨rfl, R1, hb1⟩
    obtain ⟨c0, c1, c2, c3, c4, c5, c6, c7, c8, c9⟩ := C0.out.only hb1.only hp0
    simp only [Nat.zero_add] at c0 c1 c2 c3 c4 c5 c6 c7 c8 c9
    have HR := rbfield_any (K0.out.only hb1.only hr0 hq0) hl c m X3 X4 (td, tn) X5
    rw [← ey.out] at HR
    unfold BPost at HR
    simp only [tyV] at HR
    replace HR := hid HR
    replace hb1 := hid hb1
    go_wp2_with (go_at_call 43; refine HR.out.mono ?_; rintro e w2 ⟨rfl, Q1, hb2⟩)
    go_ret
    exact ⟨by simp, R1, Q1, hfin.out w1 w2 R1 Q1 y.1 hb1.out hb2⟩
  have g5 : (k == 5) = false := by simpa using h5
  by_cases h6 : k = 6
  · subst h6
    have ey : y = methodB l c m (ps, v, (rd, rn)) := by rw [hy.out]; simp [callB]
    have HB := bmethod_any (cap0 := cap) B0.out hl c m X3 X4 X1.out X6 X7.out v (rd, rn) X8
    rw [← ey] at HB
    replace ey := hid ey
    unfold BPost at HB
    simp only [sigV] at HB
    replace HB := hid HB
    clear hy h1 g1 h2 g2 h3 g3 h4 g4 h5 g5
    go_enter Try.func16, Try.ntmps16
    go_wp2_with fail
    refine HB.out.mono ?_
    rintro e w1 ⟨rfl, R1, hb1⟩
    obtain ⟨c0, c1, c2, c3, c4, c5, c6, c7, c8, c9⟩ := C0.out.only hb1.only hp0
    simp only [Nat.zero_add] at c0 c1 c2 c3 c4 c5 c6 c7 c8 c9
    have HR := rbmethod_any (cap0 := cap) (K0.out.only hb1.only hr0 hq0) hl c m X3 X4 (X1.out.only hb1.only hd.out) X6 X7.out v (rd, rn) X8
    rw [← ey.out] at HR
    unfold BPost at HR
    simp only [sigV] at HR
    replace HR := hid HR
    replace hb1 := hid hb1
    go_wp2_with (go_at_call 45; refine HR.out.mono ?_; rintro e w2 ⟨rfl, Q1, hb2⟩)
    go_ret
    exact ⟨by simp, R1, Q1, hfin.out w1 w2 R1 Q1 y.1 hb1.out hb2⟩
  have g6 : (k == 6) = false := by simpa using h6
  have ey : y = (l, 0, 0) := by rw [hy.out]; simp [callB, h1, h2, h3, h4, h5, h6]
  subst ey
  clear hy h1 h2 h3 h4 h5 h6
  go_enter Try.func16, Try.ntmps16
  go_wp2
  go_ret
  exact ⟨by simp, R, Q, hfin.out _ _ R Q l (Bt.refl B0.out) (Bt.refl K0.out)⟩

end Go.Proofs.Ytcdjddakdlflmaa
