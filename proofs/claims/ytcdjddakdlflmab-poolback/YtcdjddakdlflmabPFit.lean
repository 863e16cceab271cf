/-
  The contracts of putText, putClass, putMember, fit. The list has less than 990000 entries.
-/
import Derived.Test.YtcdjddakdlflmabPPut
namespace Go.Proofs.Ytcdjddakdlflmab
open Go.RowKit

def txE (s : List UInt8) : En := (1, s, 0, 0, 0, 0)
def pClass (l : List En) (s : List UInt8) : List En × Int := putE (putE l (txE s)).1 (3, [], 0, (putE l (txE s)).2, 0, 0)
def pMem3 (l : List En) (c n : List UInt8) : List En × Int := putE (pClass l c).1 (txE n)
def pMem4 (l : List En) (c n t : List UInt8) : List En × Int := putE (pMem3 l c n).1 (txE t)
def pMember (l : List En) (kind : Int) (c n t : List UInt8) : List En × Int := putE (pMem4 l c n t).1 (kind, [], 0, (pClass l c).2, (pMem3 l c n).2, (pMem4 l c n t).2)
def fitE (had : Nat) (x : List En × Int) : List En × Int × Int := if 4096 < x.1.length then (x.1.take had, 0, 4) else (x.1, x.2, 0)

theorem putE_len (l : List En) (e : En) : l.length ≤ (putE l e).1.length ∧ (putE l e).1.length ≤ l.length + 1 := by
  unfold putE
  split <;> simp

theorem putE_pre (l : List En) (e : En) : ∃ r, (putE l e).1 = l ++ r := by
  unfold putE
  split
  · exact ⟨[], by simp⟩
  · exact ⟨[e], rfl⟩

set_option maxRecDepth 100000 in
theorem putText_any {w : World} {b : Nat} {R : Option Nat} {l : List En} (hB : Bd w b R l) (hl : l.length < 1000000) (s : List UInt8) :
    Calls Try.prog 34 #[.pointer (some ⟨b, 0, none⟩), .string (str s)] w fun r w' => r = .returned (.int .i64 (putE l (txE s)).2) ∧ ∃ R', Bt w w' b R R' (putE l (txE s)).1 := by
  have HP := put_any hB hl (txE s)
  generalize putE l (txE s) = X at *
  simp only [enV, txE] at HP
  replace HP := hid HP
  clear hB
  go_enter Try.func34, Try.ntmps34
  go_wp2_with (go_at_call 35; refine HP.out.mono ?_; rintro e w1 ⟨rfl, R1, hb1⟩)
  go_ret
  exact ⟨rfl, R1, hb1⟩

set_option maxRecDepth 100000 in
theorem putClass_any {w : World} {b : Nat} {R : Option Nat} {l : List En} (hB : Bd w b R l) (hl : l.length < 999990) (s : List UInt8) :
    Calls Try.prog 30 #[.pointer (some ⟨b, 0, none⟩), .string (str s)] w fun r w' => r = .returned (.int .i64 (pClass l s).2) ∧ ∃ R', Bt w w' b R R' (pClass l s).1 := by
  have HT := putText_any hB (by omega) s
  have hlen := putE_len l (txE s)
  unfold pClass
  generalize putE l (txE s) = X at *
  obtain ⟨xl, xi⟩ := X
  simp only at *
  replace HT := hid HT
  clear hB
  go_enter Try.func30, Try.ntmps30
  go_wp2_with fail
  refine HT.out.mono ?_
  rintro e w1 ⟨rfl, R1, hb1⟩
  have HP := put_any hb1.bd (by omega) (3, [], 0, xi, 0, 0)
  simp only [enV] at HP
  replace HP := hid HP
  go_wp2_with (go_at_call 35; refine HP.out.mono ?_; rintro e w2 ⟨rfl, R2, hb2⟩)
  go_ret
  exact ⟨rfl, R2, hb1.trans hb2⟩

theorem pClass_len (l : List En) (s : List UInt8) : l.length ≤ (pClass l s).1.length ∧ (pClass l s).1.length ≤ l.length + 2 := by
  have h1 := putE_len l (txE s)
  have h2 := putE_len (putE l (txE s)).1 (3, [], 0, (putE l (txE s)).2, 0, 0)
  unfold pClass
  omega

theorem pMem3_len (l : List En) (c n : List UInt8) : l.length ≤ (pMem3 l c n).1.length ∧ (pMem3 l c n).1.length ≤ l.length + 3 := by
  have h1 := pClass_len l c
  have h2 := putE_len (pClass l c).1 (txE n)
  unfold pMem3
  omega

theorem pMem4_len (l : List En) (c n t : List UInt8) : l.length ≤ (pMem4 l c n t).1.length ∧ (pMem4 l c n t).1.length ≤ l.length + 4 := by
  have h1 := pMem3_len l c n
  have h2 := putE_len (pMem3 l c n).1 (txE t)
  unfold pMem4
  omega

theorem pMember_len (l : List En) (kind : Int) (c n t : List UInt8) : l.length ≤ (pMember l kind c n t).1.length ∧ (pMember l kind c n t).1.length ≤ l.length + 5 := by
  have h1 := pMem4_len l c n t
  have h2 := putE_len (pMem4 l c n t).1 (kind, [], 0, (pClass l c).2, (pMem3 l c n).2, (pMem4 l c n t).2)
  unfold pMember
  omega

theorem pClass_pre (l : List En) (s : List UInt8) : ∃ r, (pClass l s).1 = l ++ r := by
  obtain ⟨r, hr⟩ := putE_pre l (txE s)
  obtain ⟨q, hq⟩ := putE_pre (putE l (txE s)).1 (3, [], 0, (putE l (txE s)).2, 0, 0)
  exact ⟨r ++ q, by unfold pClass; rw [hq, hr]; simp⟩

theorem pMember_pre (l : List En) (kind : Int) (c n t : List UInt8) : ∃ r, (pMember l kind c n t).1 = l ++ r := by
  obtain ⟨r, hr⟩ := pClass_pre l c
  obtain ⟨q, hq⟩ := putE_pre (pClass l c).1 (txE n)
  obtain ⟨u, hu⟩ := putE_pre (pMem3 l c n).1 (txE t)
  obtain ⟨v, hv⟩ := putE_pre (pMem4 l c n t).1 (kind, [], 0, (pClass l c).2, (pMem3 l c n).2, (pMem4 l c n t).2)
  refine ⟨r ++ (q ++ (u ++ v)), ?_⟩
  unfold pMember
  rw [hv]
  unfold pMem4
  rw [hu]
  unfold pMem3
  rw [hq, hr]
  simp

theorem EnW.put3 {w : World} {b : Nat} {k : Int} {t : List UInt8} {n x y z : Int} (h : EnW w b (k, t, n, x, y, z)) (v : Int) : EnW (w.setCell ⟨b, 3, none⟩ (.int .i64 v)) b (k, t, n, v, y, z) :=
  ⟨⟨by rw [cell_setCell_ne _ _ (by simp)]; exact h.c.c0, by rw [cell_setCell_ne _ _ (by simp)]; exact h.c.c1, by rw [cell_setCell_ne _ _ (by simp)]; exact h.c.c2, cell_setCell_same _ _ h.c.c3, by rw [cell_setCell_ne _ _ (by simp)]; exact h.c.c4, by rw [cell_setCell_ne _ _ (by simp)]; exact h.c.c5⟩, fun i hi => by rw [frozen_setCell]; exact h.f i hi⟩

theorem EnW.put4 {w : World} {b : Nat} {k : Int} {t : List UInt8} {n x y z : Int} (h : EnW w b (k, t, n, x, y, z)) (v : Int) : EnW (w.setCell ⟨b, 4, none⟩ (.int .i64 v)) b (k, t, n, x, v, z) :=
  ⟨⟨by rw [cell_setCell_ne _ _ (by simp)]; exact h.c.c0, by rw [cell_setCell_ne _ _ (by simp)]; exact h.c.c1, by rw [cell_setCell_ne _ _ (by simp)]; exact h.c.c2, by rw [cell_setCell_ne _ _ (by simp)]; exact h.c.c3, cell_setCell_same _ _ h.c.c4, by rw [cell_setCell_ne _ _ (by simp)]; exact h.c.c5⟩, fun i hi => by rw [frozen_setCell]; exact h.f i hi⟩

theorem EnW.put5 {w : World} {b : Nat} {k : Int} {t : List UInt8} {n x y z : Int} (h : EnW w b (k, t, n, x, y, z)) (v : Int) : EnW (w.setCell ⟨b, 5, none⟩ (.int .i64 v)) b (k, t, n, x, y, v) :=
  ⟨⟨by rw [cell_setCell_ne _ _ (by simp)]; exact h.c.c0, by rw [cell_setCell_ne _ _ (by simp)]; exact h.c.c1, by rw [cell_setCell_ne _ _ (by simp)]; exact h.c.c2, by rw [cell_setCell_ne _ _ (by simp)]; exact h.c.c3, by rw [cell_setCell_ne _ _ (by simp)]; exact h.c.c4, cell_setCell_same _ _ h.c.c5⟩, fun i hi => by rw [frozen_setCell]; exact h.f i hi⟩

theorem Bt.safe {w w' : World} {b : Nat} {R R' : Option Nat} {l' : List En} (h : Bt w w' b R R' l') {p : Nat} (hp : p < w.heap.size) (hn : p ∉ b :: R.toList) : p ∉ b :: R'.toList := by
  rcases h.row with e | ⟨g, e, hg⟩
  · rw [e]
    exact hn
  · rw [e]
    simp at hn ⊢
    exact ⟨hn.1, by omega⟩

/-- A store into a block that is not the builder's. -/
theorem Bt.set {w w' : World} {b : Nat} {R R' : Option Nat} {l' : List En} (h : Bt w w' b R R' l') {p : Addr} (hp : w.heap.size ≤ p.block) (hn : p.block ∉ b :: R'.toList) (u : Value) : Bt w (w'.setCell p u) b R R' l' := by
  simp at hn
  refine ⟨h.bd.only (S := [p.block]) ((Only.refl _ _).setCell (.inl (by simp)) _) (by simp; exact fun e => hn.1 e.symm) ?_, h.only.setCell (.inr hp) _, h.row⟩
  intro g hg
  simp
  rintro rfl
  exact hn.2 hg

set_option maxHeartbeats 400000 in
set_option maxRecDepth 100000 in
theorem putMember_any {w : World} {b : Nat} {R : Option Nat} {l : List En} (hB : Bd w b R l) (hl : l.length < 999980) (kind : Int) (c n t : List UInt8) :
    Calls Try.prog 32 #[.pointer (some ⟨b, 0, none⟩), .int .i64 kind, .string (str c), .string (str n), .string (str t)] w fun r w' => r = .returned (.int .i64 (pMember l kind c n t).2) ∧ ∃ R', Bt w w' b R R' (pMember l kind c n t).1 := by
  have o0 := (Only.refl [] w).alloc (.cells #[.int .i64 kind, .string ⟨#[]⟩, .int .i64 0, .int .i64 0, .int .i64 0, .int .i64 0] 43)
  have E0 := enW_new w (kind, [], 0, 0, 0, 0) 43
  have hB0 := hB.only o0 (by simp) (by simp)
  have l1 := pClass_len l c
  have l2 := pMem3_len l c n
  have l3 := pMem4_len l c n t
  have HC := putClass_any hB0 (by omega) c
  have e3 : pMem3 l c n = putE (pClass l c).1 (txE n) := rfl
  have e4 : pMem4 l c n t = putE (pMem3 l c n).1 (txE t) := rfl
  have e5 : pMember l kind c n t = putE (pMem4 l c n t).1 (kind, [], 0, (pClass l c).2, (pMem3 l c n).2, (pMem4 l c n t).2) := rfl
  generalize pMember l kind c n t = X5 at *
  generalize pMem4 l c n t = X4 at *
  generalize pMem3 l c n = X3 at *
  generalize pClass l c = X2 at *
  obtain ⟨x2, i2⟩ := X2
  obtain ⟨x3, i3⟩ := X3
  obtain ⟨x4, i4⟩ := X4
  simp only at *
  have hbn : b < w.heap.size := hB.lt
  have hrn := hB.row_lt
  replace e3 := hid e3
  replace e4 := hid e4
  replace e5 := hid e5
  replace HC := hid HC
  have hp0 : w.heap.size ∉ b :: R.toList := by
    simp
    refine ⟨by omega, fun h => ?_⟩
    have := hrn _ h
    omega
  have hq : w.heap.size < (w.alloc (.cells #[.int .i64 kind, .string ⟨#[]⟩, .int .i64 0, .int .i64 0, .int .i64 0, .int .i64 0] 43)).heap.size := by simp
  replace E0 := hid E0
  clear hB hB0
  go_enter Try.func32, Try.ntmps32
  go_wp2_with fail
  refine HC.out.mono ?_
  rintro e w1 ⟨rfl, R1, hb1⟩
  have E1 := hid (E0.out.only hb1.only hp0)
  have hp1 := hb1.safe hq hp0
  have hs1 := hb1.only.size
  have f3 := E1.out.f 3 (by omega)
  have e3' := E1.out.c.c3
  simp only [Nat.zero_add] at e3'
  have k1 := (Bt.first o0 hb1).set (p := ⟨w.heap.size, 3, none⟩) (Nat.le_refl _) hp1 (.int .i64 i2)
  have HT := hid (putText_any k1.bd (by omega) n)
  rw [← e3.out] at HT
  have E1' := hid (E1.out.put3 i2)
  replace k1 := hid k1
  go_wp2_with fail
  refine HT.out.mono ?_
  rintro e w2 ⟨rfl, R2, hb2⟩
  have E2 := hid (E1'.out.only hb2.only hp1)
  have hp2 := hb2.safe (p := w.heap.size) (by simp [World.setCell]; omega) hp1
  have hs2 := hb2.only.size
  have f4 := E2.out.f 4 (by omega)
  have e4' := E2.out.c.c4
  simp only [Nat.zero_add] at e4'
  clear f3 e3'
  have k2 := (k1.out.trans hb2).set (p := ⟨w.heap.size, 4, none⟩) (Nat.le_refl _) hp2 (.int .i64 i3)
  have HT2 := hid (putText_any k2.bd (by omega) t)
  rw [← e4.out] at HT2
  have E2' := hid (E2.out.put4 i3)
  replace k2 := hid k2
  go_wp2_with fail
  refine HT2.out.mono ?_
  rintro e w3 ⟨rfl, R3, hb3⟩
  have E3 := hid (E2'.out.only hb3.only hp2)
  have hp3 := hb3.safe (p := w.heap.size) (by simp [World.setCell] at hs2 ⊢; omega) hp2
  have f5 := E3.out.f 5 (by omega)
  clear f4 e4'
  obtain ⟨y0, y1, y2, y3, y4, y5⟩ := E3.out.c
  simp only [Nat.zero_add] at y0 y1 y2 y3 y4 y5
  have k3 := (k2.out.trans hb3).set (p := ⟨w.heap.size, 5, none⟩) (Nat.le_refl _) hp3 (.int .i64 i4)
  have HP := put_any k3.bd (by omega) (kind, [], 0, i2, i3, i4)
  rw [← e5.out] at HP
  simp only [enV] at HP
  replace HP := hid HP
  replace k3 := hid k3
  go_wp2_with fail
  refine HP.out.mono ?_
  rintro e w4 ⟨rfl, R4, hb4⟩
  go_wp2
  go_ret
  exact ⟨rfl, R4, k3.out.trans hb4⟩

theorem fit_any {w : World} {b : Nat} {R : Option Nat} {l : List En} (hB : Bd w b R l) (had : Nat) (hh : had ≤ l.length) (hl : l.length < 1000000) (i : Int) :
    Calls Try.prog 29 #[.pointer (some ⟨b, 0, none⟩), .int .i64 (had : Int), .int .i64 i] w fun r w' => r = .returned (.tuple #[.int .i64 (fitE had (l, i)).2.1, .int .i64 (fitE had (l, i)).2.2]) ∧ ∃ R', Bt w w' b R R' (fitE had (l, i)).1 := by
  have hx : ∃ x, x = fitE had (l, i) := ⟨_, rfl⟩
  obtain ⟨x, hx⟩ := hx
  rw [← hx]
  obtain ⟨ao, cap, hc, how, hR⟩ := hB.ex
  by_cases h : 4096 < l.length
  · have ex : x = (l.take had, 0, 4) := by rw [hx]; simp [fitE, h]
    subst ex
    have g1 : (4096 < (l.length : Int)) := by omega
    obtain ⟨_, hcap, hmx, hnn, hbl⟩ := ES.of_owns how
    have ht := owe_take how had hh
    have hf := hB.f
    have hlt := hB.lt
    have g2 : (had : Int) ≤ (cap : Int) := by omega
    have g3 : had ≤ cap := by omega
    have hne : ∀ a, ao = some a → a.block ≠ b := fun a ha e => hB.ne (by rw [hR, ha]; simp [e])
    have hlen : (l.take had).length = had := by simp; omega
    have hfin : Hid (∃ R', Bt w (w.setCell ⟨b, 0, none⟩ (.slice ao had cap)) b R R' (l.take had)) := by
      refine ⟨R, ⟨⟨ao, cap, by rw [hlen]; exact cell_setCell_same _ _ hc, ?_, hR⟩, by rw [frozen_setCell]; exact hf, hB.ne⟩, (Only.refl _ _).setCell (.inl (by simp)) _, .inl rfl⟩
      rw [hlen]
      refine owe_only (S := [b]) ht ((Only.refl _ _).setCell (.inl (by simp)) _) ?_
      intro k hk
      cases ao with
      | none => cases hk
      | some a =>
        simp [Value.ownBlock] at hk
        subst hk
        simpa using hne a rfl
    clear hx hB how ht hR hnn hbl hne hlen
    cases ao with
    | none =>
      go_enter Try.func29, Try.ntmps29
      go_wp2
      go_ret2
      exact ⟨rfl, hfin.out⟩
    | some a =>
      go_enter Try.func29, Try.ntmps29
      go_wp2
      go_ret2
      exact ⟨rfl, hfin.out⟩
  · have ex : x = (l, i, 0) := by rw [hx]; simp [fitE, h]
    subst ex
    have g1 : ¬ (4096 < (l.length : Int)) := by omega
    clear hx how hR
    replace hB := hid hB
    go_enter Try.func29, Try.ntmps29
    go_wp2
    go_ret2
    exact ⟨rfl, R, Bt.refl hB.out⟩

end Go.Proofs.Ytcdjddakdlflmab
