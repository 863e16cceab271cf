/-
  What the proof leans on, part 26 of 28. The conditions stand in each theorem.
-/
import Derived.Test.YtildemmkhndhjaaGreatDoorB23
import Derived.Test.YtildemmkhndhjaaGreatDoorB18
import Derived.Test.YtildemmkhndhjaaGreatDoorB25
import Derived.Test.YtildemmkhndhjaaGreatDoorB10
import Derived.Deep.DeepCutAuto
namespace Go.Proofs.YtildemmkhndhjaaGreatDoor
open Go.RowKit

theorem out_at {α : Type} {P : Nat → Pr α} {t t' : St} {x : α} {a : Nat} (ha : ∀ u, t = .inr u → a = u.2) (h : Out (P a) t x t') : Out (fun r => P r.2 r) t x t' := by
 unfold Out at h ⊢
 cases t with
 | inl f => exact h
 | inr u =>
  have := ha u rfl
  subst this
  exact h

theorem out_fail {α : Type} (a : Nat) (e : Int) (t : St) (x : α) : Out (pFail a e) t x (tRefuse (a : Int) e t) := by
 unfold Out
 cases t with
 | inl f => rfl
 | inr u => rfl

/-- What is read behind an entry's kind. -/
def entryF (a k : Nat) : Pr En :=
 if k = 1 then pBind pText fun s => pDone (1, s, 0, 0, 0, 0)
 else if k = 2 then pBind pN8 fun n => pDone (2, [], n, 0, 0, 0)
 else if k = 3 ∨ k = 4 then pBind (pU 2) fun a => pDone ((k : Int), [], 0, (a : Int), 0, 0)
 else if k = 5 ∨ k = 6 then pBind (pU 2) fun a => pBind (pU 2) fun b => pBind (pU 2) fun c => pDone ((k : Int), [], 0, (a : Int), (b : Int), (c : Int))
 else pFail a 3

theorem out_entry {t t1 t2 : St} {x : En} {a n : Nat} (ha : ∀ u, t = .inr u → a = u.2) (h : Out (pU 1) t n t1) (h2 : Out (entryF a n) t1 x t2) : Out pEntry t x t2 :=
 out_at (P := fun a => pBind (pU 1) (entryF a)) ha (out_bind h h2)

/-- The six cells of an entry's block. -/
structure En6 (w : World) (b : Nat) (v0 v1 v2 v3 v4 v5 : Value) : Prop where
 c0 : w.cell? ⟨b, 0, none⟩ = some v0
 c1 : w.cell? ⟨b, 1, none⟩ = some v1
 c2 : w.cell? ⟨b, 2, none⟩ = some v2
 c3 : w.cell? ⟨b, 3, none⟩ = some v3
 c4 : w.cell? ⟨b, 4, none⟩ = some v4
 c5 : w.cell? ⟨b, 5, none⟩ = some v5
 f0 : w.frozen? ⟨b, 0, none⟩ = false
 f1 : w.frozen? ⟨b, 1, none⟩ = false
 f2 : w.frozen? ⟨b, 2, none⟩ = false
 f3 : w.frozen? ⟨b, 3, none⟩ = false
 f4 : w.frozen? ⟨b, 4, none⟩ = false
 f5 : w.frozen? ⟨b, 5, none⟩ = false

theorem En6.only {w w' : World} {S : List Nat} {b : Nat} {v0 v1 v2 v3 v4 v5 : Value} (h : En6 w b v0 v1 v2 v3 v4 v5) (ho : Only S w w') (hb : b ∉ S) : En6 w' b v0 v1 v2 v3 v4 v5 := by
 have hl := World.block_lt_of_cell? w _ h.c0
 exact ⟨(ho.cell (p := ⟨b, 0, none⟩) hl hb).trans h.c0, (ho.cell (p := ⟨b, 1, none⟩) hl hb).trans h.c1, (ho.cell (p := ⟨b, 2, none⟩) hl hb).trans h.c2, (ho.cell (p := ⟨b, 3, none⟩) hl hb).trans h.c3, (ho.cell (p := ⟨b, 4, none⟩) hl hb).trans h.c4, (ho.cell (p := ⟨b, 5, none⟩) hl hb).trans h.c5,
  (ho.frozen (p := ⟨b, 0, none⟩) hl hb).trans h.f0, (ho.frozen (p := ⟨b, 1, none⟩) hl hb).trans h.f1, (ho.frozen (p := ⟨b, 2, none⟩) hl hb).trans h.f2, (ho.frozen (p := ⟨b, 3, none⟩) hl hb).trans h.f3, (ho.frozen (p := ⟨b, 4, none⟩) hl hb).trans h.f4, (ho.frozen (p := ⟨b, 5, none⟩) hl hb).trans h.f5⟩

theorem en6_new (w : World) (v0 v1 v2 v3 v4 v5 : Value) (t : TypeId) : En6 (w.alloc (.cells #[v0, v1, v2, v3, v4, v5] t)) w.heap.size v0 v1 v2 v3 v4 v5 :=
 ⟨by rw [cell_new]; rfl, by rw [cell_new]; rfl, by rw [cell_new]; rfl, by rw [cell_new]; rfl, by rw [cell_new]; rfl, by rw [cell_new]; rfl, frozen_new _ _ _ _, frozen_new _ _ _ _, frozen_new _ _ _ _, frozen_new _ _ _ _, frozen_new _ _ _ _, frozen_new _ _ _ _⟩

theorem En6.put1 {w : World} {b : Nat} {v0 v1 v2 v3 v4 v5 : Value} (h : En6 w b v0 v1 v2 v3 v4 v5) (u : Value) : En6 (w.setCell ⟨b, 1, none⟩ u) b v0 u v2 v3 v4 v5 :=
 ⟨(cell_setCell_ne _ _ (by simp)).trans h.c0, cell_setCell_same _ _ h.c1, (cell_setCell_ne _ _ (by simp)).trans h.c2, (cell_setCell_ne _ _ (by simp)).trans h.c3, (cell_setCell_ne _ _ (by simp)).trans h.c4, (cell_setCell_ne _ _ (by simp)).trans h.c5, (frozen_setCell _ _ _ _).trans h.f0, (frozen_setCell _ _ _ _).trans h.f1, (frozen_setCell _ _ _ _).trans h.f2, (frozen_setCell _ _ _ _).trans h.f3, (frozen_setCell _ _ _ _).trans h.f4, (frozen_setCell _ _ _ _).trans h.f5⟩

theorem En6.put2 {w : World} {b : Nat} {v0 v1 v2 v3 v4 v5 : Value} (h : En6 w b v0 v1 v2 v3 v4 v5) (u : Value) : En6 (w.setCell ⟨b, 2, none⟩ u) b v0 v1 u v3 v4 v5 :=
 ⟨(cell_setCell_ne _ _ (by simp)).trans h.c0, (cell_setCell_ne _ _ (by simp)).trans h.c1, cell_setCell_same _ _ h.c2, (cell_setCell_ne _ _ (by simp)).trans h.c3, (cell_setCell_ne _ _ (by simp)).trans h.c4, (cell_setCell_ne _ _ (by simp)).trans h.c5, (frozen_setCell _ _ _ _).trans h.f0, (frozen_setCell _ _ _ _).trans h.f1, (frozen_setCell _ _ _ _).trans h.f2, (frozen_setCell _ _ _ _).trans h.f3, (frozen_setCell _ _ _ _).trans h.f4, (frozen_setCell _ _ _ _).trans h.f5⟩

theorem En6.put3 {w : World} {b : Nat} {v0 v1 v2 v3 v4 v5 : Value} (h : En6 w b v0 v1 v2 v3 v4 v5) (u : Value) : En6 (w.setCell ⟨b, 3, none⟩ u) b v0 v1 v2 u v4 v5 :=
 ⟨(cell_setCell_ne _ _ (by simp)).trans h.c0, (cell_setCell_ne _ _ (by simp)).trans h.c1, (cell_setCell_ne _ _ (by simp)).trans h.c2, cell_setCell_same _ _ h.c3, (cell_setCell_ne _ _ (by simp)).trans h.c4, (cell_setCell_ne _ _ (by simp)).trans h.c5, (frozen_setCell _ _ _ _).trans h.f0, (frozen_setCell _ _ _ _).trans h.f1, (frozen_setCell _ _ _ _).trans h.f2, (frozen_setCell _ _ _ _).trans h.f3, (frozen_setCell _ _ _ _).trans h.f4, (frozen_setCell _ _ _ _).trans h.f5⟩

theorem En6.put4 {w : World} {b : Nat} {v0 v1 v2 v3 v4 v5 : Value} (h : En6 w b v0 v1 v2 v3 v4 v5) (u : Value) : En6 (w.setCell ⟨b, 4, none⟩ u) b v0 v1 v2 v3 u v5 :=
 ⟨(cell_setCell_ne _ _ (by simp)).trans h.c0, (cell_setCell_ne _ _ (by simp)).trans h.c1, (cell_setCell_ne _ _ (by simp)).trans h.c2, (cell_setCell_ne _ _ (by simp)).trans h.c3, cell_setCell_same _ _ h.c4, (cell_setCell_ne _ _ (by simp)).trans h.c5, (frozen_setCell _ _ _ _).trans h.f0, (frozen_setCell _ _ _ _).trans h.f1, (frozen_setCell _ _ _ _).trans h.f2, (frozen_setCell _ _ _ _).trans h.f3, (frozen_setCell _ _ _ _).trans h.f4, (frozen_setCell _ _ _ _).trans h.f5⟩

theorem En6.put5 {w : World} {b : Nat} {v0 v1 v2 v3 v4 v5 : Value} (h : En6 w b v0 v1 v2 v3 v4 v5) (u : Value) : En6 (w.setCell ⟨b, 5, none⟩ u) b v0 v1 v2 v3 v4 u :=
 ⟨(cell_setCell_ne _ _ (by simp)).trans h.c0, (cell_setCell_ne _ _ (by simp)).trans h.c1, (cell_setCell_ne _ _ (by simp)).trans h.c2, (cell_setCell_ne _ _ (by simp)).trans h.c3, (cell_setCell_ne _ _ (by simp)).trans h.c4, cell_setCell_same _ _ h.c5, (frozen_setCell _ _ _ _).trans h.f0, (frozen_setCell _ _ _ _).trans h.f1, (frozen_setCell _ _ _ _).trans h.f2, (frozen_setCell _ _ _ _).trans h.f3, (frozen_setCell _ _ _ _).trans h.f4, (frozen_setCell _ _ _ _).trans h.f5⟩

set_option maxHeartbeats 8000000 in
theorem rentry_any {w : World} {sb r d : Nat} {t : St} (h : Sc w sb r d t) :
  Calls Tryz.prog 78 #[.pointer (some ⟨sb, 0, none⟩)] w fun e w' => ∃ (x : En) (t' : St), e = .returned (enV x) ∧ (x.2.1.length ≤ 262144 ∧ -9223372036854775808 ≤ x.2.2.1 ∧ x.2.2.1 ≤ 9223372036854775807) ∧ Sc w' sb r d t' ∧ Out pEntry t x t' ∧ Only [sb, r] w w' := by
 have o0 := hid ((Only.refl [sb, r] w).alloc (.cells #[.int .i64 0, .string ⟨#[]⟩, .int .i64 0, .int .i64 0, .int .i64 0, .int .i64 0] 90))
 have h0 := h.only0 ((Only.refl [] w).alloc (.cells #[.int .i64 0, .string ⟨#[]⟩, .int .i64 0, .int .i64 0, .int .i64 0, .int .i64 0] 90))
 have hl := h.lt
 clear h
 have R0 := hid (en6_new w (.int .i64 0) (.string ⟨#[]⟩) (.int .i64 0) (.int .i64 0) (.int .i64 0) (.int .i64 0) 90)
 have c0 := h0.c0
 have HA := hid (sc_at h0)
 have HU := hid (sc_u1 h0)
 go_enter Tryz.func78, Tryz.ntmps78
 go_wp2_with fail
 refine HA.out.mono ?_
 rintro e wx ⟨at_, rfl, hat, rfl⟩
 clear HA
 go_wp2_with fail
 refine HU.out.mono ?_
 rintro e w1 ⟨n, t1, rfl, hn, h1, hO, ho1⟩
 obtain ⟨kk, hkk⟩ : ∃ kk : Int, (n : Int) = kk := ⟨_, rfl⟩
 rw [hkk]
 replace hkk := hid hkk
 have o1 := hid (o0.out.trans ho1 (by simp))
 have R1a := R0.out.only ho1 (by simp; omega)
 have hsz : w.heap.size < w1.heap.size := Nat.lt_of_lt_of_le (by simp) ho1.size
 have oA := (Only.refl [] w1).alloc (.cells #[.int .i64 kk, .string ⟨#[]⟩, .int .i64 0, .int .i64 0, .int .i64 0, .int .i64 0] 90)
 have hW1 := h1.only0 oA
 have L1 := hid (en6_new w1 (.int .i64 kk) (.string ⟨#[]⟩) (.int .i64 0) (.int .i64 0) (.int .i64 0) (.int .i64 0) 90)
 have R1 := hid (R1a.only oA (by simp))
 have oW1 := hid (o1.out.next oA (by simp))
 have cW := hW1.c0
 have hl1 := h1.lt
 replace hO := hid hO
 replace hat := hid hat
 clear R1a c0
 clear HU R0 h1 o0 ho1
 by_cases k1 : kk = 1
 ·subst k1
  have hk := hkk.out
  obtain rfl : n = 1 := by omega
  clear hk hkk
  have HV := hid (sc_text hW1)
  go_wp2_with fail
  refine HV.out.mono ?_
  rintro e w2 ⟨x, t2, rfl, hx, hs2, hO2, ho2⟩
  clear HV
  have hL2 := L1.out.only ho2 (by simp; omega)
  have hR2 := R1.out.only ho2 (by simp; omega)
  have hL2h := hid hL2
  obtain ⟨j0, j1, j2, j3, j4, j5, y0, y1, y2, y3, y4, y5⟩ := hL2
  have hL3 := hL2h.out.put1 (.string (str x))
  have oL : Only [w1.heap.size] w2 (w2.setCell ⟨w1.heap.size, 1, none⟩ (.string (str x))) := (Only.refl [w1.heap.size] w2).setCell (.inl (by simp)) _
  have hR3 := hR2.only oL (by simp; omega)
  have hS3 := hs2.other (rv := w1.heap.size) (by simp) (.inr (.inl j1)) (by have := ho2.size; omega) oL
  have on3 := (oW1.out.trans ho2 (by simp)).next oL (by simp; omega)
  have hout : Out pEntry t (1, x, 0, 0, 0, 0) t2 := out_entry hat.out hO.out (by unfold entryF; rw [if_pos rfl]; exact out_bind hO2 (out_done _ _))
  replace hL3 := hid hL3
  replace hR3 := hid hR3
  replace hS3 := hid hS3
  replace on3 := hid on3
  replace hout := hid hout
  clear hL2h hR2
  obtain ⟨l0, l1, l2, l3, l4, l5, _, _, _, _, _, _⟩ := hL3.out
  obtain ⟨e0, e1, e2, e3, e4, e5, z0, z1, z2, z3, z4, z5⟩ := hR3.out
  go_wp2_with fail
  refine bodyPost_ret (v := enV (1, x, 0, 0, 0, 0)) (by simp [results, Tryz.results78, go_sem, e0, e1, e2, e3, e4, e5, enV] <;> rfl) rfl ?_
  refine ⟨(1, x, 0, 0, 0, 0), _, rfl, ⟨hx, by simp, by simp⟩, (hS3.out).other (rv := w.heap.size) (by simp) (.inr (.inl e1)) (by omega) ?_, hout.out, (on3.out).next (S' := [w.heap.size]) ?_ (by simp)⟩
  all_goals exact ((((((Only.refl [w.heap.size] _).setCell (.inl (by simp)) _).setCell (.inl (by simp)) _).setCell (.inl (by simp)) _).setCell (.inl (by simp)) _).setCell (.inl (by simp)) _).setCell (.inl (by simp)) _
 have k1' : (kk == 1) = false := by simpa using k1
 by_cases k2 : kk = 2
 ·subst k2
  have hk := hkk.out
  obtain rfl : n = 2 := by omega
  clear hk hkk
  have HV := hid (sc_n8 hW1)
  go_wp2_with fail
  refine HV.out.mono ?_
  rintro e w2 ⟨x, t2, rfl, hx, hs2, hO2, ho2⟩
  clear HV
  have hL2 := L1.out.only ho2 (by simp; omega)
  have hR2 := R1.out.only ho2 (by simp; omega)
  have hL2h := hid hL2
  obtain ⟨j0, j1, j2, j3, j4, j5, y0, y1, y2, y3, y4, y5⟩ := hL2
  have hL3 := hL2h.out.put2 (.int .i64 x)
  have oL : Only [w1.heap.size] w2 (w2.setCell ⟨w1.heap.size, 2, none⟩ (.int .i64 x)) := (Only.refl [w1.heap.size] w2).setCell (.inl (by simp)) _
  have hR3 := hR2.only oL (by simp; omega)
  have hS3 := hs2.other (rv := w1.heap.size) (by simp) (.inr (.inl j1)) (by have := ho2.size; omega) oL
  have on3 := (oW1.out.trans ho2 (by simp)).next oL (by simp; omega)
  have hout : Out pEntry t (2, [], x, 0, 0, 0) t2 := out_entry hat.out hO.out (by unfold entryF; rw [if_neg (by decide), if_pos rfl]; exact out_bind hO2 (out_done _ _))
  replace hL3 := hid hL3
  replace hR3 := hid hR3
  replace hS3 := hid hS3
  replace on3 := hid on3
  replace hout := hid hout
  clear hL2h hR2
  obtain ⟨l0, l1, l2, l3, l4, l5, _, _, _, _, _, _⟩ := hL3.out
  obtain ⟨e0, e1, e2, e3, e4, e5, z0, z1, z2, z3, z4, z5⟩ := hR3.out
  go_wp2_with fail
  refine bodyPost_ret (v := enV (2, [], x, 0, 0, 0)) (by simp [results, Tryz.results78, go_sem, e0, e1, e2, e3, e4, e5, enV] <;> rfl) rfl ?_
  refine ⟨(2, [], x, 0, 0, 0), _, rfl, ⟨by simp, hx.1, hx.2⟩, (hS3.out).other (rv := w.heap.size) (by simp) (.inr (.inl e1)) (by omega) ?_, hout.out, (on3.out).next (S' := [w.heap.size]) ?_ (by simp)⟩
  all_goals exact ((((((Only.refl [w.heap.size] _).setCell (.inl (by simp)) _).setCell (.inl (by simp)) _).setCell (.inl (by simp)) _).setCell (.inl (by simp)) _).setCell (.inl (by simp)) _).setCell (.inl (by simp)) _
 have k2' : (kk == 2) = false := by simpa using k2
 by_cases k3 : kk = 3
 ·subst k3
  have hk := hkk.out
  obtain rfl : n = 3 := by omega
  clear hk hkk
  have HV := hid (sc_u2 hW1)
  go_wp2_with fail
  refine HV.out.mono ?_
  rintro e w2 ⟨x, t2, rfl, hx, hs2, hO2, ho2⟩
  clear HV
  have hL2 := L1.out.only ho2 (by simp; omega)
  have hR2 := R1.out.only ho2 (by simp; omega)
  have hL2h := hid hL2
  obtain ⟨j0, j1, j2, j3, j4, j5, y0, y1, y2, y3, y4, y5⟩ := hL2
  have hL3 := hL2h.out.put3 (.int .i64 (x : Int))
  have oL : Only [w1.heap.size] w2 (w2.setCell ⟨w1.heap.size, 3, none⟩ (.int .i64 (x : Int))) := (Only.refl [w1.heap.size] w2).setCell (.inl (by simp)) _
  have hR3 := hR2.only oL (by simp; omega)
  have hS3 := hs2.other (rv := w1.heap.size) (by simp) (.inr (.inl j1)) (by have := ho2.size; omega) oL
  have on3 := (oW1.out.trans ho2 (by simp)).next oL (by simp; omega)
  have hout : Out pEntry t (3, [], 0, (x : Int), 0, 0) t2 := out_entry hat.out hO.out (by unfold entryF; rw [if_neg (by decide), if_neg (by decide), if_pos (by decide)]; exact out_bind hO2 (out_done _ _))
  replace hL3 := hid hL3
  replace hR3 := hid hR3
  replace hS3 := hid hS3
  replace on3 := hid on3
  replace hout := hid hout
  clear hL2h hR2
  obtain ⟨l0, l1, l2, l3, l4, l5, _, _, _, _, _, _⟩ := hL3.out
  obtain ⟨e0, e1, e2, e3, e4, e5, z0, z1, z2, z3, z4, z5⟩ := hR3.out
  go_wp2_with fail
  refine bodyPost_ret (v := enV (3, [], 0, (x : Int), 0, 0)) (by simp [results, Tryz.results78, go_sem, e0, e1, e2, e3, e4, e5, enV] <;> rfl) rfl ?_
  refine ⟨(3, [], 0, (x : Int), 0, 0), _, rfl, ⟨by simp, by simp, by simp⟩, (hS3.out).other (rv := w.heap.size) (by simp) (.inr (.inl e1)) (by omega) ?_, hout.out, (on3.out).next (S' := [w.heap.size]) ?_ (by simp)⟩
  all_goals exact ((((((Only.refl [w.heap.size] _).setCell (.inl (by simp)) _).setCell (.inl (by simp)) _).setCell (.inl (by simp)) _).setCell (.inl (by simp)) _).setCell (.inl (by simp)) _).setCell (.inl (by simp)) _
 have k3' : (kk == 3) = false := by simpa using k3
 by_cases k4 : kk = 4
 ·subst k4
  have hk := hkk.out
  obtain rfl : n = 4 := by omega
  clear hk hkk
  have HV := hid (sc_u2 hW1)
  go_wp2_with fail
  refine HV.out.mono ?_
  rintro e w2 ⟨x, t2, rfl, hx, hs2, hO2, ho2⟩
  clear HV
  have hL2 := L1.out.only ho2 (by simp; omega)
  have hR2 := R1.out.only ho2 (by simp; omega)
  have hL2h := hid hL2
  obtain ⟨j0, j1, j2, j3, j4, j5, y0, y1, y2, y3, y4, y5⟩ := hL2
  have hL3 := hL2h.out.put3 (.int .i64 (x : Int))
  have oL : Only [w1.heap.size] w2 (w2.setCell ⟨w1.heap.size, 3, none⟩ (.int .i64 (x : Int))) := (Only.refl [w1.heap.size] w2).setCell (.inl (by simp)) _
  have hR3 := hR2.only oL (by simp; omega)
  have hS3 := hs2.other (rv := w1.heap.size) (by simp) (.inr (.inl j1)) (by have := ho2.size; omega) oL
  have on3 := (oW1.out.trans ho2 (by simp)).next oL (by simp; omega)
  have hout : Out pEntry t (4, [], 0, (x : Int), 0, 0) t2 := out_entry hat.out hO.out (by unfold entryF; rw [if_neg (by decide), if_neg (by decide), if_pos (by decide)]; exact out_bind hO2 (out_done _ _))
  replace hL3 := hid hL3
  replace hR3 := hid hR3
  replace hS3 := hid hS3
  replace on3 := hid on3
  replace hout := hid hout
  clear hL2h hR2
  obtain ⟨l0, l1, l2, l3, l4, l5, _, _, _, _, _, _⟩ := hL3.out
  obtain ⟨e0, e1, e2, e3, e4, e5, z0, z1, z2, z3, z4, z5⟩ := hR3.out
  go_wp2_with fail
  refine bodyPost_ret (v := enV (4, [], 0, (x : Int), 0, 0)) (by simp [results, Tryz.results78, go_sem, e0, e1, e2, e3, e4, e5, enV] <;> rfl) rfl ?_
  refine ⟨(4, [], 0, (x : Int), 0, 0), _, rfl, ⟨by simp, by simp, by simp⟩, (hS3.out).other (rv := w.heap.size) (by simp) (.inr (.inl e1)) (by omega) ?_, hout.out, (on3.out).next (S' := [w.heap.size]) ?_ (by simp)⟩
  all_goals exact ((((((Only.refl [w.heap.size] _).setCell (.inl (by simp)) _).setCell (.inl (by simp)) _).setCell (.inl (by simp)) _).setCell (.inl (by simp)) _).setCell (.inl (by simp)) _).setCell (.inl (by simp)) _
 have k4' : (kk == 4) = false := by simpa using k4
 by_cases k56 : kk = 5 ∨ kk = 6
 ·have hnk : Hid (n = 5 ∨ n = 6) := by
   have := hkk.out
   rcases k56 with e | e
   ·exact .inl (by omega)
   ·exact .inr (by omega)
  obtain ⟨rv, hrv⟩ : ∃ rv, rv = w1.heap.size := ⟨_, rfl⟩
  have hr : rv ≠ sb ∧ rv ≠ r := by omega
  have hw : w.heap.size ≤ rv := by omega
  obtain ⟨gv, hgv⟩ := gv_ex rv
  replace hgv := hid hgv
  have hk := knew6 hgv.out hW1.c0 oW1.out (by subst hrv; exact L1.out.c0) (by subst hrv; exact L1.out.c1) (by subst hrv; exact L1.out.c2) (by subst hrv; exact L1.out.c3) (by subst hrv; exact L1.out.c4) (by subst hrv; exact L1.out.c5) (by subst hrv; exact L1.out.f0) (by subst hrv; exact L1.out.f1) (by subst hrv; exact L1.out.f2) (by subst hrv; exact L1.out.f3) (by subst hrv; exact L1.out.f4) (by subst hrv; exact L1.out.f5)
  replace hk := hid hk
  replace hrv := hid hrv
  have L1' : Hid (En6 (w1.alloc (.cells #[.int .i64 kk, .string ⟨#[]⟩, .int .i64 0, .int .i64 0, .int .i64 0, .int .i64 0] 90)) rv (.int .i64 kk) (.string ⟨#[]⟩) (.int .i64 0) (.int .i64 0) (.int .i64 0) (.int .i64 0)) := by
   rw [hrv.out]
   exact L1.out
  have hkv : Hid ((n : Int) = kk) := hkk
  have hrw : Hid (rv ≠ w.heap.size ∧ rv ≠ d) := by
   have := hrv.out
   exact ⟨by omega, by omega⟩
  clear hkk L1
  have hfin : ∀ (W : World), True := fun _ => trivial
  rcases k56 with rfl | rfl
  ·have hdum := trivial
   go_wp2_with fail
   rw [← hrv.out]
   go_region_held3 (fun w' => w'.cell? ⟨sb, 0, none⟩ = some (.pointer (some ⟨r, 0, none⟩)) ∧ Only [sb, r] w w' ∧ w'.cell? ⟨rv, 0, none⟩ = some (gv 0 w') ∧ w'.cell? ⟨rv, 1, none⟩ = some (gv 1 w') ∧ w'.cell? ⟨rv, 2, none⟩ = some (gv 2 w') ∧ w'.cell? ⟨rv, 3, none⟩ = some (gv 3 w') ∧ w'.cell? ⟨rv, 4, none⟩ = some (gv 4 w') ∧ w'.cell? ⟨rv, 5, none⟩ = some (gv 5 w') ∧ w'.frozen? ⟨rv, 0, none⟩ = false ∧ w'.frozen? ⟨rv, 1, none⟩ = false ∧ w'.frozen? ⟨rv, 2, none⟩ = false ∧ w'.frozen? ⟨rv, 3, none⟩ = false ∧ w'.frozen? ⟨rv, 4, none⟩ = false ∧ w'.frozen? ⟨rv, 5, none⟩ = false)
    (first | (with_reducible exact hk.out) | (with_reducible exact kdrew6 hgv.out hk.out) | ((with_reducible refine kset6 hgv.out hr hw _ _ ?_); (with_reducible assumption)) | (with_reducible exact kcall6 hgv.out hr (by assumption) (by assumption) (by assumption) (by simp)))
    (first
     | (go_at_call 77; (first | (with_reducible refine (sc_u2 (by assumption)).mono ?_) | (with_reducible refine (sc_u2 (Sc.drew (by assumption))).mono ?_)); rintro e w1 ⟨m, t', rfl, hm, hs, hO2, ho⟩; obtain ⟨_, _, k0, k1, k2, k3, k4, k5, z0, z1, z2, z3, z4, z5⟩ := kcall6 hgv.out hr (by assumption) hs ho (by simp)))
   rename_i wa ma ta hma hsa hOa hoa _ _ _ _ _ _ _ _ _ _ _ _ _ _ wb mb tb hmb hsb hOb hob _ _ _ _ _ _ _ _ _ _ _ _ _ _ _ oc hH
   clear hH k0 k1 k2 k3 k4 k5 z0 z1 z2 z3 z4 z5
   have hall := (((Only.refl [r] _).drew.trans hoa (by simp)).trans hob (by simp)).trans ho (by simp)
   have hn0 := hrw.out
   have L2 := L1'.out.only hall (by simp [hr.2])
   have R2 := R1.out.only hall (by simp; omega)
   have oS : Only [rv] w1 (((w1.setCell ⟨rv, 3, none⟩ (.int .i64 (ma : Int))).setCell ⟨rv, 4, none⟩ (.int .i64 (mb : Int))).setCell ⟨rv, 5, none⟩ (.int .i64 (m : Int))) := (((Only.refl [rv] w1).setCell (.inl (by simp)) _).setCell (.inl (by simp)) _).setCell (.inl (by simp)) _
   have hL3 := hid (((L2.put3 (.int .i64 (ma : Int))).put4 (.int .i64 (mb : Int))).put5 (.int .i64 (m : Int)))
   have hR3 := hid (R2.only oS (by simp; omega))
   have hS3 := hid (hs.other (rv := rv) (by simp) (.inr (.inl L2.c1)) ⟨hr.1, hr.2, hn0.2⟩ oS)
   have on3 := hid (oc.next oS (by simp; omega))
   have hout : Hid (Out pEntry t (5, [], 0, (ma : Int), (mb : Int), (m : Int)) t') := out_entry hat.out hO.out (by
    have e1 := hkv.out
    unfold entryF
    rw [if_neg (by omega), if_neg (by omega), if_neg (by omega), if_pos hnk.out, e1]
    exact out_bind hOa (out_bind hOb (out_bind hO2 (out_done _ _))))
   clear L2 R2
   obtain ⟨l0, l1, l2, l3, l4, l5, _, _, _, _, _, _⟩ := hL3.out
   obtain ⟨e0, e1, e2, e3, e4, e5, z0, z1, z2, z3, z4, z5⟩ := hR3.out
   go_wp2_with fail
   refine bodyPost_ret (v := enV (5, [], 0, (ma : Int), (mb : Int), (m : Int))) (by simp [results, Tryz.results78, go_sem, e0, e1, e2, e3, e4, e5, enV] <;> rfl) rfl ?_
   refine ⟨(5, [], 0, (ma : Int), (mb : Int), (m : Int)), _, rfl, ⟨by simp, by simp, by simp⟩, (hS3.out).other (rv := w.heap.size) (by simp) (.inr (.inl e1)) (by omega) ?_, hout.out, (on3.out).next (S' := [w.heap.size]) ?_ (by simp)⟩
   all_goals exact ((((((Only.refl [w.heap.size] _).setCell (.inl (by simp)) _).setCell (.inl (by simp)) _).setCell (.inl (by simp)) _).setCell (.inl (by simp)) _).setCell (.inl (by simp)) _).setCell (.inl (by simp)) _
  ·have hdum := trivial
   go_wp2_with fail
   rw [← hrv.out]
   go_region_held3 (fun w' => w'.cell? ⟨sb, 0, none⟩ = some (.pointer (some ⟨r, 0, none⟩)) ∧ Only [sb, r] w w' ∧ w'.cell? ⟨rv, 0, none⟩ = some (gv 0 w') ∧ w'.cell? ⟨rv, 1, none⟩ = some (gv 1 w') ∧ w'.cell? ⟨rv, 2, none⟩ = some (gv 2 w') ∧ w'.cell? ⟨rv, 3, none⟩ = some (gv 3 w') ∧ w'.cell? ⟨rv, 4, none⟩ = some (gv 4 w') ∧ w'.cell? ⟨rv, 5, none⟩ = some (gv 5 w') ∧ w'.frozen? ⟨rv, 0, none⟩ = false ∧ w'.frozen? ⟨rv, 1, none⟩ = false ∧ w'.frozen? ⟨rv, 2, none⟩ = false ∧ w'.frozen? ⟨rv, 3, none⟩ = false ∧ w'.frozen? ⟨rv, 4, none⟩ = false ∧ w'.frozen? ⟨rv, 5, none⟩ = false)
    (first | (with_reducible exact hk.out) | (with_reducible exact kdrew6 hgv.out hk.out) | ((with_reducible refine kset6 hgv.out hr hw _ _ ?_); (with_reducible assumption)) | (with_reducible exact kcall6 hgv.out hr (by assumption) (by assumption) (by assumption) (by simp)))
    (first
     | (go_at_call 77; (first | (with_reducible refine (sc_u2 (by assumption)).mono ?_) | (with_reducible refine (sc_u2 (Sc.drew (by assumption))).mono ?_)); rintro e w1 ⟨m, t', rfl, hm, hs, hO2, ho⟩; obtain ⟨_, _, k0, k1, k2, k3, k4, k5, z0, z1, z2, z3, z4, z5⟩ := kcall6 hgv.out hr (by assumption) hs ho (by simp)))
   rename_i wa ma ta hma hsa hOa hoa _ _ _ _ _ _ _ _ _ _ _ _ _ _ wb mb tb hmb hsb hOb hob _ _ _ _ _ _ _ _ _ _ _ _ _ _ _ oc hH
   clear hH k0 k1 k2 k3 k4 k5 z0 z1 z2 z3 z4 z5
   have hall := (((Only.refl [r] _).drew.trans hoa (by simp)).trans hob (by simp)).trans ho (by simp)
   have hn0 := hrw.out
   have L2 := L1'.out.only hall (by simp [hr.2])
   have R2 := R1.out.only hall (by simp; omega)
   have oS : Only [rv] w1 (((w1.setCell ⟨rv, 3, none⟩ (.int .i64 (ma : Int))).setCell ⟨rv, 4, none⟩ (.int .i64 (mb : Int))).setCell ⟨rv, 5, none⟩ (.int .i64 (m : Int))) := (((Only.refl [rv] w1).setCell (.inl (by simp)) _).setCell (.inl (by simp)) _).setCell (.inl (by simp)) _
   have hL3 := hid (((L2.put3 (.int .i64 (ma : Int))).put4 (.int .i64 (mb : Int))).put5 (.int .i64 (m : Int)))
   have hR3 := hid (R2.only oS (by simp; omega))
   have hS3 := hid (hs.other (rv := rv) (by simp) (.inr (.inl L2.c1)) ⟨hr.1, hr.2, hn0.2⟩ oS)
   have on3 := hid (oc.next oS (by simp; omega))
   have hout : Hid (Out pEntry t (6, [], 0, (ma : Int), (mb : Int), (m : Int)) t') := out_entry hat.out hO.out (by
    have e1 := hkv.out
    unfold entryF
    rw [if_neg (by omega), if_neg (by omega), if_neg (by omega), if_pos hnk.out, e1]
    exact out_bind hOa (out_bind hOb (out_bind hO2 (out_done _ _))))
   clear L2 R2
   obtain ⟨l0, l1, l2, l3, l4, l5, _, _, _, _, _, _⟩ := hL3.out
   obtain ⟨e0, e1, e2, e3, e4, e5, z0, z1, z2, z3, z4, z5⟩ := hR3.out
   go_wp2_with fail
   refine bodyPost_ret (v := enV (6, [], 0, (ma : Int), (mb : Int), (m : Int))) (by simp [results, Tryz.results78, go_sem, e0, e1, e2, e3, e4, e5, enV] <;> rfl) rfl ?_
   refine ⟨(6, [], 0, (ma : Int), (mb : Int), (m : Int)), _, rfl, ⟨by simp, by simp, by simp⟩, (hS3.out).other (rv := w.heap.size) (by simp) (.inr (.inl e1)) (by omega) ?_, hout.out, (on3.out).next (S' := [w.heap.size]) ?_ (by simp)⟩
   all_goals exact ((((((Only.refl [w.heap.size] _).setCell (.inl (by simp)) _).setCell (.inl (by simp)) _).setCell (.inl (by simp)) _).setCell (.inl (by simp)) _).setCell (.inl (by simp)) _).setCell (.inl (by simp)) _
 ·have k5 : ¬ kk = 5 := fun e => k56 (.inl e)
  have k6 : ¬ kk = 6 := fun e => k56 (.inr e)
  have k5' : (kk == 5) = false := by simpa using k5
  have k6' : (kk == 6) = false := by simpa using k6
  have HV := hid (refuse_src hW1 (at_ : Int) 3 (by decide))
  have hnk : Hid (¬ n = 1 ∧ ¬ n = 2 ∧ ¬ (n = 3 ∨ n = 4) ∧ ¬ (n = 5 ∨ n = 6)) := by
   have := hkk.out
   exact ⟨by omega, by omega, by omega, by omega⟩
  clear k56
  go_wp2_with fail
  refine HV.out.mono ?_
  rintro e w2 ⟨rfl, hs2, ho2⟩
  clear HV
  have hL3 := hid (L1.out.only ho2 (by simp; omega))
  have hR3 := hid (R1.out.only ho2 (by simp; omega))
  have hS3 := hid hs2
  have on3 := hid (oW1.out.trans ho2 (by simp))
  have hout : Hid (Out pEntry t (kk, [], 0, 0, 0, 0) (tRefuse (at_ : Int) 3 t1)) := out_entry hat.out hO.out (by
   unfold entryF
   rw [if_neg hnk.out.1, if_neg hnk.out.2.1, if_neg hnk.out.2.2.1, if_neg hnk.out.2.2.2]
   exact out_fail _ _ _ _)
  clear hs2
  obtain ⟨l0, l1, l2, l3, l4, l5, _, _, _, _, _, _⟩ := hL3.out
  obtain ⟨e0, e1, e2, e3, e4, e5, z0, z1, z2, z3, z4, z5⟩ := hR3.out
  go_wp2_with fail
  refine bodyPost_ret (v := enV (kk, [], 0, 0, 0, 0)) (by simp [results, Tryz.results78, go_sem, e0, e1, e2, e3, e4, e5, enV] <;> rfl) rfl ?_
  refine ⟨(kk, [], 0, 0, 0, 0), _, rfl, ⟨by simp, by simp, by simp⟩, (hS3.out).other (rv := w.heap.size) (by simp) (.inr (.inl e1)) (by omega) ?_, hout.out, (on3.out).next (S' := [w.heap.size]) ?_ (by simp)⟩
  all_goals exact ((((((Only.refl [w.heap.size] _).setCell (.inl (by simp)) _).setCell (.inl (by simp)) _).setCell (.inl (by simp)) _).setCell (.inl (by simp)) _).setCell (.inl (by simp)) _).setCell (.inl (by simp)) _

theorem elEn : ElT 90 (.agg #[.int .i64 0, .string ⟨#[]⟩, .int .i64 0, .int .i64 0, .int .i64 0, .int .i64 0]) 6 56 := ⟨by kernel_rfl, rfl, by decide, by decide⟩

set_option maxHeartbeats 4000000 in
theorem rows_en {w : World} {sb r d : Nat} {t : St} (h : Sc w sb r d t) (most : Nat) (hmost : most ≤ 100000) :
  Calls Tryz.prog 76 #[.pointer (some ⟨sb, 0, none⟩), .func (.func 77) #[.pointer (some ⟨r, 0, none⟩)] #[], .int .i64 (most : Int), .func (.func 78) #[.pointer (some ⟨sb, 0, none⟩)] #[]] w
   fun e w' => ∃ (xs : List En) (t' : St) (ao : Option Addr) (cap : Nat), e = .returned (.slice ao xs.length cap) ∧ w'.ownsRow w.heap.size 90 6 (.slice ao xs.length cap) xs.length (ecs xs) ∧ (∀ x ∈ xs, (x.2.1.length ≤ 262144 ∧ -9223372036854775808 ≤ x.2.2.1 ∧ x.2.2.1 ≤ 9223372036854775807)) ∧ xs.length ≤ 65536 ∧ Sc w' sb r d t' ∧ Out (pRows 2 most pEntry) t xs t' ∧ Only [sb, r] w w' := by
 have c0 := h.c0
 have hl := hid h.lt
 have HA := hid (sc_at h)
 have HU := hid (sc_u2 h)
 clear h
 go_enter Tryz.func76, Tryz.ntmps76
 go_wp2_with fail
 refine HA.out.mono ?_
 rintro e w1 ⟨at_, rfl, hat, rfl⟩
 go_wp2_with fail
 refine HU.out.mono ?_
 rintro e w1 ⟨n, t0, rfl, hn, h0, hO, ho1⟩
 clear HA HU c0
 have o1 : Hid (Only [sb, r] w w1) := ho1.mono (by simp)
 replace hat := hid hat
 replace hO := hid hO
 by_cases hm : most < n
 ·have gm : (most : Int) < (n : Int) := by omega
  have HR := hid (refuse_src h0 (at_ : Int) 4 (by decide))
  go_wp2_with fail
  refine HR.out.mono ?_
  rintro e w2 ⟨rfl, hS2, ho2⟩
  clear HR
  have hSt := hid hS2
  have oSt := hid (o1.out.trans ho2 (by simp))
  clear hS2 ho2 ho1 h0
  go_wp2_with fail
  go_loopw [11] (fun l wr => ∃ (xs : List En) (t1 : St) (ao : Option Addr) (cap : Nat), l = .slice ao xs.length cap ∧ xs.length ≤ n ∧ Hid (wr.ownsRow w.heap.size 90 6 (.slice ao xs.length cap) xs.length (ecs xs)) ∧ Hid (xs = [] → ao = none) ∧ Hid (∀ x ∈ xs, (x.2.1.length ≤ 262144 ∧ -9223372036854775808 ≤ x.2.2.1 ∧ x.2.2.1 ≤ 9223372036854775807)) ∧ Hid (Sc wr sb r d t1) ∧ Hid ((most < n ∧ t1 = tRefuse (at_ : Int) 4 t0 ∧ xs = []) ∨ (¬ most < n ∧ Far pEntry n t0 xs t1)) ∧ Hid (Only [sb, r] w wr)) (fun l _ => n - sliceLen l)
  case atStart => exact ⟨[], _, none, 0, rfl, by simp, World.ownsRow_nil _ _ _ _, hid (fun _ => rfl), hid (by simp), hSt, hid (.inl ⟨hm, rfl, rfl⟩), oSt⟩
  case round =>
   obtain ⟨xs, t1, ao, cap, rfl, hxn, hown, hnil, hlen, hS, hF, hO1⟩ := hrel
   clear hSt oSt
   have HFi := hid (fine_src hS.out)
   by_cases hlt : xs.length < n
   ·have g1 : ((xs.length : Int) < (n : Int)) := by omega
    cases hfi : isFine t1 with
    | true =>
     rw [hfi] at HFi
     have hFar : Hid (¬ most < n ∧ Far pEntry n t0 xs t1) := by
      rcases hF.out with ⟨_, h2, _⟩ | h2
      ·rw [h2] at hfi
       cases t0 <;> cases hfi
      ·exact h2
     have HR := hid (rentry_any hS.out)
     unfold enV at HR
     have c0 := hS.out.c0
     go_wp2_with fail
     refine HFi.out.mono ?_
     rintro e w2 ⟨rfl, rfl⟩
     go_wp2_with fail
     refine HR.out.mono ?_
     rintro e w2 ⟨x, t2, rfl, hxl, hS2, hOx, ho2⟩
     clear HR c0
     have hl1 := hl.out
     have hown2 := rows_only hown.out (ho2.alloc (.cells #[.int .i64 x.1, .string (str x.2.1), .int .i64 x.2.2.1, .int .i64 x.2.2.2.1, .int .i64 x.2.2.2.2.1, .int .i64 x.2.2.2.2.2] 90)) (fun g hg => by have := (hown.out.lt g hg).1; simp; omega)
     have o2 := hid ((hO1.out.trans ho2 (by simp)).alloc (.cells #[.int .i64 x.1, .string (str x.2.1), .int .i64 x.2.2.1, .int .i64 x.2.2.2.1, .int .i64 x.2.2.2.2.1, .int .i64 x.2.2.2.2.2] 90))
     have hR := RS.fresh w2 #[.int .i64 x.1, .string (str x.2.1), .int .i64 x.2.2.1, .int .i64 x.2.2.2.1, .int .i64 x.2.2.2.2.1, .int .i64 x.2.2.2.2.2] 90
     have hS3 := hid (hS2.only0 ((Only.refl [] w2).alloc (.cells #[.int .i64 x.1, .string (str x.2.1), .int .i64 x.2.2.1, .int .i64 x.2.2.2.1, .int .i64 x.2.2.2.2.1, .int .i64 x.2.2.2.2.2] 90)))
     have hOw := hid hown2
     go_wp2_with (at_builtin; refine wpList_append_any (ys := ecs [x]) rfl (.tmp 33) (.tmp 36) elEn Tryz.underlying29 rfl rfl rfl hown2 hR rfl (ecs_one _) (by simp) (by omega) (by have := o2.out.size; omega) ?_; rintro ao3 cap3 w3 hA3)
     have hfin : Hid (Sc w3 sb r d t2) := by
      cases xs with
      | nil =>
       have hno := hnil.out rfl
       subst hno
       exact hS3.out.only0 hA3.only
      | cons y ys => exact hS3.out.row hOw.out hA3 (by omega) (u := .string (str y.2.1)) (by simp) (fun _ => .inr (.inl rfl))
     have o3 := hid (o2.out.next hA3.only (fun z hz => by
      cases ao with
      | none => simp [Value.ownBlock] at hz
      | some a =>
       simp [Value.ownBlock] at hz
       subst hz
       exact (hOw.out.lt a.block rfl).1))
     have hown3 := hA3.own
     have ee : ecs xs ++ ecs [x] = ecs (xs ++ [x]) := (ecs_append _ _).symm
     rw [ee] at hown3
     have hnone := hA3.none
     go_wp2_with fail
     refine ⟨⟨xs ++ [x], t2, ao3, cap3, by simp, by simp; omega, by simpa [Hid] using hown3, hid (by simp), hid (by
      intro y hy
      rcases List.mem_append.1 hy with hy | hy
      ·exact hlen.out y hy
      ·rw [List.mem_singleton.1 hy]; exact hxl), hfin, hid (.inr ⟨hFar.out.1, far_step hFar.out.2 hfi hOx hlt⟩), o3⟩, by simp [sliceLen]; omega⟩
    | false =>
     rw [hfi] at HFi
     go_wp2_with fail
     refine HFi.out.mono ?_
     rintro e w2 ⟨rfl, rfl⟩
     go_wp2_with fail
     go_ret
     refine ⟨xs, t1, ao, cap, rfl, hown.out, (by first | exact hlen.out | (intros; exact hlen.out _ (by assumption))), by omega, hS.out, out_rows hO.out hat.out ?_, hO1.out⟩
     rcases hF.out with ⟨h1, h2, _⟩ | ⟨h1, h2⟩
     ·exact .inl ⟨h1, h2⟩
     ·exact .inr ⟨h1, h2, fun hf => by rw [hfi] at hf; cases hf⟩
   ·have g1 : ¬ ((xs.length : Int) < (n : Int)) := by omega
    go_wp2_with fail
    go_ret
    refine ⟨xs, t1, ao, cap, rfl, hown.out, (by first | exact hlen.out | (intros; exact hlen.out _ (by assumption))), by omega, hS.out, out_rows hO.out hat.out ?_, hO1.out⟩
    rcases hF.out with ⟨h1, h2, _⟩ | ⟨h1, h2⟩
    ·exact .inl ⟨h1, h2⟩
    ·exact .inr ⟨h1, h2, fun _ => by omega⟩
 ·have gm : ¬ (most : Int) < (n : Int) := by omega
  have hSt := hid h0
  have oSt := o1
  clear ho1 h0
  go_wp2_with fail
  go_loopw [11] (fun l wr => ∃ (xs : List En) (t1 : St) (ao : Option Addr) (cap : Nat), l = .slice ao xs.length cap ∧ xs.length ≤ n ∧ Hid (wr.ownsRow w.heap.size 90 6 (.slice ao xs.length cap) xs.length (ecs xs)) ∧ Hid (xs = [] → ao = none) ∧ Hid (∀ x ∈ xs, (x.2.1.length ≤ 262144 ∧ -9223372036854775808 ≤ x.2.2.1 ∧ x.2.2.1 ≤ 9223372036854775807)) ∧ Hid (Sc wr sb r d t1) ∧ Hid ((most < n ∧ t1 = tRefuse (at_ : Int) 4 t0 ∧ xs = []) ∨ (¬ most < n ∧ Far pEntry n t0 xs t1)) ∧ Hid (Only [sb, r] w wr)) (fun l _ => n - sliceLen l)
  case atStart => exact ⟨[], _, none, 0, rfl, by simp, World.ownsRow_nil _ _ _ _, hid (fun _ => rfl), hid (by simp), hSt, hid (.inr ⟨hm, far_start _ _ _⟩), oSt⟩
  case round =>
   obtain ⟨xs, t1, ao, cap, rfl, hxn, hown, hnil, hlen, hS, hF, hO1⟩ := hrel
   clear hSt oSt
   have HFi := hid (fine_src hS.out)
   by_cases hlt : xs.length < n
   ·have g1 : ((xs.length : Int) < (n : Int)) := by omega
    cases hfi : isFine t1 with
    | true =>
     rw [hfi] at HFi
     have hFar : Hid (¬ most < n ∧ Far pEntry n t0 xs t1) := by
      rcases hF.out with ⟨_, h2, _⟩ | h2
      ·rw [h2] at hfi
       cases t0 <;> cases hfi
      ·exact h2
     have HR := hid (rentry_any hS.out)
     unfold enV at HR
     have c0 := hS.out.c0
     go_wp2_with fail
     refine HFi.out.mono ?_
     rintro e w2 ⟨rfl, rfl⟩
     go_wp2_with fail
     refine HR.out.mono ?_
     rintro e w2 ⟨x, t2, rfl, hxl, hS2, hOx, ho2⟩
     clear HR c0
     have hl1 := hl.out
     have hown2 := rows_only hown.out (ho2.alloc (.cells #[.int .i64 x.1, .string (str x.2.1), .int .i64 x.2.2.1, .int .i64 x.2.2.2.1, .int .i64 x.2.2.2.2.1, .int .i64 x.2.2.2.2.2] 90)) (fun g hg => by have := (hown.out.lt g hg).1; simp; omega)
     have o2 := hid ((hO1.out.trans ho2 (by simp)).alloc (.cells #[.int .i64 x.1, .string (str x.2.1), .int .i64 x.2.2.1, .int .i64 x.2.2.2.1, .int .i64 x.2.2.2.2.1, .int .i64 x.2.2.2.2.2] 90))
     have hR := RS.fresh w2 #[.int .i64 x.1, .string (str x.2.1), .int .i64 x.2.2.1, .int .i64 x.2.2.2.1, .int .i64 x.2.2.2.2.1, .int .i64 x.2.2.2.2.2] 90
     have hS3 := hid (hS2.only0 ((Only.refl [] w2).alloc (.cells #[.int .i64 x.1, .string (str x.2.1), .int .i64 x.2.2.1, .int .i64 x.2.2.2.1, .int .i64 x.2.2.2.2.1, .int .i64 x.2.2.2.2.2] 90)))
     have hOw := hid hown2
     go_wp2_with (at_builtin; refine wpList_append_any (ys := ecs [x]) rfl (.tmp 33) (.tmp 36) elEn Tryz.underlying29 rfl rfl rfl hown2 hR rfl (ecs_one _) (by simp) (by omega) (by have := o2.out.size; omega) ?_; rintro ao3 cap3 w3 hA3)
     have hfin : Hid (Sc w3 sb r d t2) := by
      cases xs with
      | nil =>
       have hno := hnil.out rfl
       subst hno
       exact hS3.out.only0 hA3.only
      | cons y ys => exact hS3.out.row hOw.out hA3 (by omega) (u := .string (str y.2.1)) (by simp) (fun _ => .inr (.inl rfl))
     have o3 := hid (o2.out.next hA3.only (fun z hz => by
      cases ao with
      | none => simp [Value.ownBlock] at hz
      | some a =>
       simp [Value.ownBlock] at hz
       subst hz
       exact (hOw.out.lt a.block rfl).1))
     have hown3 := hA3.own
     have ee : ecs xs ++ ecs [x] = ecs (xs ++ [x]) := (ecs_append _ _).symm
     rw [ee] at hown3
     have hnone := hA3.none
     go_wp2_with fail
     refine ⟨⟨xs ++ [x], t2, ao3, cap3, by simp, by simp; omega, by simpa [Hid] using hown3, hid (by simp), hid (by
      intro y hy
      rcases List.mem_append.1 hy with hy | hy
      ·exact hlen.out y hy
      ·rw [List.mem_singleton.1 hy]; exact hxl), hfin, hid (.inr ⟨hFar.out.1, far_step hFar.out.2 hfi hOx hlt⟩), o3⟩, by simp [sliceLen]; omega⟩
    | false =>
     rw [hfi] at HFi
     go_wp2_with fail
     refine HFi.out.mono ?_
     rintro e w2 ⟨rfl, rfl⟩
     go_wp2_with fail
     go_ret
     refine ⟨xs, t1, ao, cap, rfl, hown.out, (by first | exact hlen.out | (intros; exact hlen.out _ (by assumption))), by omega, hS.out, out_rows hO.out hat.out ?_, hO1.out⟩
     rcases hF.out with ⟨h1, h2, _⟩ | ⟨h1, h2⟩
     ·exact .inl ⟨h1, h2⟩
     ·exact .inr ⟨h1, h2, fun hf => by rw [hfi] at hf; cases hf⟩
   ·have g1 : ¬ ((xs.length : Int) < (n : Int)) := by omega
    go_wp2_with fail
    go_ret
    refine ⟨xs, t1, ao, cap, rfl, hown.out, (by first | exact hlen.out | (intros; exact hlen.out _ (by assumption))), by omega, hS.out, out_rows hO.out hat.out ?_, hO1.out⟩
    rcases hF.out with ⟨h1, h2, _⟩ | ⟨h1, h2⟩
    ·exact .inl ⟨h1, h2⟩
    ·exact .inr ⟨h1, h2, fun _ => by omega⟩

theorem out_magic1 {t t1 : St} {x : List UInt8} (h : Out (pTake 4) t x t1) (hx : x = magicL) : Out pMagic t () t1 := by
 unfold Out at h ⊢
 cases t with
 | inl f => exact h
 | inr u =>
  simp only [pMagic, pBind] at h ⊢
  cases hp : pTake 4 u with
  | inl f => simp only [hp] at h ⊢; exact h
  | inr z =>
   obtain ⟨y, u'⟩ := z
   simp only [hp] at h ⊢
   obtain ⟨rfl, rfl⟩ := h
   simp [hx, pDone]

theorem out_magic2 {t t1 : St} {x : List UInt8} (h : Out (pTake 4) t x t1) (hx : x ≠ magicL) : Out pMagic t () (tRefuse 0 13 t1) := by
 unfold Out at h ⊢
 cases t with
 | inl f =>
  simp only at h
  subst h
  rfl
 | inr u =>
  simp only [pMagic, pBind] at h ⊢
  cases hp : pTake 4 u with
  | inl f =>
   simp only [hp] at h ⊢
   subst h
   rfl
  | inr z =>
   obtain ⟨y, u'⟩ := z
   simp only [hp] at h ⊢
   obtain ⟨rfl, rfl⟩ := h
   simp [hx, pFail, tRefuse]

theorem out_end1 {t : St} {n : Nat} {m : Mo} (hn : ∀ u, t = .inr u → n = u.1.length) (h0 : n = 0) : Out (pEnd m) t m t := by
 unfold Out
 cases t with
 | inl f => rfl
 | inr u =>
  have := hn u rfl
  have e : u.1 = [] := List.eq_nil_of_length_eq_zero (by omega)
  simp [pEnd, e]

theorem out_end2 {t : St} {n k : Nat} {m : Mo} (hn : ∀ u, t = .inr u → n = u.1.length) (hk : ∀ u, t = .inr u → k = u.2) (h0 : 0 < n) : Out (pEnd m) t m (tRefuse (k : Int) 12 t) := by
 unfold Out
 cases t with
 | inl f => rfl
 | inr u =>
  have h1 := hn u rfl
  have h2 := hk u rfl
  have e : u.1 ≠ [] := fun e => by rw [e] at h1; simp at h1; omega
  simp [pEnd, e, tRefuse, h2]

/-- A new block of a module, with nothing in it yet. -/
def On (w : World) (b B sb r d : Nat) : Prop := Mo2 w b (.slice none 0 0) (.slice none 0 0) ∧ B ≤ b ∧ b ≠ sb ∧ b ≠ r ∧ b ≠ d

theorem On.call {z z' : World} {b B sb r d : Nat} {X : List Nat} (h : On z b B sb r d) (hX : Only X z z') (hx : ∀ x ∈ X, x = sb ∨ x = r) : On z' b B sb r d :=
 ⟨h.1.only hX (fun hm => (hx b hm).elim h.2.2.1 h.2.2.2.1), h.2⟩

theorem On.newC {W z z' : World} {sb r d : Nat} {t : St} {X : List Nat} (h : Sc z sb r d t) (hS : Only [sb, r] W z) (hX : Only X (z.alloc (.cells #[.slice none 0 0, .slice none 0 0] 32)) z') (hx : ∀ x ∈ X, x = sb ∨ x = r) : On z' z.heap.size W.heap.size sb r d ∧ z.heap.size < (z.alloc (.cells #[.slice none 0 0, .slice none 0 0] 32)).heap.size := by
 have := h.lt
 exact ⟨On.call ⟨mo2_new _ _ _ _, hS.size, by omega, by omega, by omega⟩ hX hx, by simp⟩

theorem On.newD {W z' : World} {sb r d : Nat} {t : St} {X : List Nat} (h : Sc W sb r d t) (hX : Only X (W.alloc (.cells #[.slice none 0 0, .slice none 0 0] 32)).drew z') (hx : ∀ x ∈ X, x = sb ∨ x = r) : On z' W.heap.size W.heap.size sb r d ∧ W.heap.size < (W.alloc (.cells #[.slice none 0 0, .slice none 0 0] 32)).drew.heap.size := by
 have := h.lt
 have h0 : On (W.alloc (.cells #[.slice none 0 0, .slice none 0 0] 32)) W.heap.size W.heap.size sb r d := ⟨mo2_new _ _ _ _, Nat.le_refl _, by omega, by omega, by omega⟩
 exact ⟨On.call (On.call (X := []) h0 ((Only.refl [] _).drew) (by simp)) hX hx, by simp⟩

theorem On.callC {z z' : World} {b B sb r d : Nat} {X : List Nat} (h : On z b B sb r d) (hX : Only X z z') (hx : ∀ x ∈ X, x = sb ∨ x = r) : On z' b B sb r d ∧ b < z.heap.size := ⟨h.call hX hx, World.block_lt_of_cell? z _ h.1.c0⟩

def EnFit (x : En) : Prop := x.2.1.length ≤ 262144 ∧ -9223372036854775808 ≤ x.2.2.1 ∧ x.2.2.1 ≤ 9223372036854775807

theorem rows_en4096 {w : World} {sb r d : Nat} {t : St} (h : Sc w sb r d t) :
  Calls Tryz.prog 76 #[.pointer (some ⟨sb, 0, none⟩), .func (.func 77) #[.pointer (some ⟨r, 0, none⟩)] #[], .int .i64 4096, .func (.func 78) #[.pointer (some ⟨sb, 0, none⟩)] #[]] w
   fun e w' => ∃ (xs : List En) (t' : St) (ao : Option Addr) (cap : Nat), e = .returned (.slice ao xs.length cap) ∧ OwR w' w.heap.size (fun g => g < w'.heap.size) 90 6 (.slice ao xs.length cap) xs.length (ecs xs) ∧ AllFit EnFit xs ∧ Sc w' sb r d t' ∧ Out (pRows 2 4096 pEntry) t xs t' ∧ Only [sb, r] w w' :=
 (rows_en h 4096 (by decide)).mono fun e w' h => by
  obtain ⟨xs, t', ao, cap, h1, h2, h3, _, h5, h6, h7⟩ := h
  exact ⟨xs, t', ao, cap, h1, ⟨h2, fun g hg => (h2.lt g hg).2⟩, h3, h5, h6, h7⟩

theorem rows_cl64 {w : World} {sb r d : Nat} {t : St} (h : Sc w sb r d t) :
  Calls Tryz.prog 79 #[.pointer (some ⟨sb, 0, none⟩), .func (.func 80) #[.pointer (some ⟨r, 0, none⟩)] #[], .int .i64 64, .func (.func 81) #[.pointer (some ⟨sb, 0, none⟩)] #[]] w
   fun e w' => ∃ (xs : List Cl) (t' : St) (ao : Option Addr) (cap : Nat), e = .returned (.slice ao xs.length cap) ∧ ∃ mcs : List Value, OwR w' w.heap.size (fun _ => True) 28 6 (.slice ao xs.length cap) xs.length mcs ∧ Els 6 (ClC (OwR w' w.heap.size (fun _ => True))) mcs xs ∧ AllFit ClFit xs ∧ Sc w' sb r d t' ∧ Out (pRows 1 64 pClass) t xs t' ∧ Only [sb, r] w w' :=
 (rows_cl h 64 (by decide)).mono fun e w' h => by
  obtain ⟨xs, t', ao, cap, h1, mcs, h2, h3, h4, _, h5, h6, h7⟩ := h
  exact ⟨xs, t', ao, cap, h1, mcs, ⟨h2, fun _ _ => trivial⟩, h3.imp fun _ _ _ h => h.imp fun _ _ _ _ _ g => ⟨g.1, fun _ _ => trivial⟩, h4, h5, h6, h7⟩

/-- What the two rows leave: the local variable's block. -/
def Ocut (W : World) (sb r d : Nat) (t : St) (s3 : Value) (wx : World) : Prop :=
 ∃ (lb : Nat) (m : Mo) (t1 t2 : St) (vp vc : Value), s3 = .pointer (some ⟨lb, 0, none⟩) ∧ Mo2 wx lb vp vc ∧ MoAt (OwR wx W.heap.size (fun g => g ≠ lb)) vp vc m ∧ AllFit EnFit m.pool ∧ AllFit ClFit m.classes ∧ Sc wx sb r d t2 ∧ Only [sb, r] W wx ∧ W.heap.size ≤ lb ∧ lb ≠ sb ∧ lb ≠ r ∧ lb ≠ d ∧ Out (pRows 2 4096 pEntry) t m.pool t1 ∧ Out (pRows 1 64 pClass) t1 m.classes t2

theorem Ocut.old {W za w1 zb w2 : World} {sb r d b cap ccap : Nat} {t t1 t2 : St} {xs : List En} {cs : List Cl} {mcs : List Value} {ao co : Option Addr} (hB : sb < W.heap.size ∧ r < W.heap.size)
  (h1 : OwR w1 za.heap.size (fun g => g < w1.heap.size) 90 6 (.slice ao xs.length cap) xs.length (ecs xs)) (f1 : AllFit EnFit xs) (O1 : Out (pRows 2 4096 pEntry) t xs t1) (hz : W.heap.size ≤ za.heap.size) (o12 : Only [sb, r] w1 w2) (hbz : b < za.heap.size ∨ w1.heap.size ≤ b)
  (h2 : OwR w2 zb.heap.size (fun _ => True) 28 6 (.slice co cs.length ccap) cs.length mcs) (hE : Els 6 (ClC (OwR w2 zb.heap.size (fun _ => True))) mcs cs) (f2 : AllFit ClFit cs) (hs : Sc w2 sb r d t2) (O2 : Out (pRows 1 64 pClass) t1 cs t2) (hz2 : W.heap.size ≤ zb.heap.size) (ho : Only [sb, r] W w2) (hM : On w2 b W.heap.size sb r d) (hl : b < zb.heap.size) :
  Ocut W sb r d t (.pointer (some ⟨b, 0, none⟩)) ((w2.setCell ⟨b, 0, none⟩ (.slice ao xs.length cap)).setCell ⟨b, 1, none⟩ (.slice co cs.length ccap)) := by
 obtain ⟨hm, hb, n1, n2, n3⟩ := hM
 obtain ⟨p, q⟩ := hm.put (.slice ao xs.length cap) (.slice co cs.length ccap)
 have hne : ∀ e k v n us, OwR w2 zb.heap.size (fun _ => True) e k v n us → OwR ((w2.setCell ⟨b, 0, none⟩ (.slice ao xs.length cap)).setCell ⟨b, 1, none⟩ (.slice co cs.length ccap)) W.heap.size (fun g => g ≠ b) e k v n us := by
  intro e k v n us h
  refine ⟨rows_mono (rows_only h.1 q (fun g hg => ?_)) hz2, fun g hg => ?_⟩
  ·have := (h.1.lt g hg).1
   simp
   omega
  ·have := (h.1.lt g hg).1
   omega
 have hp : OwR ((w2.setCell ⟨b, 0, none⟩ (.slice ao xs.length cap)).setCell ⟨b, 1, none⟩ (.slice co cs.length ccap)) W.heap.size (fun g => g ≠ b) 90 6 (.slice ao xs.length cap) xs.length (ecs xs) := by
  refine ⟨rows_mono (rows_only (rows_only h1.1 o12 (fun g hg => ?_)) q (fun g hg => ?_)) hz, fun g hg => ?_⟩
  ·have := (h1.1.lt g hg).1
   simp
   omega
  ·have := h1.1.lt g hg
   simp
   omega
  ·have := h1.1.lt g hg
   omega
 exact ⟨b, ⟨xs, cs⟩, t1, t2, _, _, rfl, p, ⟨hp, mcs, hne _ _ _ _ _ h2, hE.imp fun _ _ _ h => h.imp hne⟩, f1, f2, hs.other (by simp) (.inl hm.c0) ⟨n1, n2, n3⟩ q, ho.next q (by simp; omega), hb, n1, n2, n3, O1, O2⟩

theorem Ocut.fresh {W za w1 zb w2 : World} {sb r d cap ccap : Nat} {t t1 t2 : St} {xs : List En} {cs : List Cl} {mcs : List Value} {ao co : Option Addr} (hB : sb < W.heap.size ∧ r < W.heap.size)
  (h1 : OwR w1 za.heap.size (fun g => g < w1.heap.size) 90 6 (.slice ao xs.length cap) xs.length (ecs xs)) (f1 : AllFit EnFit xs) (O1 : Out (pRows 2 4096 pEntry) t xs t1) (hz : W.heap.size ≤ za.heap.size) (o12 : Only [sb, r] w1 w2)
  (h2 : OwR w2 zb.heap.size (fun _ => True) 28 6 (.slice co cs.length ccap) cs.length mcs) (hE : Els 6 (ClC (OwR w2 zb.heap.size (fun _ => True))) mcs cs) (f2 : AllFit ClFit cs) (hs : Sc w2 sb r d t2) (O2 : Out (pRows 1 64 pClass) t1 cs t2) (hz2 : W.heap.size ≤ zb.heap.size) (ho : Only [sb, r] W w2) :
  Ocut W sb r d t (.pointer (some ⟨w2.heap.size, 0, none⟩)) (w2.alloc (.cells #[.slice ao xs.length cap, .slice co cs.length ccap] 32)) := by
 have q := (Only.refl [] w2).alloc (.cells #[.slice ao xs.length cap, .slice co cs.length ccap] 32)
 have hl := hs.lt
 have hne : ∀ e k v n us, OwR w2 zb.heap.size (fun _ => True) e k v n us → OwR (w2.alloc (.cells #[.slice ao xs.length cap, .slice co cs.length ccap] 32)) W.heap.size (fun g => g ≠ w2.heap.size) e k v n us := by
  intro e k v n us h
  refine ⟨rows_mono (rows_only h.1 q (by simp)) hz2, fun g hg => ?_⟩
  have := (h.1.lt g hg).2
  omega
 have hp : OwR (w2.alloc (.cells #[.slice ao xs.length cap, .slice co cs.length ccap] 32)) W.heap.size (fun g => g ≠ w2.heap.size) 90 6 (.slice ao xs.length cap) xs.length (ecs xs) := by
  refine ⟨rows_mono (rows_only (rows_only h1.1 o12 (fun g hg => ?_)) q (by simp)) hz, fun g hg => ?_⟩
  ·have := (h1.1.lt g hg).1
   simp
   omega
  ·have := h1.1.lt g hg
   have := o12.size
   omega
 exact ⟨w2.heap.size, ⟨xs, cs⟩, t1, t2, _, _, rfl, mo2_new _ _ _ _, ⟨hp, mcs, hne _ _ _ _ _ h2, hE.imp fun _ _ _ h => h.imp hne⟩, f1, f2, hs.only0 q, ho.alloc _, ho.size, by omega, by omega, by omega, O1, O2⟩

theorem MoAt.own {w w' : World} {B : Nat} {S : List Nat} {vp vc : Value} {m : Mo} (h : MoAt (OwR w B fun _ => True) vp vc m) (ho : Only S w w') (hS : ∀ k ∈ S, k < B) : MoAt (OwR w' B fun _ => True) vp vc m :=
 h.imp fun _ _ _ _ _ g => ⟨rows_only g.1 ho (fun k hk hm => by
  have := (g.1.lt k hk).1
  have := hS k hm
  omega), fun _ _ => trivial⟩

theorem mo_fit {m : Mo} (h1 : AllFit EnFit m.pool) (h2 : AllFit ClFit m.classes) : MoFit m := ⟨fun e he => Nat.le_trans (h1 e he).1 (by decide), h2⟩

end Go.Proofs.YtildemmkhndhjaaGreatDoor
