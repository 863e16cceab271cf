/-
  What the proof leans on, part 15 of 23. The conditions stand in each theorem.
-/
import Derived.Test.YtildemmkhndhjaaGreatDoorB12
import Derived.Test.YtildemmkhndhjaaGreatDoorB03
import Derived.Test.YtildemmkhndhjaaGreatDoorB07
import Derived.Test.YtildemmkhndhjaaGreatDoorB14
import Derived.Test.YtildemmkhndhjaaGreatDoorB11
namespace Go.Proofs.YtildemmkhndhjaaGreatDoor
open Go.RowKit

theorem out_spell {α : Type} (f : List UInt8 → α × Int) {t t1 : St} {x : List UInt8} {n : Nat} (h : Out pText t x t1) (hn : ∀ u, t = .inr u → n = u.2) : Out (pSpell f) t (f x).1 (if (f x).2 = 0 then t1 else tRefuse (n : Int) (f x).2 t1) := by
  unfold Out at h ⊢
  cases t with
  | inl g =>
    simp only at h
    subst h
    show (if (f x).2 = 0 then Sum.inl g else tRefuse (n : Int) (f x).2 (Sum.inl g)) = Sum.inl g
    split <;> rfl
  | inr u =>
    have hn := hn u rfl
    simp only [pSpell, pBind] at h ⊢
    cases hp : pText u with
    | inl g =>
      simp only [hp] at h ⊢
      subst h
      split <;> rfl
    | inr z =>
      obtain ⟨y, u'⟩ := z
      simp only [hp] at h ⊢
      obtain ⟨rfl, rfl⟩ := h
      by_cases he : (f x).2 = 0
      · rw [if_pos he, if_pos he]
        exact ⟨rfl, rfl⟩
      · rw [if_neg he, if_neg he, hn]
        rfl

theorem typeR_len (l : List UInt8) : (typeR l).1.2.length ≤ 32 := by
  by_cases h : (typeR l).2 = 0
  · exact (check_fit (type_read l h).1).2.2
  · unfold typeR at h ⊢
    split
    · rename_i hp
      rw [hp] at h
      simp at h
    · simp

set_option maxHeartbeats 4000000 in
theorem rspell_ty {w : World} {sb r d : Nat} {t : St} (h : Sc w sb r d t) :
    Calls Tryz.prog 175 #[.pointer (some ⟨sb, 0, none⟩), .func (.func 161) #[] #[]] w fun e w' => ∃ (x : Ty) (t' : St), e = .returned (tyV x) ∧ x.2.length ≤ 32 ∧ Sc w' sb r d t' ∧ Out (pSpell typeR) t x t' ∧ Only [sb, r] w w' := by
  have o0 := hid ((Only.refl [sb, r] w).alloc (.cells #[.int .i64 0, .string ⟨#[]⟩] 35))
  have h0 := h.only0 ((Only.refl [] w).alloc (.cells #[.int .i64 0, .string ⟨#[]⟩] 35))
  have hl := h.lt
  clear h
  have q0 : Hid ((w.alloc (.cells #[.int .i64 0, .string ⟨#[]⟩] 35)).cell? ⟨w.heap.size, 0, none⟩ = some (.int .i64 0) ∧ (w.alloc (.cells #[.int .i64 0, .string ⟨#[]⟩] 35)).cell? ⟨w.heap.size, 1, none⟩ = some (.string ⟨#[]⟩)) := ⟨by rw [cell_new]; rfl, by rw [cell_new]; rfl⟩
  have c0 := h0.c0
  have HA := hid (sc_at h0)
  go_enter Tryz.func175, Tryz.ntmps175
  go_wp2_with fail
  refine HA.out.mono ?_
  rintro e w1 ⟨n, rfl, hn, rfl⟩
  have HT := hid (sc_text h0)
  go_wp2_with fail
  refine HT.out.mono ?_
  rintro e w2 ⟨x, t1, rfl, hx, h1, hO, ho2⟩
  have HD := hid (type_any x (by omega) w2)
  clear HA HT c0
  have c0 := h1.c0
  have o2 := hid (o0.out.trans ho2 (by simp))
  have hos := out_spell typeR hO hn
  have hl2 := h1.lt
  have hs2 : w.heap.size < w2.heap.size := Nat.lt_of_lt_of_le (by simp) ho2.size
  have q1 : Hid (w2.cell? ⟨w.heap.size, 0, none⟩ = some (.int .i64 0) ∧ w2.cell? ⟨w.heap.size, 1, none⟩ = some (.string ⟨#[]⟩) ∧ w2.frozen? ⟨w.heap.size, 0, none⟩ = false ∧ w2.frozen? ⟨w.heap.size, 1, none⟩ = false) :=
    ⟨(ho2.cell (p := ⟨w.heap.size, 0, none⟩) (by simp) (by simp; omega)).trans q0.out.1, (ho2.cell (p := ⟨w.heap.size, 1, none⟩) (by simp) (by simp; omega)).trans q0.out.2, (ho2.frozen (p := ⟨w.heap.size, 0, none⟩) (by simp) (by simp; omega)).trans (frozen_new _ _ _ _), (ho2.frozen (p := ⟨w.heap.size, 1, none⟩) (by simp) (by simp; omega)).trans (frozen_new _ _ _ _)⟩
  have htn := typeR_len x
  generalize typeR x = y at *
  obtain ⟨⟨yd, yn⟩, ye⟩ := y
  unfold tyV at HD
  simp only at hos HD htn
  by_cases he : ye = 0
  · subst he
    rw [if_pos rfl] at hos
    go_wp2_with fail
    refine HD.out.mono ?_
    rintro e w3 ⟨rfl, ho3⟩
    have r0 := (ho3.cell (p := ⟨w.heap.size, 0, none⟩) hs2 (by simp)).trans q1.out.1
    have r1 := (ho3.cell (p := ⟨w.heap.size, 1, none⟩) hs2 (by simp)).trans q1.out.2.1
    have z0 := (ho3.frozen (p := ⟨w.heap.size, 0, none⟩) hs2 (by simp)).trans q1.out.2.2.1
    have z1 := (ho3.frozen (p := ⟨w.heap.size, 1, none⟩) hs2 (by simp)).trans q1.out.2.2.2
    have r0' := fun o => cell_alloc o r0
    have r1' := fun o => cell_alloc o r1
    have hs3 : w.heap.size < w3.heap.size := Nat.lt_of_lt_of_le hs2 ho3.size
    have z0' : ∀ o, (w3.alloc o).frozen? ⟨w.heap.size, 0, none⟩ = false := fun o => (frozen_alloc o hs3).trans z0
    have z1' : ∀ o, (w3.alloc o).frozen? ⟨w.heap.size, 1, none⟩ = false := fun o => (frozen_alloc o hs3).trans z1
    go_wp2_with fail
    have p2 := put2 (.int .i64 yd) (.string (str yn)) r0 r1 (by decide)
    have d0 := cell_alloc (.cells #[.int .i64 yd, .string (str yn)] 35) p2.1
    have d1 := cell_alloc (.cells #[.int .i64 yd, .string (str yn)] 35) p2.2
    refine bodyPost_ret (v := tyV (yd, yn)) (by simp [results, Tryz.results175, go_sem, d0, d1, tyV]) rfl ?_
    have oS : Only [w.heap.size] w3 _ := ((Only.refl [w.heap.size] w3).setCell (p := ⟨w.heap.size, 0, none⟩) (.inl (by simp)) (.int .i64 yd)).setCell (p := ⟨w.heap.size, 1, none⟩) (.inl (by simp)) (.string (str yn))
    refine ⟨(yd, yn), t1, rfl, htn, ?_, hos, ?_⟩
    · exact ((h1.only0 ho3).other (by simp) (.inr (.inl r1)) (by omega) oS).only0 ((Only.refl [] _).alloc _)
    · exact ((o2.out.next ho3 (by simp)).next oS (by simp)).alloc _
  · have he' : (ye == 0) = false := by simpa using he
    rw [if_neg he] at hos
    go_wp2_with fail
    refine HD.out.mono ?_
    rintro e w3 ⟨rfl, ho3⟩
    have hs3 : w.heap.size < w3.heap.size := Nat.lt_of_lt_of_le hs2 ho3.size
    have oA := (Only.refl [] w3).alloc (.cells #[.int .i64 yd, .string (str yn)] 35)
    have h3 := (h1.only0 ho3).only0 oA
    have HR := hid (refuse_src h3 (n : Int) ye he)
    have a0 : Hid ((w3.alloc (.cells #[.int .i64 yd, .string (str yn)] 35)).cell? ⟨w3.heap.size, 0, none⟩ = some (.int .i64 yd) ∧ (w3.alloc (.cells #[.int .i64 yd, .string (str yn)] 35)).cell? ⟨w3.heap.size, 1, none⟩ = some (.string (str yn))) := ⟨by rw [cell_new]; rfl, by rw [cell_new]; rfl⟩
    have q3 : Hid ((w3.alloc (.cells #[.int .i64 yd, .string (str yn)] 35)).cell? ⟨w.heap.size, 0, none⟩ = some (.int .i64 0) ∧ (w3.alloc (.cells #[.int .i64 yd, .string (str yn)] 35)).cell? ⟨w.heap.size, 1, none⟩ = some (.string ⟨#[]⟩) ∧ (w3.alloc (.cells #[.int .i64 yd, .string (str yn)] 35)).frozen? ⟨w.heap.size, 0, none⟩ = false ∧ (w3.alloc (.cells #[.int .i64 yd, .string (str yn)] 35)).frozen? ⟨w.heap.size, 1, none⟩ = false) :=
      ⟨((ho3.next oA (by simp)).cell (p := ⟨w.heap.size, 0, none⟩) hs2 (by simp)).trans q1.out.1, ((ho3.next oA (by simp)).cell (p := ⟨w.heap.size, 1, none⟩) hs2 (by simp)).trans q1.out.2.1, ((ho3.next oA (by simp)).frozen (p := ⟨w.heap.size, 0, none⟩) hs2 (by simp)).trans q1.out.2.2.1, ((ho3.next oA (by simp)).frozen (p := ⟨w.heap.size, 1, none⟩) hs2 (by simp)).trans q1.out.2.2.2⟩
    have hs4 : w.heap.size < (w3.alloc (.cells #[.int .i64 yd, .string (str yn)] 35)).heap.size := by simp; omega
    have hs5 : w3.heap.size < (w3.alloc (.cells #[.int .i64 yd, .string (str yn)] 35)).heap.size := by simp
    have hsb : sb < w3.heap.size := by have := ho3.size; omega
    clear HD
    go_wp2_with fail
    refine HR.out.mono ?_
    rintro e w4 ⟨rfl, h4, ho4⟩
    have b0 := (ho4.cell (p := ⟨w3.heap.size, 0, none⟩) hs5 (by simp; omega)).trans a0.out.1
    have b1 := (ho4.cell (p := ⟨w3.heap.size, 1, none⟩) hs5 (by simp; omega)).trans a0.out.2
    have r0 := (ho4.cell (p := ⟨w.heap.size, 0, none⟩) hs4 (by simp; omega)).trans q3.out.1
    have r1 := (ho4.cell (p := ⟨w.heap.size, 1, none⟩) hs4 (by simp; omega)).trans q3.out.2.1
    have z0 := (ho4.frozen (p := ⟨w.heap.size, 0, none⟩) hs4 (by simp; omega)).trans q3.out.2.2.1
    have z1 := (ho4.frozen (p := ⟨w.heap.size, 1, none⟩) hs4 (by simp; omega)).trans q3.out.2.2.2
    clear HR
    go_wp2_with fail
    have p2 := put2 (.int .i64 yd) (.string (str yn)) r0 r1 (by decide)
    have d0 := p2.1
    have d1 := p2.2
    refine bodyPost_ret (v := tyV (yd, yn)) (by simp [results, Tryz.results175, go_sem, d0, d1, tyV]) rfl ?_
    have oS : Only [w.heap.size] w4 _ := ((Only.refl [w.heap.size] w4).setCell (p := ⟨w.heap.size, 0, none⟩) (.inl (by simp)) (.int .i64 yd)).setCell (p := ⟨w.heap.size, 1, none⟩) (.inl (by simp)) (.string (str yn))
    refine ⟨(yd, yn), _, rfl, htn, h4.other (by simp) (.inr (.inl r1)) (by omega) oS, hos, ?_⟩
    exact (((o2.out.next ho3 (by simp)).next oA (by simp)).trans ho4 (by simp)).next oS (by simp)

end Go.Proofs.YtildemmkhndhjaaGreatDoor
namespace Go.Proofs.YtildemmkhndhjaaGreatDoor
open Go.RowKit

theorem put4 {w : World} {b : Nat} {x0 x1 x2 x3 : Value} (v0 v1 v2 v3 : Value) (c0 : w.cell? ⟨b, 0, none⟩ = some x0) (c1 : w.cell? ⟨b, 1, none⟩ = some x1) (c2 : w.cell? ⟨b, 2, none⟩ = some x2) (c3 : w.cell? ⟨b, 3, none⟩ = some x3) :
    ((((w.setCell ⟨b, 0, none⟩ v0).setCell ⟨b, 1, none⟩ v1).setCell ⟨b, 2, none⟩ v2).setCell ⟨b, 3, none⟩ v3).cell? ⟨b, 0, none⟩ = some v0 ∧ ((((w.setCell ⟨b, 0, none⟩ v0).setCell ⟨b, 1, none⟩ v1).setCell ⟨b, 2, none⟩ v2).setCell ⟨b, 3, none⟩ v3).cell? ⟨b, 1, none⟩ = some v1 ∧
    ((((w.setCell ⟨b, 0, none⟩ v0).setCell ⟨b, 1, none⟩ v1).setCell ⟨b, 2, none⟩ v2).setCell ⟨b, 3, none⟩ v3).cell? ⟨b, 2, none⟩ = some v2 ∧ ((((w.setCell ⟨b, 0, none⟩ v0).setCell ⟨b, 1, none⟩ v1).setCell ⟨b, 2, none⟩ v2).setCell ⟨b, 3, none⟩ v3).cell? ⟨b, 3, none⟩ = some v3 := by
  refine ⟨?_, ?_, ?_, ?_⟩
  · rw [cell_setCell_ne _ _ (by simp), cell_setCell_ne _ _ (by simp), cell_setCell_ne _ _ (by simp)]
    exact cell_setCell_same _ _ c0
  · rw [cell_setCell_ne _ _ (by simp), cell_setCell_ne _ _ (by simp)]
    exact cell_setCell_same _ _ (by rw [cell_setCell_ne _ _ (by simp)]; exact c1)
  · rw [cell_setCell_ne _ _ (by simp)]
    exact cell_setCell_same _ _ (by rw [cell_setCell_ne _ _ (by simp), cell_setCell_ne _ _ (by simp)]; exact c2)
  · exact cell_setCell_same _ _ (by rw [cell_setCell_ne _ _ (by simp), cell_setCell_ne _ _ (by simp), cell_setCell_ne _ _ (by simp)]; exact c3)

/-- The names of a signature that was read are short. -/
structure SgShort (x : Sg) : Prop where
  params : ∀ t ∈ x.1, t.2.length ≤ 32
  res : x.2.2.2.length ≤ 32

theorem sigR_short (l : List UInt8) : SgShort (sigR l).1 := by
  by_cases h : (sigR l).2 = 0
  · obtain ⟨_, h2, h3, _⟩ := sigCheck_ok (sig_read l h).1
    exact ⟨fun t ht => (check_fit (h2 t ht)).2.2, (check_fit h3).2.2⟩
  · unfold sigR at h ⊢
    cases hp : sigP l with
    | none => exact ⟨by simp, by simp⟩
    | some z =>
      obtain ⟨ps, rr⟩ := z
      simp only [hp] at h ⊢
      by_cases h16 : 16 < ps.length
      · rw [if_pos h16]
        exact ⟨by simp, by simp⟩
      · rw [if_neg h16] at h
        exact absurd rfl h

/-- The four cells of a signature's block. -/
structure Sg4 (w : World) (b : Nat) (v0 v1 v2 v3 : Value) : Prop where
  c0 : w.cell? ⟨b, 0, none⟩ = some v0
  c1 : w.cell? ⟨b, 1, none⟩ = some v1
  c2 : w.cell? ⟨b, 2, none⟩ = some v2
  c3 : w.cell? ⟨b, 3, none⟩ = some v3
  f0 : w.frozen? ⟨b, 0, none⟩ = false
  f1 : w.frozen? ⟨b, 1, none⟩ = false
  f2 : w.frozen? ⟨b, 2, none⟩ = false
  f3 : w.frozen? ⟨b, 3, none⟩ = false

theorem Sg4.only {w w' : World} {S : List Nat} {b : Nat} {v0 v1 v2 v3 : Value} (h : Sg4 w b v0 v1 v2 v3) (ho : Only S w w') (hb : b ∉ S) : Sg4 w' b v0 v1 v2 v3 := by
  have hl := World.block_lt_of_cell? w _ h.c0
  exact ⟨(ho.cell (p := ⟨b, 0, none⟩) hl hb).trans h.c0, (ho.cell (p := ⟨b, 1, none⟩) hl hb).trans h.c1, (ho.cell (p := ⟨b, 2, none⟩) hl hb).trans h.c2, (ho.cell (p := ⟨b, 3, none⟩) hl hb).trans h.c3,
    (ho.frozen (p := ⟨b, 0, none⟩) hl hb).trans h.f0, (ho.frozen (p := ⟨b, 1, none⟩) hl hb).trans h.f1, (ho.frozen (p := ⟨b, 2, none⟩) hl hb).trans h.f2, (ho.frozen (p := ⟨b, 3, none⟩) hl hb).trans h.f3⟩

theorem sg4_new (w : World) (v0 v1 v2 v3 : Value) (t : TypeId) : Sg4 (w.alloc (.cells #[v0, v1, v2, v3] t)) w.heap.size v0 v1 v2 v3 :=
  ⟨by rw [cell_new]; rfl, by rw [cell_new]; rfl, by rw [cell_new]; rfl, by rw [cell_new]; rfl, frozen_new _ _ _ _, frozen_new _ _ _ _, frozen_new _ _ _ _, frozen_new _ _ _ _⟩

set_option maxHeartbeats 4000000 in
theorem rspell_sig {w : World} {sb r d : Nat} {t : St} (h : Sc w sb r d t) :
    Calls Tryz.prog 176 #[.pointer (some ⟨sb, 0, none⟩), .func (.func 162) #[] #[]] w fun e w' => ∃ (x : Sg) (t' : St) (ao : Option Addr) (cap : Nat), e = .returned (.agg #[.slice ao x.1.length cap, .bool x.2.1, .int .i64 x.2.2.1, .string (str x.2.2.2)]) ∧ SgShort x ∧ Own w' w.heap.size (.slice ao x.1.length cap) x.1 ∧ Sc w' sb r d t' ∧ Out (pSpell sigR) t x t' ∧ Only [sb, r] w w' := by
  have o0 := hid ((Only.refl [sb, r] w).alloc (.cells #[.slice none 0 0, .bool false, .int .i64 0, .string ⟨#[]⟩] 37))
  have h0 := h.only0 ((Only.refl [] w).alloc (.cells #[.slice none 0 0, .bool false, .int .i64 0, .string ⟨#[]⟩] 37))
  have hl := h.lt
  clear h
  have q0 := hid (sg4_new w (.slice none 0 0) (.bool false) (.int .i64 0) (.string ⟨#[]⟩) 37)
  have c0 := h0.c0
  have HA := hid (sc_at h0)
  go_enter Tryz.func176, Tryz.ntmps176
  go_wp2_with fail
  refine HA.out.mono ?_
  rintro e w1 ⟨n, rfl, hn, rfl⟩
  have HT := hid (sc_text h0)
  go_wp2_with fail
  refine HT.out.mono ?_
  rintro e w2 ⟨x, t1, rfl, hx, h1, hO, ho2⟩
  have HD := hid (sig_any x (by omega) w2)
  clear HA HT c0
  have c0 := h1.c0
  have o2 := hid (o0.out.trans ho2 (by simp))
  have hos := out_spell sigR hO hn
  have hl2 := h1.lt
  have hs2 : w.heap.size < w2.heap.size := Nat.lt_of_lt_of_le (by simp) ho2.size
  have q1 := hid (q0.out.only ho2 (by simp; omega))
  have hsh := sigR_short x
  generalize sigR x = y at *
  obtain ⟨⟨ps, vo, yd, yn⟩, ye⟩ := y
  unfold sigV at HD
  simp only at hos HD hsh
  by_cases he : ye = 0
  · subst he
    rw [if_pos rfl] at hos
    go_wp2_with fail
    refine HD.out.mono ?_
    rintro e w3 ⟨v, rfl, hown, ho3⟩
    obtain ⟨ao, cap, rfl⟩ := own_slice hown
    have hQ := hid (q1.out.only ho3 (by simp))
    obtain ⟨r0, r1, r2, r3, z0, z1, z2, z3⟩ := q1.out.only ho3 (by simp)
    have hs3 : w.heap.size < w3.heap.size := Nat.lt_of_lt_of_le hs2 ho3.size
    have r0' := fun o => cell_alloc o r0
    have r1' := fun o => cell_alloc o r1
    have r2' := fun o => cell_alloc o r2
    have r3' := fun o => cell_alloc o r3
    have z0' : ∀ o, (w3.alloc o).frozen? ⟨w.heap.size, 0, none⟩ = false := fun o => (frozen_alloc o hs3).trans z0
    have z1' : ∀ o, (w3.alloc o).frozen? ⟨w.heap.size, 1, none⟩ = false := fun o => (frozen_alloc o hs3).trans z1
    have z2' : ∀ o, (w3.alloc o).frozen? ⟨w.heap.size, 2, none⟩ = false := fun o => (frozen_alloc o hs3).trans z2
    have z3' : ∀ o, (w3.alloc o).frozen? ⟨w.heap.size, 3, none⟩ = false := fun o => (frozen_alloc o hs3).trans z3
    go_wp2_with fail
    have p4 := put4 (.slice ao ps.length cap) (.bool vo) (.int .i64 yd) (.string (str yn)) hQ.out.c0 hQ.out.c1 hQ.out.c2 hQ.out.c3
    have d0 := cell_alloc (.cells #[.slice ao ps.length cap, .bool vo, .int .i64 yd, .string (str yn)] 37) p4.1
    have d1 := cell_alloc (.cells #[.slice ao ps.length cap, .bool vo, .int .i64 yd, .string (str yn)] 37) p4.2.1
    have d2 := cell_alloc (.cells #[.slice ao ps.length cap, .bool vo, .int .i64 yd, .string (str yn)] 37) p4.2.2.1
    have d3 := cell_alloc (.cells #[.slice ao ps.length cap, .bool vo, .int .i64 yd, .string (str yn)] 37) p4.2.2.2
    refine bodyPost_ret (v := .agg #[.slice ao ps.length cap, .bool vo, .int .i64 yd, .string (str yn)]) (by simp [results, Tryz.results176, go_sem, d0, d1, d2, d3]) rfl ?_
    have oS : Only [w.heap.size] w3 ((((w3.setCell ⟨w.heap.size, 0, none⟩ (.slice ao ps.length cap)).setCell ⟨w.heap.size, 1, none⟩ (.bool vo)).setCell ⟨w.heap.size, 2, none⟩ (.int .i64 yd)).setCell ⟨w.heap.size, 3, none⟩ (.string (str yn))) := ((((Only.refl [w.heap.size] w3).setCell (.inl (by simp)) _).setCell (.inl (by simp)) _).setCell (.inl (by simp)) _).setCell (.inl (by simp)) _
    refine ⟨(ps, vo, yd, yn), t1, ao, cap, rfl, hsh, own_mono (own_only hown (oS.alloc _) (fun k hk => ?_)) (by omega), ?_, hos, ?_⟩
    · have := (hown.lt k hk).1
      simp
      omega
    · exact ((h1.only0 ho3).other (by simp) (.inl hQ.out.c0) (by omega) oS).only0 ((Only.refl [] _).alloc _)
    · exact ((o2.out.next ho3 (by simp)).next oS (by simp)).alloc _
  · have he' : (ye == 0) = false := by simpa using he
    rw [if_neg he] at hos
    go_wp2_with fail
    refine HD.out.mono ?_
    rintro e w3 ⟨v, rfl, hown, ho3⟩
    obtain ⟨ao, cap, rfl⟩ := own_slice hown
    have hs3 : w.heap.size < w3.heap.size := Nat.lt_of_lt_of_le hs2 ho3.size
    have oA := (Only.refl [] w3).alloc (.cells #[.slice ao ps.length cap, .bool vo, .int .i64 yd, .string (str yn)] 37)
    have h3 := (h1.only0 ho3).only0 oA
    have HR := hid (refuse_src h3 (n : Int) ye he)
    have a0 := hid (sg4_new w3 (.slice ao ps.length cap) (.bool vo) (.int .i64 yd) (.string (str yn)) 37)
    have q3 := hid (q1.out.only (ho3.next oA (by simp)) (by simp))
    have hsb : sb < w3.heap.size := by have := ho3.size; omega
    clear HD
    go_wp2_with fail
    refine HR.out.mono ?_
    rintro e w4 ⟨rfl, h4, ho4⟩
    obtain ⟨b0, b1, b2, b3, _, _, _, _⟩ := a0.out.only ho4 (by simp; omega)
    have hQ := hid (q3.out.only ho4 (by simp; omega))
    obtain ⟨r0, r1, r2, r3, z0, z1, z2, z3⟩ := q3.out.only ho4 (by simp; omega)
    clear HR
    go_wp2_with fail
    have p4 := put4 (.slice ao ps.length cap) (.bool vo) (.int .i64 yd) (.string (str yn)) hQ.out.c0 hQ.out.c1 hQ.out.c2 hQ.out.c3
    have d0 := p4.1
    have d1 := p4.2.1
    have d2 := p4.2.2.1
    have d3 := p4.2.2.2
    refine bodyPost_ret (v := .agg #[.slice ao ps.length cap, .bool vo, .int .i64 yd, .string (str yn)]) (by simp [results, Tryz.results176, go_sem, d0, d1, d2, d3]) rfl ?_
    have oS : Only [w.heap.size] w4 ((((w4.setCell ⟨w.heap.size, 0, none⟩ (.slice ao ps.length cap)).setCell ⟨w.heap.size, 1, none⟩ (.bool vo)).setCell ⟨w.heap.size, 2, none⟩ (.int .i64 yd)).setCell ⟨w.heap.size, 3, none⟩ (.string (str yn))) := ((((Only.refl [w.heap.size] w4).setCell (.inl (by simp)) _).setCell (.inl (by simp)) _).setCell (.inl (by simp)) _).setCell (.inl (by simp)) _
    refine ⟨(ps, vo, yd, yn), _, ao, cap, rfl, hsh, own_mono (own_only (own_only hown ((oA.mono (S' := [sb]) (by simp)).trans ho4 (by simp)) (fun k hk => ?_)) oS (fun k hk => ?_)) (by omega), h4.other (by simp) (.inl hQ.out.c0) (by omega) oS, hos, ?_⟩
    · have := (hown.lt k hk).1
      simp
      omega
    · have := (hown.lt k hk).1
      simp
      omega
    · exact (((o2.out.next ho3 (by simp)).next oA (by simp)).trans ho4 (by simp)).next oS (by simp)

end Go.Proofs.YtildemmkhndhjaaGreatDoor
namespace Go.Proofs.YtildemmkhndhjaaGreatDoor
open Go.RowKit

set_option maxHeartbeats 4000000 in
theorem rhandler_any {w : World} {sb r d : Nat} {t : St} (h : Sc w sb r d t) :
    Calls Tryz.prog 178 #[.pointer (some ⟨sb, 0, none⟩)] w fun e w' => ∃ (x : Hd) (t' : St), e = .returned (hdV x) ∧ x.2.2.2.length ≤ 262144 ∧ Sc w' sb r d t' ∧ Out pHand t x t' ∧ Only [sb, r] w w' := by
  have o0 := (Only.refl [sb, r] w).alloc (.cells #[.int .i64 0, .int .i64 0, .int .i64 0, .string ⟨#[]⟩] 46)
  have h0 := h.only0 ((Only.refl [] w).alloc (.cells #[.int .i64 0, .int .i64 0, .int .i64 0, .string ⟨#[]⟩] 46))
  have hl := h.lt
  obtain ⟨rv, hrv⟩ : ∃ rv, rv = w.heap.size := ⟨_, rfl⟩
  have hr : rv ≠ sb ∧ rv ≠ r := by omega
  have hw : w.heap.size ≤ rv := by omega
  obtain ⟨gv, hgv⟩ := gv_ex rv
  replace hgv := hid hgv
  have hk := knew4 hgv.out h0.c0 o0 (by subst hrv; rw [cell_new]; rfl) (by subst hrv; rw [cell_new]; rfl) (by subst hrv; rw [cell_new]; rfl) (by subst hrv; rw [cell_new]; rfl) (by subst hrv; exact frozen_new _ _ _ _) (by subst hrv; exact frozen_new _ _ _ _) (by subst hrv; exact frozen_new _ _ _ _) (by subst hrv; exact frozen_new _ _ _ _)
  clear h
  replace hk := hid hk
  replace hrv := hid hrv
  go_enter Tryz.func178, Tryz.ntmps178
  go_wp2_with fail
  rw [← hrv.out]
  go_region_held3 (fun w' => w'.cell? ⟨sb, 0, none⟩ = some (.pointer (some ⟨r, 0, none⟩)) ∧ Only [sb, r] w w' ∧ w'.cell? ⟨rv, 0, none⟩ = some (gv 0 w') ∧ w'.cell? ⟨rv, 1, none⟩ = some (gv 1 w') ∧ w'.cell? ⟨rv, 2, none⟩ = some (gv 2 w') ∧ w'.cell? ⟨rv, 3, none⟩ = some (gv 3 w') ∧ w'.frozen? ⟨rv, 0, none⟩ = false ∧ w'.frozen? ⟨rv, 1, none⟩ = false ∧ w'.frozen? ⟨rv, 2, none⟩ = false ∧ w'.frozen? ⟨rv, 3, none⟩ = false)
    (first | (with_reducible exact hk.out) | (with_reducible exact kdrew4 hgv.out hk.out) | ((with_reducible refine kset4 hgv.out hr hw _ _ ?_); (with_reducible refine kset4 hgv.out hr hw _ _ ?_); (with_reducible refine kset4 hgv.out hr hw _ _ ?_); (with_reducible refine kset4 hgv.out hr hw _ _ ?_); (with_reducible assumption)) | (with_reducible exact kcall4 hgv.out hr (by assumption) (by assumption) (by assumption) (by simp)))
    (first
      | (go_at_call 77; (first | (with_reducible refine (sc_u2 (by assumption)).mono ?_) | (with_reducible refine (sc_u2 (Sc.drew (by assumption))).mono ?_)); rintro e w1 ⟨n, t', rfl, hn, hs, hO, ho⟩)
      | (go_at_call 138; (first | (with_reducible refine (sc_text (by assumption)).mono ?_) | (with_reducible refine (sc_text (Sc.drew (by assumption))).mono ?_)); rintro e w1 ⟨x, t', rfl, hx, hs, hO, ho⟩; obtain ⟨_, _, k0, k1, k2, k3, z0, z1, z2, z3⟩ := kcall4 hgv.out hr (by assumption) hs ho (by simp)))
  rename_i wa na ta hna hsa hOa hoa wb nb tb hnb hsb hOb hob wc tc hsc hOc hoc _ hOn hH
  clear hH k0 k1 k2 k3
  have hlv : rv < (w.alloc (.cells #[.int .i64 0, .int .i64 0, .int .i64 0, .string ⟨#[]⟩] 46)).heap.size := by have := hrv.out; simp; omega
  have hoa2 : Only [r] (w.alloc (.cells #[.int .i64 0, .int .i64 0, .int .i64 0, .string ⟨#[]⟩] 46)) w1 := ((((Only.refl [r] _).drew.trans hoa (by simp)).trans hob (by simp)).trans hoc (by simp)).trans ho (by simp)
  have g : ∀ i v, #[.int .i64 0, .int .i64 0, .int .i64 0, .string ⟨#[]⟩][i]? = some v → w1.cell? ⟨rv, i, none⟩ = some v := fun i v hv => (hoa2.cell (p := ⟨rv, i, none⟩) hlv (by simp [hr.2])).trans (by rw [hrv.out, cell_new, hv])
  have u0 := cell_setCell_same w1 (.int .i64 (na : Int)) (g 0 _ rfl)
  have oS : Only [rv] w1 ((((w1.setCell ⟨rv, 0, none⟩ (.int .i64 (na : Int))).setCell ⟨rv, 1, none⟩ (.int .i64 (nb : Int))).setCell ⟨rv, 2, none⟩ (.int .i64 (n : Int))).setCell ⟨rv, 3, none⟩ (.string (str x))) := ((((Only.refl [rv] w1).setCell (.inl (by simp)) _).setCell (.inl (by simp)) _).setCell (.inl (by simp)) _).setCell (.inl (by simp)) _
  have hfin := hs.other (by simp) (.inr (.inr (g 3 _ rfl))) (by omega) oS
  have hout : Out pHand t ((na : Int), (nb : Int), (n : Int), x) t' := out_bind hOa (out_bind hOb (out_bind hOc (out_bind hO (out_done _ _))))
  have e0 := g 0 _ rfl
  have e1 := g 1 _ rfl
  have e2 := g 2 _ rfl
  have e3 := g 3 _ rfl
  go_wp2_with fail
  refine bodyPost_ret (v := hdV ((na : Int), (nb : Int), (n : Int), x)) (by simp [results, Tryz.results178, go_sem, e0, e1, e2, e3, hdV]) rfl ?_
  exact ⟨_, t', rfl, hx, hfin, hout, hOn.next oS (by simp; omega)⟩

end Go.Proofs.YtildemmkhndhjaaGreatDoor
namespace Go.Proofs.YtildemmkhndhjaaGreatDoor
open Go.RowKit

set_option maxHeartbeats 4000000 in
theorem rows_hd {w : World} {sb r d : Nat} {t : St} (h : Sc w sb r d t) (most : Nat) (hmost : most ≤ 100000) :
    Calls Tryz.prog 177 #[.pointer (some ⟨sb, 0, none⟩), .func (.func 80) #[.pointer (some ⟨r, 0, none⟩)] #[], .int .i64 (most : Int), .func (.func 178) #[.pointer (some ⟨sb, 0, none⟩)] #[]] w
      fun e w' => ∃ (xs : List Hd) (t' : St) (ao : Option Addr) (cap : Nat), e = .returned (.slice ao xs.length cap) ∧ w'.ownsRow w.heap.size 46 4 (.slice ao xs.length cap) xs.length (hcs xs) ∧ (∀ x ∈ xs, x.2.2.2.length ≤ 262144) ∧ xs.length ≤ 65536 ∧ Sc w' sb r d t' ∧ Out (pRows 1 most pHand) t xs t' ∧ Only [sb, r] w w' := by
  have c0 := h.c0
  have hl := hid h.lt
  have HA := hid (sc_at h)
  have HU := hid (sc_u1 h)
  clear h
  go_enter Tryz.func177, Tryz.ntmps177
  go_wp2_with fail
  refine HA.out.mono ?_
  rintro e w1 ⟨at_, rfl, hat, rfl⟩
  go_wp2_with fail
  refine HU.out.mono ?_
  rintro e w1 ⟨n, t0, rfl, hn, h0, hO, ho1⟩
  clear HA HU c0
  have o1 : Hid (Only [sb, r] w w1) := ho1.mono (by simp)
  replace hat := hid hat
  replace hO := hid hO
  by_cases hm : most < n
  · have gm : (most : Int) < (n : Int) := by omega
    have HR := hid (refuse_src h0 (at_ : Int) 4 (by decide))
    go_wp2_with fail
    refine HR.out.mono ?_
    rintro e w2 ⟨rfl, hS2, ho2⟩
    clear HR
    have hSt := hid hS2
    have oSt := hid (o1.out.trans ho2 (by simp))
    clear hS2 ho2 ho1 h0
    go_wp2_with fail
    go_loopw [11] (fun l wr => ∃ (xs : List Hd) (t1 : St) (ao : Option Addr) (cap : Nat), l = .slice ao xs.length cap ∧ xs.length ≤ n ∧ Hid (wr.ownsRow w.heap.size 46 4 (.slice ao xs.length cap) xs.length (hcs xs)) ∧ Hid (xs = [] → ao = none) ∧ Hid (∀ x ∈ xs, x.2.2.2.length ≤ 262144) ∧ Hid (Sc wr sb r d t1) ∧ Hid ((most < n ∧ t1 = tRefuse (at_ : Int) 4 t0 ∧ xs = []) ∨ (¬ most < n ∧ Far pHand n t0 xs t1)) ∧ Hid (Only [sb, r] w wr)) (fun l _ => n - sliceLen l)
    case atStart => exact ⟨[], _, none, 0, rfl, by simp, World.ownsRow_nil _ _ _ _, hid (fun _ => rfl), hid (by simp), hSt, hid (.inl ⟨hm, rfl, rfl⟩), oSt⟩
    case round =>
      obtain ⟨xs, t1, ao, cap, rfl, hxn, hown, hnil, hlen, hS, hF, hO1⟩ := hrel
      clear hSt oSt
      have HFi := hid (fine_src hS.out)
      by_cases hlt : xs.length < n
      · have g1 : ((xs.length : Int) < (n : Int)) := by omega
        cases hfi : isFine t1 with
        | true =>
          rw [hfi] at HFi
          have hFar : Hid (¬ most < n ∧ Far pHand n t0 xs t1) := by
            rcases hF.out with ⟨_, h2, _⟩ | h2
            · rw [h2] at hfi
              cases t0 <;> cases hfi
            · exact h2
          have HR := hid (rhandler_any hS.out)
          unfold hdV at HR
          have c0 := hS.out.c0
          go_wp2_with fail
          refine HFi.out.mono ?_
          rintro e w2 ⟨rfl, rfl⟩
          go_wp2_with fail
          refine HR.out.mono ?_
          rintro e w2 ⟨x, t2, rfl, hxl, hS2, hOx, ho2⟩
          clear HR c0
          have hl1 := hl.out
          have hown2 := rows_only hown.out (ho2.alloc (.cells #[.int .i64 x.1, .int .i64 x.2.1, .int .i64 x.2.2.1, .string (str x.2.2.2)] 46)) (fun g hg => by have := (hown.out.lt g hg).1; simp; omega)
          have o2 := hid ((hO1.out.trans ho2 (by simp)).alloc (.cells #[.int .i64 x.1, .int .i64 x.2.1, .int .i64 x.2.2.1, .string (str x.2.2.2)] 46))
          have hR := RS.fresh w2 #[.int .i64 x.1, .int .i64 x.2.1, .int .i64 x.2.2.1, .string (str x.2.2.2)] 46
          have hS3 := hid (hS2.only0 ((Only.refl [] w2).alloc (.cells #[.int .i64 x.1, .int .i64 x.2.1, .int .i64 x.2.2.1, .string (str x.2.2.2)] 46)))
          have hOw := hid hown2
          go_wp2_with (at_builtin; refine wpList_append_any (ys := hcs [x]) rfl (.tmp 33) (.tmp 36) elHd Tryz.underlying39 rfl rfl rfl hown2 hR rfl (by simp [hcs, hdC, Value.oneCell']) (by simp) (by omega) (by have := o2.out.size; omega) ?_; rintro ao3 cap3 w3 hA3)
          have hfin : Hid (Sc w3 sb r d t2) := by
            cases xs with
            | nil =>
              have hno := hnil.out rfl
              subst hno
              exact hS3.out.only0 hA3.only
            | cons y ys => exact hS3.out.row hOw.out hA3 (by omega) (u := .string (str y.2.2.2)) (by simp) (fun _ => .inr (.inr rfl))
          have o3 := hid (o2.out.next hA3.only (fun z hz => by
            cases ao with
            | none => simp [Value.ownBlock] at hz
            | some a =>
              simp [Value.ownBlock] at hz
              subst hz
              exact (hOw.out.lt a.block rfl).1))
          have hown3 := hA3.own
          have ee : hcs xs ++ hcs [x] = hcs (xs ++ [x]) := by simp [hcs]
          rw [ee] at hown3
          have hnone := hA3.none
          go_wp2_with fail
          refine ⟨⟨xs ++ [x], t2, ao3, cap3, by simp, by simp; omega, by simpa [Hid] using hown3, hid (by simp), hid (by
            intro y hy
            rcases List.mem_append.1 hy with hy | hy
            · exact hlen.out y hy
            · rw [List.mem_singleton.1 hy]; exact hxl), hfin, hid (.inr ⟨hFar.out.1, far_step hFar.out.2 hfi hOx hlt⟩), o3⟩, by simp [sliceLen]; omega⟩
        | false =>
          rw [hfi] at HFi
          go_wp2_with fail
          refine HFi.out.mono ?_
          rintro e w2 ⟨rfl, rfl⟩
          go_wp2_with fail
          go_ret
          refine ⟨xs, t1, ao, cap, rfl, hown.out, (by first | exact hlen.out | (intros; exact hlen.out _ (by assumption))), by omega, hS.out, out_rows hO.out hat.out ?_, hO1.out⟩
          rcases hF.out with ⟨h1, h2, _⟩ | ⟨h1, h2⟩
          · exact .inl ⟨h1, h2⟩
          · exact .inr ⟨h1, h2, fun hf => by rw [hfi] at hf; cases hf⟩
      · have g1 : ¬ ((xs.length : Int) < (n : Int)) := by omega
        go_wp2_with fail
        go_ret
        refine ⟨xs, t1, ao, cap, rfl, hown.out, (by first | exact hlen.out | (intros; exact hlen.out _ (by assumption))), by omega, hS.out, out_rows hO.out hat.out ?_, hO1.out⟩
        rcases hF.out with ⟨h1, h2, _⟩ | ⟨h1, h2⟩
        · exact .inl ⟨h1, h2⟩
        · exact .inr ⟨h1, h2, fun _ => by omega⟩
  · have gm : ¬ (most : Int) < (n : Int) := by omega
    have hSt := hid h0
    have oSt := o1
    clear ho1 h0
    go_wp2_with fail
    go_loopw [11] (fun l wr => ∃ (xs : List Hd) (t1 : St) (ao : Option Addr) (cap : Nat), l = .slice ao xs.length cap ∧ xs.length ≤ n ∧ Hid (wr.ownsRow w.heap.size 46 4 (.slice ao xs.length cap) xs.length (hcs xs)) ∧ Hid (xs = [] → ao = none) ∧ Hid (∀ x ∈ xs, x.2.2.2.length ≤ 262144) ∧ Hid (Sc wr sb r d t1) ∧ Hid ((most < n ∧ t1 = tRefuse (at_ : Int) 4 t0 ∧ xs = []) ∨ (¬ most < n ∧ Far pHand n t0 xs t1)) ∧ Hid (Only [sb, r] w wr)) (fun l _ => n - sliceLen l)
    case atStart => exact ⟨[], _, none, 0, rfl, by simp, World.ownsRow_nil _ _ _ _, hid (fun _ => rfl), hid (by simp), hSt, hid (.inr ⟨hm, far_start _ _ _⟩), oSt⟩
    case round =>
      obtain ⟨xs, t1, ao, cap, rfl, hxn, hown, hnil, hlen, hS, hF, hO1⟩ := hrel
      clear hSt oSt
      have HFi := hid (fine_src hS.out)
      by_cases hlt : xs.length < n
      · have g1 : ((xs.length : Int) < (n : Int)) := by omega
        cases hfi : isFine t1 with
        | true =>
          rw [hfi] at HFi
          have hFar : Hid (¬ most < n ∧ Far pHand n t0 xs t1) := by
            rcases hF.out with ⟨_, h2, _⟩ | h2
            · rw [h2] at hfi
              cases t0 <;> cases hfi
            · exact h2
          have HR := hid (rhandler_any hS.out)
          unfold hdV at HR
          have c0 := hS.out.c0
          go_wp2_with fail
          refine HFi.out.mono ?_
          rintro e w2 ⟨rfl, rfl⟩
          go_wp2_with fail
          refine HR.out.mono ?_
          rintro e w2 ⟨x, t2, rfl, hxl, hS2, hOx, ho2⟩
          clear HR c0
          have hl1 := hl.out
          have hown2 := rows_only hown.out (ho2.alloc (.cells #[.int .i64 x.1, .int .i64 x.2.1, .int .i64 x.2.2.1, .string (str x.2.2.2)] 46)) (fun g hg => by have := (hown.out.lt g hg).1; simp; omega)
          have o2 := hid ((hO1.out.trans ho2 (by simp)).alloc (.cells #[.int .i64 x.1, .int .i64 x.2.1, .int .i64 x.2.2.1, .string (str x.2.2.2)] 46))
          have hR := RS.fresh w2 #[.int .i64 x.1, .int .i64 x.2.1, .int .i64 x.2.2.1, .string (str x.2.2.2)] 46
          have hS3 := hid (hS2.only0 ((Only.refl [] w2).alloc (.cells #[.int .i64 x.1, .int .i64 x.2.1, .int .i64 x.2.2.1, .string (str x.2.2.2)] 46)))
          have hOw := hid hown2
          go_wp2_with (at_builtin; refine wpList_append_any (ys := hcs [x]) rfl (.tmp 33) (.tmp 36) elHd Tryz.underlying39 rfl rfl rfl hown2 hR rfl (by simp [hcs, hdC, Value.oneCell']) (by simp) (by omega) (by have := o2.out.size; omega) ?_; rintro ao3 cap3 w3 hA3)
          have hfin : Hid (Sc w3 sb r d t2) := by
            cases xs with
            | nil =>
              have hno := hnil.out rfl
              subst hno
              exact hS3.out.only0 hA3.only
            | cons y ys => exact hS3.out.row hOw.out hA3 (by omega) (u := .string (str y.2.2.2)) (by simp) (fun _ => .inr (.inr rfl))
          have o3 := hid (o2.out.next hA3.only (fun z hz => by
            cases ao with
            | none => simp [Value.ownBlock] at hz
            | some a =>
              simp [Value.ownBlock] at hz
              subst hz
              exact (hOw.out.lt a.block rfl).1))
          have hown3 := hA3.own
          have ee : hcs xs ++ hcs [x] = hcs (xs ++ [x]) := by simp [hcs]
          rw [ee] at hown3
          have hnone := hA3.none
          go_wp2_with fail
          refine ⟨⟨xs ++ [x], t2, ao3, cap3, by simp, by simp; omega, by simpa [Hid] using hown3, hid (by simp), hid (by
            intro y hy
            rcases List.mem_append.1 hy with hy | hy
            · exact hlen.out y hy
            · rw [List.mem_singleton.1 hy]; exact hxl), hfin, hid (.inr ⟨hFar.out.1, far_step hFar.out.2 hfi hOx hlt⟩), o3⟩, by simp [sliceLen]; omega⟩
        | false =>
          rw [hfi] at HFi
          go_wp2_with fail
          refine HFi.out.mono ?_
          rintro e w2 ⟨rfl, rfl⟩
          go_wp2_with fail
          go_ret
          refine ⟨xs, t1, ao, cap, rfl, hown.out, (by first | exact hlen.out | (intros; exact hlen.out _ (by assumption))), by omega, hS.out, out_rows hO.out hat.out ?_, hO1.out⟩
          rcases hF.out with ⟨h1, h2, _⟩ | ⟨h1, h2⟩
          · exact .inl ⟨h1, h2⟩
          · exact .inr ⟨h1, h2, fun hf => by rw [hfi] at hf; cases hf⟩
      · have g1 : ¬ ((xs.length : Int) < (n : Int)) := by omega
        go_wp2_with fail
        go_ret
        refine ⟨xs, t1, ao, cap, rfl, hown.out, (by first | exact hlen.out | (intros; exact hlen.out _ (by assumption))), by omega, hS.out, out_rows hO.out hat.out ?_, hO1.out⟩
        rcases hF.out with ⟨h1, h2, _⟩ | ⟨h1, h2⟩
        · exact .inl ⟨h1, h2⟩
        · exact .inr ⟨h1, h2, fun _ => by omega⟩

end Go.Proofs.YtildemmkhndhjaaGreatDoor
namespace Go.Proofs.YtildemmkhndhjaaGreatDoor
open Go.RowKit

/-- A new block of a method, with nothing in it yet. -/
def Mn (w : World) (b B sb r d : Nat) : Prop := Me10 w b (.int .i64 0) (.string ⟨#[]⟩) (.slice none 0 0) (.bool false) (.int .i64 0) (.string ⟨#[]⟩) (.int .i64 0) (.int .i64 0) (.slice none 0 0) (.slice none 0 0) ∧ B ≤ b ∧ b ≠ sb ∧ b ≠ r ∧ b ≠ d

theorem Sc.al {w : World} {sb r d : Nat} {t : St} (h : Sc w sb r d t) (o : Obj) : Sc (w.alloc o) sb r d t := h.only0 ((Only.refl [] w).alloc o)

theorem Mn.call {z z' : World} {b B sb r d : Nat} {X : List Nat} (h : Mn z b B sb r d) (hX : Only X z z') (hx : ∀ x ∈ X, x = sb ∨ x = r) : Mn z' b B sb r d :=
  ⟨h.1.only hX (fun hm => (hx b hm).elim h.2.2.1 h.2.2.2.1), h.2⟩

theorem Mn.newC {W z z' : World} {sb r d : Nat} {t : St} {X : List Nat} (h : Sc z sb r d t) (hS : Only [sb, r] W z) (hX : Only X (z.alloc (.cells #[.int .i64 0, .string ⟨#[]⟩, .slice none 0 0, .bool false, .int .i64 0, .string ⟨#[]⟩, .int .i64 0, .int .i64 0, .slice none 0 0, .slice none 0 0] 41)) z') (hx : ∀ x ∈ X, x = sb ∨ x = r) : Mn z' z.heap.size W.heap.size sb r d ∧ z.heap.size < (z.alloc (.cells #[.int .i64 0, .string ⟨#[]⟩, .slice none 0 0, .bool false, .int .i64 0, .string ⟨#[]⟩, .int .i64 0, .int .i64 0, .slice none 0 0, .slice none 0 0] 41)).heap.size := by
  have := h.lt
  exact ⟨Mn.call ⟨me10_new _ _ _ _ _ _ _ _ _ _ _ _, hS.size, by omega, by omega, by omega⟩ hX hx, by simp⟩

theorem Mn.newD {W z' : World} {sb r d : Nat} {t : St} {X : List Nat} (h : Sc W sb r d t) (hX : Only X (W.alloc (.cells #[.int .i64 0, .string ⟨#[]⟩, .slice none 0 0, .bool false, .int .i64 0, .string ⟨#[]⟩, .int .i64 0, .int .i64 0, .slice none 0 0, .slice none 0 0] 41)).drew z') (hx : ∀ x ∈ X, x = sb ∨ x = r) : Mn z' W.heap.size W.heap.size sb r d ∧ W.heap.size < (W.alloc (.cells #[.int .i64 0, .string ⟨#[]⟩, .slice none 0 0, .bool false, .int .i64 0, .string ⟨#[]⟩, .int .i64 0, .int .i64 0, .slice none 0 0, .slice none 0 0] 41)).drew.heap.size := by
  have := h.lt
  have h0 : Mn (W.alloc (.cells #[.int .i64 0, .string ⟨#[]⟩, .slice none 0 0, .bool false, .int .i64 0, .string ⟨#[]⟩, .int .i64 0, .int .i64 0, .slice none 0 0, .slice none 0 0] 41)) W.heap.size W.heap.size sb r d := ⟨me10_new _ _ _ _ _ _ _ _ _ _ _ _, Nat.le_refl _, by omega, by omega, by omega⟩
  exact ⟨Mn.call (Mn.call (X := []) h0 ((Only.refl [] _).drew) (by simp)) hX hx, by simp⟩

theorem Mn.callC {z z' : World} {b B sb r d : Nat} {X : List Nat} (h : Mn z b B sb r d) (hX : Only X z z') (hx : ∀ x ∈ X, x = sb ∨ x = r) : Mn z' b B sb r d ∧ b < z.heap.size := ⟨h.call hX hx, World.block_lt_of_cell? z _ h.1.c0⟩

theorem kcall0 {W z z' : World} {sb r d : Nat} {t : St} {X : List Nat} (h : z.cell? ⟨sb, 0, none⟩ = some (.pointer (some ⟨r, 0, none⟩)) ∧ Only [sb, r] W z) (hs : Sc z' sb r d t) (hX : Only X z z') (hx : ∀ x ∈ X, x = sb ∨ x = r) : z'.cell? ⟨sb, 0, none⟩ = some (.pointer (some ⟨r, 0, none⟩)) ∧ Only [sb, r] W z' :=
  ⟨hs.c0, h.2.trans hX (fun x hm => by rcases hx x hm with h | h <;> simp [h])⟩
theorem kdrew0 {W z : World} {sb r : Nat} (h : z.cell? ⟨sb, 0, none⟩ = some (.pointer (some ⟨r, 0, none⟩)) ∧ Only [sb, r] W z) : z.drew.cell? ⟨sb, 0, none⟩ = some (.pointer (some ⟨r, 0, none⟩)) ∧ Only [sb, r] W z.drew := ⟨h.1, h.2.drew⟩
theorem kalloc0 {W z : World} {sb r : Nat} (o : Obj) (h : z.cell? ⟨sb, 0, none⟩ = some (.pointer (some ⟨r, 0, none⟩)) ∧ Only [sb, r] W z) : (z.alloc o).cell? ⟨sb, 0, none⟩ = some (.pointer (some ⟨r, 0, none⟩)) ∧ Only [sb, r] W (z.alloc o) := ⟨cell_alloc o h.1, h.2.alloc o⟩
theorem kz {W z z' : World} {sb r : Nat} {X : List Nat} (h : z.cell? ⟨sb, 0, none⟩ = some (.pointer (some ⟨r, 0, none⟩)) ∧ Only [sb, r] W z) (_ : Only X z z') : W.heap.size ≤ z.heap.size := h.2.size
theorem kput0 {W z : World} {sb r b : Nat} (hb : W.heap.size ≤ b) (hn : b ≠ sb) (i : Nat) (u : Value) (h : z.cell? ⟨sb, 0, none⟩ = some (.pointer (some ⟨r, 0, none⟩)) ∧ Only [sb, r] W z) : (z.setCell ⟨b, i, none⟩ u).cell? ⟨sb, 0, none⟩ = some (.pointer (some ⟨r, 0, none⟩)) ∧ Only [sb, r] W (z.setCell ⟨b, i, none⟩ u) := ⟨(cell_setCell_ne _ _ (by simp)).trans h.1, h.2.setCell (.inr hb) _⟩

/-- What the method's first three parts leave: the local variable's block. -/
def Mcut (W : World) (sb r d : Nat) (t : St) (s3 : Value) (wx : World) : Prop :=
  ∃ (lb n : Nat) (x : List UInt8) (y : Sg) (t3 : St) (ao : Option Addr) (cap : Nat), s3 = .pointer (some ⟨lb, 0, none⟩) ∧ n < 256 ∧ x.length ≤ 262144 ∧ SgShort y ∧ Own wx W.heap.size (.slice ao y.1.length cap) y.1 ∧ (∀ k, (Value.slice ao y.1.length cap).ownBlock = some k → k ≠ lb) ∧ Sc wx sb r d t3 ∧ Only [sb, r] W wx ∧ Me10 wx lb (.int .i64 (n : Int)) (.string (str x)) (.slice ao y.1.length cap) (.bool y.2.1) (.int .i64 y.2.2.1) (.string (str y.2.2.2)) (.int .i64 0) (.int .i64 0) (.slice none 0 0) (.slice none 0 0) ∧ W.heap.size ≤ lb ∧ lb ≠ sb ∧ lb ≠ r ∧ lb ≠ d ∧ ∃ t1 t2, Out (pU 1) t n t1 ∧ Out pText t1 x t2 ∧ Out (pSpell sigR) t2 y t3

theorem Mcut.old {W w1 z : World} {sb r d b n cap : Nat} {t t1 t2 t3 : St} {x : List UInt8} {y : Sg} {ao : Option Addr} (hn : n < 256) (hx : x.length ≤ 262144) (hy : SgShort y) (hown : Own w1 z.heap.size (.slice ao y.1.length cap) y.1) (hs : Sc w1 sb r d t3) (hO1 : Out (pU 1) t n t1) (hO2 : Out pText t1 x t2) (hO3 : Out (pSpell sigR) t2 y t3) (ho : Only [sb, r] W w1) (hz : W.heap.size ≤ z.heap.size) (hM : Mn w1 b W.heap.size sb r d) (hl : b < z.heap.size) :
    Mcut W sb r d t (.pointer (some ⟨b, 0, none⟩)) ((((((((((w1.setCell ⟨b, 0, none⟩ (.int .i64 (n : Int))).setCell ⟨b, 1, none⟩ (.string (str x))).setCell ⟨b, 2, none⟩ (.slice ao y.1.length cap)).setCell ⟨b, 3, none⟩ (.bool y.2.1)).setCell ⟨b, 4, none⟩ (.int .i64 y.2.2.1)).setCell ⟨b, 5, none⟩ (.string (str y.2.2.2))).setCell ⟨b, 6, none⟩ (.int .i64 0)).setCell ⟨b, 7, none⟩ (.int .i64 0)).setCell ⟨b, 8, none⟩ (.slice none 0 0)).setCell ⟨b, 9, none⟩ (.slice none 0 0)) := by
  obtain ⟨hm, hB, n1, n2, n3⟩ := hM
  obtain ⟨p, q⟩ := hm.put (.int .i64 (n : Int)) (.string (str x)) (.slice ao y.1.length cap) (.bool y.2.1) (.int .i64 y.2.2.1) (.string (str y.2.2.2)) (.int .i64 0) (.int .i64 0) (.slice none 0 0) (.slice none 0 0)
  refine ⟨b, n, x, y, t3, ao, cap, rfl, hn, hx, hy, own_mono (own_only hown q (fun k hk => ?_)) hz, fun k hk => ?_, hs.other (by simp) (.inr (.inl hm.c1)) ⟨n1, n2, n3⟩ q, ho.next q (by simp; omega), p, hB, n1, n2, n3, t1, t2, hO1, hO2, hO3⟩
  · have := (hown.lt k hk).1
    simp
    omega
  · have := (hown.lt k hk).1
    omega

theorem Mcut.fresh {W w1 z : World} {sb r d n cap : Nat} {t t1 t2 t3 : St} {x : List UInt8} {y : Sg} {ao : Option Addr} (hn : n < 256) (hx : x.length ≤ 262144) (hy : SgShort y) (hown : Own w1 z.heap.size (.slice ao y.1.length cap) y.1) (hs : Sc w1 sb r d t3) (hO1 : Out (pU 1) t n t1) (hO2 : Out pText t1 x t2) (hO3 : Out (pSpell sigR) t2 y t3) (ho : Only [sb, r] W w1) (hz : W.heap.size ≤ z.heap.size) :
    Mcut W sb r d t (.pointer (some ⟨w1.heap.size, 0, none⟩)) (w1.alloc (.cells #[.int .i64 (n : Int), .string (str x), .slice ao y.1.length cap, .bool y.2.1, .int .i64 y.2.2.1, .string (str y.2.2.2), .int .i64 0, .int .i64 0, .slice none 0 0, .slice none 0 0] 41)) := by
  have hl := hs.lt
  have q := (Only.refl [] w1).alloc (.cells #[.int .i64 (n : Int), .string (str x), .slice ao y.1.length cap, .bool y.2.1, .int .i64 y.2.2.1, .string (str y.2.2.2), .int .i64 0, .int .i64 0, .slice none 0 0, .slice none 0 0] 41)
  refine ⟨w1.heap.size, n, x, y, t3, ao, cap, rfl, hn, hx, hy, own_mono (own_only hown q (by simp)) hz, fun k hk => ?_, hs.only0 q, ho.alloc _, me10_new _ _ _ _ _ _ _ _ _ _ _ _, ho.size, by omega, by omega, by omega, t1, t2, hO1, hO2, hO3⟩
  have := (hown.lt k hk).2
  omega

theorem MeAt.own {w w' : World} {B : Nat} {S : List Nat} {vp vc vh : Value} {m : Me} (h : MeAt (OwR w B fun _ => True) vp vc vh m) (ho : Only S w w') (hS : ∀ k ∈ S, k < B) : MeAt (OwR w' B fun _ => True) vp vc vh m :=
  h.imp fun _ _ _ _ _ g => ⟨rows_only g.1 ho (fun k hk hm => by
    have := (g.1.lt k hk).1
    have := hS k hm
    omega), fun _ _ => trivial⟩

/-- What region 3 leaves. -/
def Mreg3 (wc : World) (sb r d lb : Nat) (t3 : St) (v0 v1 v2 v3 v4 v5 v8 v9 : Value) (wx : World) : Prop :=
  ∃ (a b : Nat) (t5 t4 : St), Me10 wx lb v0 v1 v2 v3 v4 v5 (.int .i64 (a : Int)) (.int .i64 (b : Int)) v8 v9 ∧ Only [r, lb] wc wx ∧ Sc wx sb r d t4 ∧ Out (pU 1) t3 a t5 ∧ Out (pU 1) t5 b t4

theorem mreg3 {wc wa w1 : World} {sb r d lb a b : Nat} {t3 t4 t5 : St} {v0 v1 v2 v3 v4 v5 v6 v7 v8 v9 : Value} (hL : Me10 wc lb v0 v1 v2 v3 v4 v5 v6 v7 v8 v9) (hu : ∀ x, v1 ≠ .int .i64 x) (h1 : Out (pU 1) t3 a t5) (o1 : Only [r] wc.drew wa) (h2 : Out (pU 1) t5 b t4) (o2 : Only [r] wa w1) (hs : Sc w1 sb r d t4) (hn : lb ≠ sb ∧ lb ≠ r ∧ lb ≠ d) :
    Mreg3 wc sb r d lb t3 v0 v1 v2 v3 v4 v5 v8 v9 ((w1.setCell ⟨lb, 6, none⟩ (.int .i64 (a : Int))).setCell ⟨lb, 7, none⟩ (.int .i64 (b : Int))) := by
  have oc : Only [r] wc w1 := ((Only.refl [r] wc).drew.trans o1 (by simp)).trans o2 (by simp)
  have hL1 := hL.only oc (by simp [hn.2.1])
  have oS : Only [lb] w1 ((w1.setCell ⟨lb, 6, none⟩ (.int .i64 (a : Int))).setCell ⟨lb, 7, none⟩ (.int .i64 (b : Int))) := ((Only.refl [lb] w1).setCell (.inl (by simp)) _).setCell (.inl (by simp)) _
  exact ⟨a, b, t5, t4, (hL1.put6 _).put7 _, (oc.mono (S' := [r, lb]) (by simp)).trans oS (by simp), hs.other hu (.inr (.inl hL1.c1)) hn oS, h1, h2⟩

/-- What region 4 leaves. -/
def Mreg4 (W wc : World) (sb r d lb : Nat) (t4 : St) (v0 v1 v2 v3 v4 v5 v6 v7 v9 : Value) (wx : World) : Prop :=
  ∃ (n : Nat) (x : List UInt8) (t5 t6 : St) (ao : Option Addr) (cap : Nat), Me10 wx lb v0 v1 v2 v3 v4 v5 v6 v7 (.slice ao x.length cap) v9 ∧ Only [r, lb] wc wx ∧ Sc wx sb r d t6 ∧ Out (pU 2) t4 n t5 ∧ Out (pTake n) t5 x t6 ∧ OwR wx W.heap.size (fun g => g ≠ lb) 5 1 (.slice ao x.length cap) x.length (bcs x)

theorem mreg4 {W wc wa w1 : World} {sb r d lb n cap : Nat} {x : List UInt8} {ao : Option Addr} {t4 t5 t6 : St} {v0 v1 v2 v3 v4 v5 v6 v7 v8 v9 : Value} (hL : Me10 wc lb v0 v1 v2 v3 v4 v5 v6 v7 v8 v9) (hu : ∀ x, v1 ≠ .int .i64 x) (hW : W.heap.size ≤ wc.heap.size) (h1 : Out (pU 2) t4 n t5) (o1 : Only [r] wc.drew wa) (h2 : Out (pTake n) t5 x t6) (hown : w1.ownsRow wa.heap.size 5 1 (.slice ao x.length cap) x.length (bcs x)) (o2 : Only [r] wa w1) (hs : Sc w1 sb r d t6) (hn : lb ≠ sb ∧ lb ≠ r ∧ lb ≠ d) :
    Mreg4 W wc sb r d lb t4 v0 v1 v2 v3 v4 v5 v6 v7 v9 (w1.setCell ⟨lb, 8, none⟩ (.slice ao x.length cap)) := by
  have oc : Only [r] wc w1 := ((Only.refl [r] wc).drew.trans o1 (by simp)).trans o2 (by simp)
  have hL1 := hL.only oc (by simp [hn.2.1])
  have hl : lb < wc.heap.size := World.block_lt_of_cell? wc _ hL.c0
  have hsz : wc.heap.size ≤ wa.heap.size := ((Only.refl [r] wc).drew.trans o1 (by simp)).size
  have oS : Only [lb] w1 (w1.setCell ⟨lb, 8, none⟩ (.slice ao x.length cap)) := (Only.refl [lb] w1).setCell (.inl (by simp)) _
  have hne : ∀ k, (Value.slice ao x.length cap).ownBlock = some k → k ≠ lb := fun k hk => by
    have := (hown.lt k hk).1
    omega
  exact ⟨n, x, t5, t6, ao, cap, hL1.put8 _, (oc.mono (S' := [r, lb]) (by simp)).trans oS (by simp), hs.other hu (.inr (.inl hL1.c1)) hn oS, h1, h2, rows_mono (rows_only hown oS (fun k hk => by simp [hne k hk])) (by omega), hne⟩

end Go.Proofs.YtildemmkhndhjaaGreatDoor
