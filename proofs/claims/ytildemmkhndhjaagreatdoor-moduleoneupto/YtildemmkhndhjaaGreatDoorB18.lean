/-
  What the proof leans on, part 18 of 28. The conditions stand in each theorem.
-/
import Derived.Test.YtildemmkhndhjaaGreatDoorB16
import Derived.Test.YtildemmkhndhjaaGreatDoorB11
namespace Go.Proofs.YtildemmkhndhjaaGreatDoor
open Go.RowKit

theorem elStr : ElT 9 (.string ⟨#[]⟩) 1 16 := ⟨by kernel_rfl, rfl, by decide, by decide⟩
theorem elFd : ElT 44 (.agg #[.int .i64 0, .string ⟨#[]⟩, .int .i64 0, .string ⟨#[]⟩]) 4 48 := ⟨by kernel_rfl, rfl, by decide, by decide⟩
theorem elHd : ElT 46 (.agg #[.int .i64 0, .int .i64 0, .int .i64 0, .string ⟨#[]⟩]) 4 40 := ⟨by kernel_rfl, rfl, by decide, by decide⟩
theorem elMe : ElT 41 (.agg #[.int .i64 0, .string ⟨#[]⟩, .slice none 0 0, .bool false, .int .i64 0, .string ⟨#[]⟩, .int .i64 0, .int .i64 0, .slice none 0 0, .slice none 0 0]) 10 144 := ⟨by kernel_rfl, rfl, by decide, by decide⟩
theorem elCl : ElT 28 (.agg #[.int .i64 0, .string ⟨#[]⟩, .string ⟨#[]⟩, .slice none 0 0, .slice none 0 0, .slice none 0 0]) 6 112 := ⟨by kernel_rfl, rfl, by decide, by decide⟩

theorem slice_hiG {st e : TypeId} {z : Value} {k n : Nat} (hE : ElT e z k n) (hst : Tryz.prog.underlying st = some (.slice e)) (ao : Option Addr) (len cap m : Nat) (hm : m ≤ cap) (w : World) :
  (Instr.slice st (.slice ao len cap) none (some (.int .i64 (m : Int))) none).run Tryz.prog w = .ok (.slice ao m cap) w := by
 obtain ⟨i0, hi, hz0, hz1, hz2⟩ := hE.parts
 simp [Instr.slice, run_underlying hst, Instr.sliceBounds, run_sliceBound, sizeOf, typeInfo, hi, hm]
 cases ao <;> simp [Addr.add]

theorem firstE_drop {α : Type} (g : List α → α → Int × Int) (l : List α) (j : Nat) (h : j < l.length) : firstE g (l.take j) (l.drop j) = if (g (l.take j) l[j]).2 = 0 then firstE g (l.take (j + 1)) (l.drop (j + 1)) else (0, (j : Int), (g (l.take j) l[j]).1, (g (l.take j) l[j]).2) := by
 rw [List.drop_eq_getElem_cons h, firstE, List.take_succ_eq_append_getElem h, List.length_take, Nat.min_eq_left (by omega)]

theorem keep4 {w z z' : World} {b : Nat} {v0 v1 v2 v3 : Value} (ho : Only [] z z') (h : z.cell? ⟨b, 0, none⟩ = some v0 ∧ z.cell? ⟨b, 1, none⟩ = some v1 ∧ z.cell? ⟨b, 2, none⟩ = some v2 ∧ z.cell? ⟨b, 3, none⟩ = some v3 ∧ Only [] w z) : z'.cell? ⟨b, 0, none⟩ = some v0 ∧ z'.cell? ⟨b, 1, none⟩ = some v1 ∧ z'.cell? ⟨b, 2, none⟩ = some v2 ∧ z'.cell? ⟨b, 3, none⟩ = some v3 ∧ Only [] w z' := by
 obtain ⟨h0, h1, h2, h3, h⟩ := h
 have hl := World.block_lt_of_cell? z _ h0
 exact ⟨(ho.cell (p := ⟨b, 0, none⟩) hl (by simp)).trans h0, (ho.cell (p := ⟨b, 1, none⟩) hl (by simp)).trans h1, (ho.cell (p := ⟨b, 2, none⟩) hl (by simp)).trans h2, (ho.cell (p := ⟨b, 3, none⟩) hl (by simp)).trans h3, h.next ho (by simp)⟩

theorem flat_take {α : Type} {k : Nat} (f : α → List Value) (hf : ∀ x, (f x).length = k) (l : List α) (n : Nat) : (l.flatMap f).take (n * k) = (l.take n).flatMap f := by
 induction l generalizing n with
 | nil => simp
 | cons x l ih =>
  cases n with
  | zero => simp
  | succ n =>
   rw [List.flatMap_cons, List.take_succ_cons, List.flatMap_cons, Nat.add_mul, Nat.one_mul, Nat.add_comm, ← hf x, List.take_length_add_append, hf x, ih]
theorem scs_take (l : List (List UInt8)) (n : Nat) : (scs l).take n = scs (l.take n) := by
 have := flat_take scC (fun _ => rfl) l n
 rwa [Nat.mul_one] at this
theorem fcs_take (l : List Fd) (n : Nat) : (fcs l).take (n * 4) = fcs (l.take n) := flat_take fdC (fun _ => rfl) l n

/-- An error that is none is nil, and the other way. -/
theorem EV.nil_iff {w : World} {B : Nat} {v : Value} {b : Bp} (h : EV w B v b) : (b.2.2.2 = 0 ∧ v = .nilIface) ∨ (b.2.2.2 ≠ 0 ∧ ∃ t u, v = .iface t u) := by
 cases h with
 | no h => exact .inl ⟨h, rfl⟩
 | num h => exact .inr ⟨h, _, _, rfl⟩
 | bad h hp hb => exact .inr ⟨h, _, _, rfl⟩

set_option maxHeartbeats 4000000 in
theorem members_str {w : World} (hg : Ety w) {ao : Option Addr} {l : List (List UInt8)} {d cap : Nat} (hS : RS w ao (scs l) d) (hc : l.length ≤ cap) (hN : ∀ s ∈ l, s.length ≤ 9223372036854775807) (most : Nat) (hm : most ≤ 1000) :
  Calls Tryz.prog 47 #[.slice ao l.length cap, .int .i64 (most : Int), .func (.func 48) #[] #[]] w fun e w' => ∃ v, e = .returned v ∧ EV w' w.heap.size v (membersE most (at0 faceE) l) ∧ Only [] w w' := by
 unfold membersE
 have hsl := slice_hiG elStr Tryz.underlying24 ao l.length cap
 by_cases hmany : most < l.length
 ·rw [if_pos hmany]
  have gm : (most : Int) < (l.length : Int) := by omega
  clear hsl
  go_enter Tryz.func47, Tryz.ntmps47
  go_wp2_with fail
  go_ret
  exact ⟨_, rfl, .num (by decide), Only.refl _ _⟩
 rw [if_neg hmany]
 have gm : ¬ (most : Int) < (l.length : Int) := by omega
 obtain ⟨x, hx⟩ : ∃ x, x = firstE (at0 faceE) [] l := ⟨_, rfl⟩
 rw [← hx]
 have hr : Hid (x = firstE (at0 faceE) (l.take 0) (l.drop 0)) := by rw [hx]; rfl
 clear hx
 have HS := hid hS
 have HN := hid hN
 clear hS hN
 replace hg := hid hg
 replace hsl := hid hsl
 go_enter Tryz.func47, Tryz.ntmps47
 go_wp2_with fail
 go_loopw [17] (fun i wr => ∃ (j : Nat), j ≤ l.length ∧ i = .int .i64 (j : Int) ∧ Hid (x = firstE (at0 faceE) (l.take j) (l.drop j)) ∧ Hid (Only [] w wr)) (fun i _ => l.length - (intOf i).toNat)
 case atStart => exact ⟨0, by omega, rfl, hr, hid (Only.refl _ _)⟩
 case round =>
  obtain ⟨j, hj, rfl, hq, ho⟩ := hrel
  clear hr
  by_cases hlt : j < l.length
  ·have g2 : ((j : Int) < (l.length : Int)) := by omega
   have hdr := firstE_drop (at0 faceE) l j hlt
   rw [← hq.out] at hdr
   have ks := hsl.out j (by omega)
   have hR := HS.out.only0 ho.out
   have hT := hR.take j
   rw [scs_take] at hT
   obtain ⟨off, rfl, c0⟩ := hR.str hlt
   have hn := HN.out l[j] (List.getElem_mem hlt)
   have hlt2 : (l.take j).length = j := by rw [List.length_take]; omega
   have HC0 := checkFace_any (cap := cap) hT (by omega) l[j] hn
   rw [hlt2] at HC0
   generalize l[j] = y at *
   have HC : Hid (Calls Tryz.prog 48 #[.slice (some ⟨d, off, none⟩) j cap, .string (str y)] wr fun e w' => ∃ v, e = .returned v ∧ EV w' wr.heap.size v (0, 0, (at0 faceE (l.take j) y).1, (at0 faceE (l.take j) y).2) ∧ Only [] wr w') := HC0.mono fun _ _ h => ⟨_, h.1, EV.bare _ _ _, h.2⟩
   clear HC0 hT hR hn hlt2
   clear hq
   go_wp2_with fail
   refine HC.out.mono ?_
   rintro e w1 ⟨v, rfl, hev, ho1⟩
   rcases hev.nil_iff with ⟨he, rfl⟩ | ⟨he, t, u, rfl⟩
   ·rw [if_pos he] at hdr
    replace hdr := hid hdr
    go_wp2_with fail
    refine ⟨⟨j + 1, by omega, by go_num, hdr, hid (ho.out.next ho1 (by simp))⟩, by simp [intOf]; omega⟩
   ·rw [if_neg he] at hdr
    have HM := hid (inMember_any (hg.out.only0 (ho.out.next ho1 (by simp))) (B := wr.heap.size) ho1.size hev he (j : Int))
    clear hsl ks
    go_wp2_with fail
    refine HM.out.mono ?_
    rintro e w2 ⟨p, hp, rfl, hb, ho2, hp2⟩
    go_wp2_with fail
    go_ret
    subst hdr
    exact ⟨_, rfl, .bad he (by have := ho.out.size; omega) hb, (ho.out.next ho1 (by simp)).next ho2 (by simp; have := ho.out.size; omega)⟩
  ·have g2 : ¬ ((j : Int) < (l.length : Int)) := by omega
   have hxx : x = ok4 := by rw [hq.out, List.drop_eq_nil_of_le (by omega)]; rfl
   clear hq
   go_wp2_with fail
   go_ret
   subst hxx
   exact ⟨_, rfl, .no rfl, ho.out⟩

set_option maxHeartbeats 4000000 in
theorem members_fd {w : World} (hg : Ety w) {ao : Option Addr} {l : List Fd} {d cap : Nat} (hS : RS w ao (fcs l) d) (hc : l.length ≤ cap) (hN : ∀ f ∈ l, f.2.1.length ≤ 9223372036854775807 ∧ f.2.2.2.length ≤ 9223372036854775807) (most : Nat) (hm : most ≤ 1000) :
  Calls Tryz.prog 49 #[.slice ao l.length cap, .int .i64 (most : Int), .func (.func 50) #[] #[]] w fun e w' => ∃ v, e = .returned v ∧ EV w' w.heap.size v (membersE most (at0 fieldE) l) ∧ Only [] w w' := by
 unfold membersE
 have hsl := slice_hiG elFd Tryz.underlying25 ao l.length cap
 by_cases hmany : most < l.length
 ·rw [if_pos hmany]
  have gm : (most : Int) < (l.length : Int) := by omega
  clear hsl
  go_enter Tryz.func49, Tryz.ntmps49
  go_wp2_with fail
  go_ret
  exact ⟨_, rfl, .num (by decide), Only.refl _ _⟩
 rw [if_neg hmany]
 have gm : ¬ (most : Int) < (l.length : Int) := by omega
 obtain ⟨x, hx⟩ : ∃ x, x = firstE (at0 fieldE) [] l := ⟨_, rfl⟩
 rw [← hx]
 have hr : Hid (x = firstE (at0 fieldE) (l.take 0) (l.drop 0)) := by rw [hx]; rfl
 clear hx
 have HS := hid hS
 have HN := hid hN
 clear hS hN
 replace hg := hid hg
 replace hsl := hid hsl
 go_enter Tryz.func49, Tryz.ntmps49
 go_wp2_with fail
 go_loopw [17] (fun i wr => ∃ (j : Nat), j ≤ l.length ∧ i = .int .i64 (j : Int) ∧ Hid (x = firstE (at0 fieldE) (l.take j) (l.drop j)) ∧ Hid (Only [] w wr)) (fun i _ => l.length - (intOf i).toNat)
 case atStart => exact ⟨0, by omega, rfl, hr, hid (Only.refl _ _)⟩
 case round =>
  obtain ⟨j, hj, rfl, hq, ho⟩ := hrel
  clear hr
  by_cases hlt : j < l.length
  ·have g2 : ((j : Int) < (l.length : Int)) := by omega
   have hdr := firstE_drop (at0 fieldE) l j hlt
   rw [← hq.out] at hdr
   have ks := hsl.out j (by omega)
   have hR := HS.out.only0 ho.out
   have hT := hR.take (j * 4)
   rw [fcs_take] at hT
   obtain ⟨off, rfl, c0, c1, c2, c3⟩ := fd_cells hR hlt
   have hn := HN.out l[j] (List.getElem_mem hlt)
   have hlt2 : (l.take j).length = j := by rw [List.length_take]; omega
   have HC0 := fun W (hW : Only [] wr W) => checkField_any (cap := cap) (hT.only0 hW) (by omega) l[j] hn.1 hn.2
   rw [hlt2] at HC0
   generalize l[j] = y at *
   unfold fdV at HC0
   have HC : Hid (∀ W, Only [] wr W → Calls Tryz.prog 50 #[.slice (some ⟨d, off, none⟩) j cap, .agg #[.int .i64 y.1, .string (str y.2.1), .int .i64 y.2.2.1, .string (str y.2.2.2)]] W fun e w' => ∃ v, e = .returned v ∧ EV w' wr.heap.size v (0, 0, (at0 fieldE (l.take j) y).1, (at0 fieldE (l.take j) y).2) ∧ Only [] W w') := fun W hW => (HC0 W hW).mono fun _ _ h => ⟨_, h.1, EV.bare _ _ _, h.2⟩
   have oo := (Only.refl [] wr).alloc (.cells #[.int .i64 y.1, .string (str y.2.1), .int .i64 y.2.2.1, .string (str y.2.2.2)] 44)
   clear HC0 hT hR hn hlt2
   clear hq
   go_wp2_with fail
   go_region_held3 (fun w' => w'.cell? ⟨wr.heap.size, 0, none⟩ = some (.int .i64 y.1) ∧ w'.cell? ⟨wr.heap.size, 1, none⟩ = some (.string (str y.2.1)) ∧ w'.cell? ⟨wr.heap.size, 2, none⟩ = some (.int .i64 y.2.2.1) ∧ w'.cell? ⟨wr.heap.size, 3, none⟩ = some (.string (str y.2.2.2)) ∧ Only [] wr w')
    (first | assumption | exact keep4 (by assumption) (by assumption) | exact ⟨by rw [cell_new]; rfl, by rw [cell_new]; rfl, by rw [cell_new]; rfl, by rw [cell_new]; rfl, oo⟩ | exact ⟨by show (wr.alloc _).cell? _ = _; rw [cell_new]; rfl, by show (wr.alloc _).cell? _ = _; rw [cell_new]; rfl, by show (wr.alloc _).cell? _ = _; rw [cell_new]; rfl, by show (wr.alloc _).cell? _ = _; rw [cell_new]; rfl, oo.drew⟩)
    (first
     | (go_at_call 50; (with_reducible refine (HC.out _ ?_).mono ?_); (simp [*]); rintro e w1 ⟨v, rfl, hev, ho1⟩))
   rename_i hS
   replace ho1 := hS.2.2.2.2
   clear hS
   rcases hev.nil_iff with ⟨he, rfl⟩ | ⟨he, t, u, rfl⟩
   ·rw [if_pos he] at hdr
    replace hdr := hid hdr
    go_wp2_with fail
    refine ⟨⟨j + 1, by omega, by go_num, hdr, hid (ho.out.next ho1 (by simp))⟩, by simp [intOf]; omega⟩
   ·rw [if_neg he] at hdr
    have HM := hid (inMember_any (hg.out.only0 (ho.out.next ho1 (by simp))) (B := wr.heap.size) ho1.size hev he (j : Int))
    clear hsl ks
    go_wp2_with fail
    refine HM.out.mono ?_
    rintro e w2 ⟨p, hp, rfl, hb, ho2, hp2⟩
    go_wp2_with fail
    go_ret
    subst hdr
    exact ⟨_, rfl, .bad he (by have := ho.out.size; omega) hb, (ho.out.next ho1 (by simp)).next ho2 (by simp; have := ho.out.size; omega)⟩
  ·have g2 : ¬ ((j : Int) < (l.length : Int)) := by omega
   have hxx : x = ok4 := by rw [hq.out, List.drop_eq_nil_of_le (by omega)]; rfl
   clear hq
   go_wp2_with fail
   go_ret
   subst hxx
   exact ⟨_, rfl, .no rfl, ho.out⟩

/-- A class in a block. -/
structure ClBlk (w : World) (b : Nat) (vf vd vm : Value) (c : Cl) : Prop where
 c0 : w.cell? ⟨b, 0, none⟩ = some (.int .i64 c.flags)
 c1 : w.cell? ⟨b, 1, none⟩ = some (.string (str c.name))
 c2 : w.cell? ⟨b, 2, none⟩ = some (.string (str c.super))
 c3 : w.cell? ⟨b, 3, none⟩ = some vf
 c4 : w.cell? ⟨b, 4, none⟩ = some vd
 c5 : w.cell? ⟨b, 5, none⟩ = some vm

theorem ClBlk.only {w w' : World} {S : List Nat} {b : Nat} {vf vd vm : Value} {c : Cl} (h : ClBlk w b vf vd vm c) (ho : Only S w w') (hb : b ∉ S) : ClBlk w' b vf vd vm c := by
 have hl : b < w.heap.size := World.block_lt_of_cell? w _ h.c1
 exact ⟨(ho.cell (p := ⟨b, 0, none⟩) hl hb).trans h.c0, (ho.cell (p := ⟨b, 1, none⟩) hl hb).trans h.c1, (ho.cell (p := ⟨b, 2, none⟩) hl hb).trans h.c2, (ho.cell (p := ⟨b, 3, none⟩) hl hb).trans h.c3, (ho.cell (p := ⟨b, 4, none⟩) hl hb).trans h.c4, (ho.cell (p := ⟨b, 5, none⟩) hl hb).trans h.c5⟩

theorem clBlk_new (w : World) (c : Cl) (vf vd vm : Value) : ClBlk (w.alloc (.cells #[.int .i64 c.flags, .string (str c.name), .string (str c.super), vf, vd, vm] 28)) w.heap.size vf vd vm c :=
 ⟨by rw [cell_new]; rfl, by rw [cell_new]; rfl, by rw [cell_new]; rfl, by rw [cell_new]; rfl, by rw [cell_new]; rfl, by rw [cell_new]; rfl⟩

theorem heading_16 {l : List Me} {m : Me} (h : headingE l m = 0) : m.sig.1.length ≤ 16 := by
 unfold headingE at h
 split at h
 ·cases h
 ·split at h
  ·split at h
   ·rename_i hs
    exact (sigCheck_ok hs).1
   ·rename_i hs
    exact absurd h hs
  ·cases h

theorem bare_nil {e : Int} : bareV e = .nilIface ↔ e = 0 := by
 unfold bareV
 split
 ·rename_i h
  simp [h]
 ·rename_i h
  simp [h]

set_option maxHeartbeats 4000000 in
theorem clo_any {w : World} {P Q : Nat → Prop} {ao : Option Addr} {ah : List Me} {cs : List Value} {d cap : Nat} (hS : RS w ao cs d) (hE : Els 10 (MeC (SlR w P)) cs ah) (hl : ah.length ≤ 9223372036854775807) (m : Me) (hF : MeFit m) {vp vc vh : Value} (hM : MeAt (SlR w P) vp vc vh m)
  (bc be : Nat) {vf vd vm ve : Value} {c : Cl} (hC : ClBlk w bc vf vd vm c) {l : List En} (hb : w.cell? ⟨be, 0, none⟩ = some ve) (hEn : SlV w Q ve l.length (ecs l)) (hA : ∀ e ∈ l, e.2.1.length ≤ 9223372036854775807) :
  Calls Tryz.prog 52 #[.slice ao ah.length cap, meV vp vc vh m, .pointer (some ⟨bc, 0, none⟩), .pointer (some ⟨be, 0, none⟩)] w fun e w' => ∃ v, e = .returned v ∧ EV w' w.heap.size v (0, 0, (methodE l c.flags ah m).1, (methodE l c.flags ah m).2) ∧ Only [] w w' := by
 have o0 := (Only.refl [] w).alloc (.cells #[.int .i64 m.flags, .string (str m.name), vp, .bool m.sig.2.1, .int .i64 m.sig.2.2.1, .string (str m.sig.2.2.2), .int .i64 m.stack, .int .i64 m.locals, vc, vh] 41)
 have HH := checkHeading_any (cap := cap) (vc := vc) (vh := vh) (hS.only0 o0) (hE.imp fun _ _ _ h => h.imp (slr_only o0 (by simp))) hl m hF (SlV.only hM.params o0 (by simp))
 have HF := fun W => checkFlags_any c vf vd vm m vp vc vh W
 have HB := fun W (hW : Only [] w W) (h16 : m.sig.1.length ≤ 16) => checkBody_any (P := P) (Q := Q) l (SlV.only hEn hW (by simp)) hA m hF h16 (hM.only hW (by simp))
 have hs16 := heading_16 (l := ah) (m := m)
 have hC0 := hid (hC.only o0 (by simp))
 have hl8 : be < w.heap.size := World.block_lt_of_cell? w _ hb
 have hb0 := hid (cell_alloc (.cells #[.int .i64 m.flags, .string (str m.name), vp, .bool m.sig.2.1, .int .i64 m.sig.2.2.1, .string (str m.sig.2.2.2), .int .i64 m.stack, .int .i64 m.locals, vc, vh] 41) hb)
 have hk0 : Hid ((w.alloc (.cells #[.int .i64 m.flags, .string (str m.name), vp, .bool m.sig.2.1, .int .i64 m.sig.2.2.1, .string (str m.sig.2.2.2), .int .i64 m.stack, .int .i64 m.locals, vc, vh] 41)).cell? ⟨w.heap.size, 0, none⟩ = some (.int .i64 m.flags) ∧ (w.alloc (.cells #[.int .i64 m.flags, .string (str m.name), vp, .bool m.sig.2.1, .int .i64 m.sig.2.2.1, .string (str m.sig.2.2.2), .int .i64 m.stack, .int .i64 m.locals, vc, vh] 41)).cell? ⟨w.heap.size, 1, none⟩ = some (.string (str m.name)) ∧ (w.alloc (.cells #[.int .i64 m.flags, .string (str m.name), vp, .bool m.sig.2.1, .int .i64 m.sig.2.2.1, .string (str m.sig.2.2.2), .int .i64 m.stack, .int .i64 m.locals, vc, vh] 41)).cell? ⟨w.heap.size, 2, none⟩ = some (vp) ∧ (w.alloc (.cells #[.int .i64 m.flags, .string (str m.name), vp, .bool m.sig.2.1, .int .i64 m.sig.2.2.1, .string (str m.sig.2.2.2), .int .i64 m.stack, .int .i64 m.locals, vc, vh] 41)).cell? ⟨w.heap.size, 3, none⟩ = some (.bool m.sig.2.1) ∧ (w.alloc (.cells #[.int .i64 m.flags, .string (str m.name), vp, .bool m.sig.2.1, .int .i64 m.sig.2.2.1, .string (str m.sig.2.2.2), .int .i64 m.stack, .int .i64 m.locals, vc, vh] 41)).cell? ⟨w.heap.size, 4, none⟩ = some (.int .i64 m.sig.2.2.1) ∧ (w.alloc (.cells #[.int .i64 m.flags, .string (str m.name), vp, .bool m.sig.2.1, .int .i64 m.sig.2.2.1, .string (str m.sig.2.2.2), .int .i64 m.stack, .int .i64 m.locals, vc, vh] 41)).cell? ⟨w.heap.size, 5, none⟩ = some (.string (str m.sig.2.2.2)) ∧ (w.alloc (.cells #[.int .i64 m.flags, .string (str m.name), vp, .bool m.sig.2.1, .int .i64 m.sig.2.2.1, .string (str m.sig.2.2.2), .int .i64 m.stack, .int .i64 m.locals, vc, vh] 41)).cell? ⟨w.heap.size, 6, none⟩ = some (.int .i64 m.stack) ∧ (w.alloc (.cells #[.int .i64 m.flags, .string (str m.name), vp, .bool m.sig.2.1, .int .i64 m.sig.2.2.1, .string (str m.sig.2.2.2), .int .i64 m.stack, .int .i64 m.locals, vc, vh] 41)).cell? ⟨w.heap.size, 7, none⟩ = some (.int .i64 m.locals) ∧ (w.alloc (.cells #[.int .i64 m.flags, .string (str m.name), vp, .bool m.sig.2.1, .int .i64 m.sig.2.2.1, .string (str m.sig.2.2.2), .int .i64 m.stack, .int .i64 m.locals, vc, vh] 41)).cell? ⟨w.heap.size, 8, none⟩ = some (vc) ∧ (w.alloc (.cells #[.int .i64 m.flags, .string (str m.name), vp, .bool m.sig.2.1, .int .i64 m.sig.2.2.1, .string (str m.sig.2.2.2), .int .i64 m.stack, .int .i64 m.locals, vc, vh] 41)).cell? ⟨w.heap.size, 9, none⟩ = some (vh) ∧ Only [] w (w.alloc (.cells #[.int .i64 m.flags, .string (str m.name), vp, .bool m.sig.2.1, .int .i64 m.sig.2.2.1, .string (str m.sig.2.2.2), .int .i64 m.stack, .int .i64 m.locals, vc, vh] 41))) := ⟨by rw [cell_new]; rfl, by rw [cell_new]; rfl, by rw [cell_new]; rfl, by rw [cell_new]; rfl, by rw [cell_new]; rfl, by rw [cell_new]; rfl, by rw [cell_new]; rfl, by rw [cell_new]; rfl, by rw [cell_new]; rfl, by rw [cell_new]; rfl, o0⟩
 unfold methodE
 clear hS hE hM hEn hA hF hb hC
 generalize headingE ah m = he at *
 generalize flagsE c.flags m = fe at *
 generalize bodyE l m = bE at *
 unfold clV at HF
 unfold meV at HH HF HB ⊢
 replace HH := hid HH
 replace HF := hid HF
 replace HB := hid HB
 by_cases h1 : he = 0
 ·subst h1
  rw [if_pos rfl]
  by_cases h2 : fe = 0
  ·subst h2
   rw [if_pos rfl]
   go_enter Tryz.func52, Tryz.ntmps52
   go_wp2_with fail
   refine HH.out.mono ?_
   rintro e w1 ⟨rfl, ho1⟩
   obtain ⟨k0, k1, k2, k3, k4, k5, k6, k7, k8, k9, oS⟩ := keep_me (w := w) ho1 hk0.out
   obtain ⟨c0, c1, c2, c3, c4, c5⟩ := hC0.out.only ho1 (by simp)
   rw [bare_nil.2 rfl]
   go_wp2_with fail
   refine (HF.out _).mono ?_
   rintro e w2 ⟨rfl, ho2⟩
   obtain ⟨k0, k1, k2, k3, k4, k5, k6, k7, k8, k9, oS⟩ := keep_me (w := w) ho2 ⟨k0, k1, k2, k3, k4, k5, k6, k7, k8, k9, oS⟩
   have hb1 : be < w1.heap.size := Nat.lt_of_lt_of_le hl8 (Nat.le_trans o0.size ho1.size)
   have b0 := (ho2.cell (p := ⟨be, 0, none⟩) hb1 (by simp)).trans ((ho1.cell (p := ⟨be, 0, none⟩) (Nat.lt_of_lt_of_le hl8 o0.size) (by simp)).trans hb0.out)
   rw [bare_nil.2 rfl]
   clear c0 c1 c2 c3 c4 c5
   go_wp2_with fail
   refine (HB.out _ oS (hs16 (by first | rfl | trivial))).mono ?_
   rintro e w3 ⟨v, rfl, hev, ho3⟩
   go_wp2_with fail
   go_ret
   exact ⟨v, rfl, hev.down oS.size, oS.next ho3 (by simp)⟩
  ·rw [if_neg h2]
   have hbv : bareV fe = .iface 63 (.int .i64 fe) := by unfold bareV; rw [if_neg h2]
   go_enter Tryz.func52, Tryz.ntmps52
   go_wp2_with fail
   refine HH.out.mono ?_
   rintro e w1 ⟨rfl, ho1⟩
   obtain ⟨k0, k1, k2, k3, k4, k5, k6, k7, k8, k9, oS⟩ := keep_me (w := w) ho1 hk0.out
   obtain ⟨c0, c1, c2, c3, c4, c5⟩ := hC0.out.only ho1 (by simp)
   rw [bare_nil.2 rfl]
   go_wp2_with fail
   refine (HF.out _).mono ?_
   rintro e w2 ⟨rfl, ho2⟩
   rw [hbv]
   go_wp2_with fail
   go_ret
   exact ⟨_, rfl, .num h2, oS.next ho2 (by simp)⟩
 ·rw [if_neg h1]
  have hbv : bareV he = .iface 63 (.int .i64 he) := by unfold bareV; rw [if_neg h1]
  go_enter Tryz.func52, Tryz.ntmps52
  go_wp2_with fail
  refine HH.out.mono ?_
  rintro e w1 ⟨rfl, ho1⟩
  rw [hbv]
  go_wp2_with fail
  go_ret
  exact ⟨_, rfl, .num h1, o0.next ho1 (by simp)⟩

set_option maxHeartbeats 4000000 in
theorem members_me {w : World} (hg : Ety w) {P Q : Nat → Prop} {ao : Option Addr} {l : List Me} {cs : List Value} {d cap : Nat} (hS : RS w ao cs d) (hE : Els 10 (MeC (SlR w P)) cs l) (hc : l.length ≤ cap) (hN : ∀ m ∈ l, MeFit m) (bc be : Nat) {vf vd vm ve : Value} {c : Cl} (hC : ClBlk w bc vf vd vm c) {pl : List En} (hb : w.cell? ⟨be, 0, none⟩ = some ve) (hEn : SlV w Q ve pl.length (ecs pl)) (hA : ∀ e ∈ pl, e.2.1.length ≤ 9223372036854775807) (most : Nat) (hm : most ≤ 1000) :
  Calls Tryz.prog 51 #[.slice ao l.length cap, .int .i64 (most : Int), .func (.func 52) #[] #[.pointer (some ⟨bc, 0, none⟩), .pointer (some ⟨be, 0, none⟩)]] w fun e w' => ∃ v, e = .returned v ∧ EV w' w.heap.size v (membersE most (methodE pl c.flags) l) ∧ Only [] w w' := by
 unfold membersE
 have hsl := slice_hiG elMe Tryz.underlying26 ao l.length cap
 by_cases hmany : most < l.length
 ·rw [if_pos hmany]
  have gm : (most : Int) < (l.length : Int) := by omega
  clear hsl
  go_enter Tryz.func51, Tryz.ntmps51
  go_wp2_with fail
  go_ret
  exact ⟨_, rfl, .num (by decide), Only.refl _ _⟩
 rw [if_neg hmany]
 have gm : ¬ (most : Int) < (l.length : Int) := by omega
 obtain ⟨x, hx⟩ : ∃ x, x = firstE (methodE pl c.flags) [] l := ⟨_, rfl⟩
 rw [← hx]
 have hr : Hid (x = firstE (methodE pl c.flags) (l.take 0) (l.drop 0)) := by rw [hx]; rfl
 clear hx
 have HS := hid hS
 have HE := hid hE
 have HN := hid hN
 have HCB := hid hC
 have HEB := hid hb
 have HEN := hid hEn
 have HAA := hid hA
 clear hS hE hN hC hb hEn hA
 replace hg := hid hg
 replace hsl := hid hsl
 go_enter Tryz.func51, Tryz.ntmps51
 go_wp2_with fail
 go_loopw [17] (fun i wr => ∃ (j : Nat), j ≤ l.length ∧ i = .int .i64 (j : Int) ∧ Hid (x = firstE (methodE pl c.flags) (l.take j) (l.drop j)) ∧ Hid (Only [] w wr)) (fun i _ => l.length - (intOf i).toNat)
 case atStart => exact ⟨0, by omega, rfl, hr, hid (Only.refl _ _)⟩
 case round =>
  obtain ⟨j, hj, rfl, hq, ho⟩ := hrel
  clear hr
  by_cases hlt : j < l.length
  ·have g2 : ((j : Int) < (l.length : Int)) := by omega
   have hdr := firstE_drop (methodE pl c.flags) l j hlt
   rw [← hq.out] at hdr
   have ks := hsl.out j (by omega)
   have hR := HS.out.only0 ho.out
   have hT := hR.take (j * 10)
   have hTE := HE.out.take j (by omega)
   obtain ⟨off, vp, vc, vh, rfl, hMA, c0, c1, c2, c3, c4, c5, c6, c7, c8, c9⟩ := me_cells hR HE.out hlt
   have hn := HN.out l[j] (List.getElem_mem hlt)
   obtain ⟨po, pc, pd, rfl, _⟩ := hMA.params
   obtain ⟨co, cc, cd, rfl, _⟩ := hMA.code
   obtain ⟨ho', hc', hd', rfl, _⟩ := hMA.hands
   have hlt2 : (l.take j).length = j := by rw [List.length_take]; omega
   have hbl : be < w.heap.size := World.block_lt_of_cell? w _ HEB.out
   have HC0 := fun W (hW : Only [] wr W) => clo_any (P := P) (Q := Q) (cap := cap) (hT.only0 hW) (hTE.imp fun _ _ _ h => h.imp (slr_only (ho.out.next hW (by simp)) (by simp))) (by omega) l[j] hn (hMA.only (ho.out.next hW (by simp)) (by simp)) bc be (HCB.out.only (ho.out.next hW (by simp)) (by simp)) (((ho.out.next hW (by simp)).cell (p := ⟨be, 0, none⟩) hbl (by simp)).trans HEB.out) (SlV.only HEN.out (ho.out.next hW (by simp)) (by simp)) HAA.out
   rw [hlt2] at HC0
   clear hT hTE hMA hn hlt2 hR hbl
   generalize l[j] = y at *
   unfold meV at HC0
   have oo := (Only.refl [] wr).alloc (.cells #[.int .i64 y.flags, .string (str y.name), .slice po y.sig.1.length pc, .bool y.sig.2.1, .int .i64 y.sig.2.2.1, .string (str y.sig.2.2.2), .int .i64 y.stack, .int .i64 y.locals, .slice co y.code.length cc, .slice ho' y.hands.length hc'] 41)
   have HC : Hid (∀ W, Only [] wr W → Calls Tryz.prog 52 #[.slice (some ⟨d, off, none⟩) j cap, .agg #[.int .i64 y.flags, .string (str y.name), .slice po y.sig.1.length pc, .bool y.sig.2.1, .int .i64 y.sig.2.2.1, .string (str y.sig.2.2.2), .int .i64 y.stack, .int .i64 y.locals, .slice co y.code.length cc, .slice ho' y.hands.length hc'], .pointer (some ⟨bc, 0, none⟩), .pointer (some ⟨be, 0, none⟩)] W fun e w' => ∃ v, e = .returned v ∧ EV w' wr.heap.size v (0, 0, (methodE pl c.flags (l.take j) y).1, (methodE pl c.flags (l.take j) y).2) ∧ Only [] W w') := fun W hW => (HC0 W hW).mono fun _ _ h => by
    obtain ⟨v, h1, h2, h3⟩ := h
    exact ⟨v, h1, h2.down hW.size, h3⟩
   clear HC0
   clear hq
   go_wp2_with fail
   go_region_held3 (fun w' => w'.cell? ⟨wr.heap.size, 0, none⟩ = some (.int .i64 y.flags) ∧ w'.cell? ⟨wr.heap.size, 1, none⟩ = some (.string (str y.name)) ∧ w'.cell? ⟨wr.heap.size, 2, none⟩ = some (.slice po y.sig.1.length pc) ∧ w'.cell? ⟨wr.heap.size, 3, none⟩ = some (.bool y.sig.2.1) ∧ w'.cell? ⟨wr.heap.size, 4, none⟩ = some (.int .i64 y.sig.2.2.1) ∧ w'.cell? ⟨wr.heap.size, 5, none⟩ = some (.string (str y.sig.2.2.2)) ∧ w'.cell? ⟨wr.heap.size, 6, none⟩ = some (.int .i64 y.stack) ∧ w'.cell? ⟨wr.heap.size, 7, none⟩ = some (.int .i64 y.locals) ∧ w'.cell? ⟨wr.heap.size, 8, none⟩ = some (.slice co y.code.length cc) ∧ w'.cell? ⟨wr.heap.size, 9, none⟩ = some (.slice ho' y.hands.length hc') ∧ Only [] wr w')
    (first | assumption | exact keep_me (by assumption) (by assumption) | exact ⟨by rw [cell_new]; rfl, by rw [cell_new]; rfl, by rw [cell_new]; rfl, by rw [cell_new]; rfl, by rw [cell_new]; rfl, by rw [cell_new]; rfl, by rw [cell_new]; rfl, by rw [cell_new]; rfl, by rw [cell_new]; rfl, by rw [cell_new]; rfl, oo⟩ | exact ⟨by show (wr.alloc _).cell? _ = _; rw [cell_new]; rfl, by show (wr.alloc _).cell? _ = _; rw [cell_new]; rfl, by show (wr.alloc _).cell? _ = _; rw [cell_new]; rfl, by show (wr.alloc _).cell? _ = _; rw [cell_new]; rfl, by show (wr.alloc _).cell? _ = _; rw [cell_new]; rfl, by show (wr.alloc _).cell? _ = _; rw [cell_new]; rfl, by show (wr.alloc _).cell? _ = _; rw [cell_new]; rfl, by show (wr.alloc _).cell? _ = _; rw [cell_new]; rfl, by show (wr.alloc _).cell? _ = _; rw [cell_new]; rfl, by show (wr.alloc _).cell? _ = _; rw [cell_new]; rfl, oo.drew⟩)
    (first
     | (go_at_call 52; (with_reducible refine (HC.out _ ?_).mono ?_); (simp [*]); rintro e w1 ⟨v, rfl, hev, ho1⟩))
   rename_i hS
   replace ho1 := hS.2.2.2.2.2.2.2.2.2.2
   clear hS
   rcases hev.nil_iff with ⟨he, rfl⟩ | ⟨he, t, u, rfl⟩
   ·rw [if_pos he] at hdr
    replace hdr := hid hdr
    go_wp2_with fail
    refine ⟨⟨j + 1, by omega, by go_num, hdr, hid (ho.out.next ho1 (by simp))⟩, by simp [intOf]; omega⟩
   ·rw [if_neg he] at hdr
    have HM := hid (inMember_any (hg.out.only0 (ho.out.next ho1 (by simp))) (B := wr.heap.size) ho1.size hev he (j : Int))
    clear hsl ks
    go_wp2_with fail
    refine HM.out.mono ?_
    rintro e w2 ⟨p, hp, rfl, hb, ho2, hp2⟩
    go_wp2_with fail
    go_ret
    subst hdr
    exact ⟨_, rfl, .bad he (by have := ho.out.size; omega) hb, (ho.out.next ho1 (by simp)).next ho2 (by simp; have := ho.out.size; omega)⟩
  ·have g2 : ¬ ((j : Int) < (l.length : Int)) := by omega
   have hxx : x = ok4 := by rw [hq.out, List.drop_eq_nil_of_le (by omega)]; rfl
   clear hq
   go_wp2_with fail
   go_ret
   subst hxx
   exact ⟨_, rfl, .no rfl, ho.out⟩

/-- An error that says b: none, or a Bad in a block from B on. -/
inductive EB (w : World) (B : Nat) : Value → Bp → Prop where
 | no {b : Bp} (h : b.2.2.2 = 0) : EB w B .nilIface b
 | bad {b : Bp} {p : Nat} (h : b.2.2.2 ≠ 0) (hp : B ≤ p) (hb : BadAt w p b) : EB w B (badV p) b

theorem EB.ev {w : World} {B : Nat} {v : Value} {b : Bp} (h : EB w B v b) : EV w B v b := by
 cases h with
 | no h => exact .no h
 | bad h hp hb => exact .bad h hp hb

theorem EB.down {w : World} {B C : Nat} {v : Value} {b : Bp} (h : EB w B v b) (hC : C ≤ B) : EB w C v b := by
 cases h with
 | no h => exact .no h
 | bad h hp hb => exact .bad h (by omega) hb

theorem EB.cases_nil {w : World} {B : Nat} {v : Value} {b : Bp} (h : EB w B v b) : (b.2.2.2 = 0 ∧ v = .nilIface) ∨ (b.2.2.2 ≠ 0 ∧ ∃ p, v = badV p ∧ B ≤ p ∧ BadAt w p b) := by
 cases h with
 | no h => exact .inl ⟨h, rfl⟩
 | bad h hp hb => exact .inr ⟨h, _, rfl, hp, hb⟩

theorem orE_left {a b : Bp} (h : a.2.2.2 ≠ 0) : orE a b = a := by unfold orE; rw [if_neg h]
theorem orE_right {a b : Bp} (h : a.2.2.2 = 0) : orE a b = b := by unfold orE; rw [if_pos h]

set_option maxHeartbeats 4000000 in
theorem checkClass_any {w : World} (hg : Ety w) {P Q : Nat → Prop} (c : Cl) (hF : ClFit c) {vf vd vm ve : Value} (hC : ClAt (SlR w P) vf vd vm c) {pl : List En} (hEn : SlV w Q ve pl.length (ecs pl)) (hA : ∀ e ∈ pl, e.2.1.length ≤ 9223372036854775807) :
  Calls Tryz.prog 20 #[clV vf vd vm c, ve] w fun e w' => ∃ v, e = .returned v ∧ EV w' w.heap.size v (classE pl c) ∧ Only [] w w' := by
 obtain ⟨hc1, hc2, mcs, hc3, hc4⟩ := hC
 obtain ⟨fo, fc, fd, rfl, h1⟩ := hc1
 obtain ⟨dO, dc, dd, rfl, h2⟩ := hc2
 obtain ⟨mo, mc, md, rfl, h3⟩ := hc3
 have hEn0 := hEn
 obtain ⟨eo, ec, ed, rfl, _⟩ := hEn
 have o0 := ((Only.refl [] w).alloc (.cells #[.int .i64 c.flags, .string (str c.name), .string (str c.super), .slice fo c.faces.length fc, .slice dO c.fields.length dc, .slice mo c.methods.length mc] 28)).alloc (.cells #[.slice eo pl.length ec] 29)
 have hB := (clBlk_new w c (.slice fo c.faces.length fc) (.slice dO c.fields.length dc) (.slice mo c.methods.length mc)).only ((Only.refl [] _).alloc (.cells #[.slice eo pl.length ec] 29)) (by simp)
 have hb : ((w.alloc (.cells #[.int .i64 c.flags, .string (str c.name), .string (str c.super), .slice fo c.faces.length fc, .slice dO c.fields.length dc, .slice mo c.methods.length mc] 28)).alloc (.cells #[.slice eo pl.length ec] 29)).cell? ⟨w.heap.size + 1, 0, none⟩ = some (.slice eo pl.length ec) := by
  have := cell_new (w.alloc (.cells #[.int .i64 c.flags, .string (str c.name), .string (str c.super), .slice fo c.faces.length fc, .slice dO c.fields.length dc, .slice mo c.methods.length mc] 28)) #[.slice eo pl.length ec] 29 0
  rw [World.size_alloc] at this
  exact this
 have l1 : c.faces.length ≤ 9223372036854775807 := by have := h1.le; have := h1.max; omega
 have l2 : c.fields.length ≤ 9223372036854775807 := by have := h2.le; have := h2.max; omega
 have hsz : ((w.alloc (.cells #[.int .i64 c.flags, .string (str c.name), .string (str c.super), .slice fo c.faces.length fc, .slice dO c.fields.length dc, .slice mo c.methods.length mc] 28)).alloc (.cells #[.slice eo pl.length ec] 29)).heap.size = w.heap.size + 2 := by simp
 have HH := checkHead_any c (fo := fo) (dd := dO) (fc := fc) (dc := dc) (.slice mo c.methods.length mc) hF.name hF.super l1 l2
 have H1 := fun W (hW : Only [] w W) => members_str (hg.only0 hW) (cap := fc) (h1.rs.only0 hW) h1.le hF.faces 16 (by decide)
 have H2 := fun W (hW : Only [] w W) => members_fd (hg.only0 hW) (cap := dc) (h2.rs.only0 hW) h2.le hF.fields 64 (by decide)
 have H3 := fun W (hW : Only [] w W) (hcb : ClBlk W w.heap.size (.slice fo c.faces.length fc) (.slice dO c.fields.length dc) (.slice mo c.methods.length mc) c) (heb : W.cell? ⟨w.heap.size + 1, 0, none⟩ = some (.slice eo pl.length ec)) =>
  members_me (hg.only0 hW) (P := P) (Q := Q) (cap := mc) (h3.rs.only0 hW) (hc4.imp fun _ _ _ h => h.imp (slr_only hW (by simp))) h3.le hF.methods w.heap.size (w.heap.size + 1) hcb heb (SlV.only hEn0 hW (by simp)) hA 64 (by decide)
 obtain ⟨X, hX⟩ : ∃ X, X = classE pl c := ⟨_, rfl⟩
 rw [← hX]
 unfold classE at hX
 generalize headE c = he at *
 generalize membersE 16 (at0 faceE) c.faces = m1 at *
 generalize membersE 64 (at0 fieldE) c.fields = m2 at *
 generalize membersE 64 (methodE pl c.flags) c.methods = m3 at *
 unfold clV at HH ⊢
 replace HH := hid HH
 replace H1 := hid H1
 replace H2 := hid H2
 replace H3 := hid H3
 replace hB := hid hB
 replace hb := hid hb
 replace hX := hid hX
 replace hsz := hid hsz
 clear h1 h2 h3 hc4 hEn0 hA hF hg l1 l2
 go_enter Tryz.func20, Tryz.ntmps20
 go_wp2_with fail
 refine (HH.out _).mono ?_
 rintro e w1 ⟨rfl, ho1⟩
 obtain ⟨c0, c1, c2, c3, c4, c5⟩ := hB.out.only ho1 (by simp)
 have o1 := o0.next ho1 (by simp)
 by_cases h1 : he = 0
 ·subst h1
  rw [bare_nil.2 rfl]
  go_wp2_with fail
  refine (H1.out _ o1).mono ?_
  rintro e w2 ⟨v1, rfl, hev1, ho2⟩
  obtain ⟨c0, c1, c2, c3, c4, c5⟩ := hB.out.only (ho1.next ho2 (by simp)) (by simp)
  have o2 := o1.next ho2 (by simp)
  rcases hev1.nil_iff with ⟨e1, rfl⟩ | ⟨e1, t, u, rfl⟩
  ·go_wp2_with fail
   refine (H2.out _ o2).mono ?_
   rintro e w3 ⟨v2, rfl, hev2, ho3⟩
   have hB3 := hid (hB.out.only ((ho1.next ho2 (by simp)).next ho3 (by simp)) (by simp))
   obtain ⟨c0, c1, c2, c3, c4, c5⟩ := hB3.out
   have o3 := o2.next ho3 (by simp)
   rcases hev2.nil_iff with ⟨e2, rfl⟩ | ⟨e2, t, u, rfl⟩
   ·have hb3 := hid ((((ho1.next ho2 (by simp)).next ho3 (by simp)).cell (p := ⟨w.heap.size + 1, 0, none⟩) (by have := hsz.out; show w.heap.size + 1 < _; omega) (by simp)).trans hb.out)
    go_wp2_with fail
    refine (H3.out _ o3 hB3.out hb3.out).mono ?_
    rintro e w4 ⟨v3, rfl, hev3, ho4⟩
    go_wp2_with fail
    go_ret
    refine ⟨v3, rfl, ?_, o3.next ho4 (by simp)⟩
    rw [hX.out, orE_right rfl, orE_right e1, orE_right e2]
    exact hev3.down o3.size
   ·go_wp2_with fail
    go_ret
    refine ⟨_, rfl, ?_, o3⟩
    rw [hX.out, orE_right rfl, orE_right e1, orE_left e2]
    exact hev2.down o2.size
  ·go_wp2_with fail
   go_ret
   refine ⟨_, rfl, ?_, o2⟩
   rw [hX.out, orE_right rfl, orE_left e1]
   exact hev1.down o1.size
 ·have hbv : bareV he = .iface 63 (.int .i64 he) := by unfold bareV; rw [if_neg h1]
  rw [hbv]
  go_wp2_with fail
  go_ret
  refine ⟨_, rfl, ?_, o1⟩
  rw [hX.out, orE_left h1]
  exact .num h1

theorem classesE_drop (p : List En) (l : List Cl) (j : Nat) (h : j < l.length) : classesE p j (l.drop j) = if (classE p l[j]).2.2.2 = 0 then classesE p (j + 1) (l.drop (j + 1)) else inC j (classE p l[j]) := by
 rw [List.drop_eq_getElem_cons h, classesE]

theorem twiceE_drop (l : List Cl) (j : Nat) (h : j < l.length) : twiceE (l.take j) (l.drop j) = if (l.take j).any (fun d => decide (d.name = l[j].name)) = true then ((j : Int), 0, 0, 20) else twiceE (l.take (j + 1)) (l.drop (j + 1)) := by
 rw [List.drop_eq_getElem_cons h, twiceE, List.take_succ_eq_append_getElem h, List.length_take, Nat.min_eq_left (by omega)]

set_option maxHeartbeats 8000000 in
theorem mcheck_any {w : World} (hg : Ety w) {P : Nat → Prop} (m : Mo) (hF : MoFit m) {vp vc : Value} (hM : MoAt (SlR w P) vp vc m) :
  Calls Tryz.prog 9 #[.agg #[vp, vc]] w fun e w' => ∃ v, e = .returned v ∧ EB w' w.heap.size v (checkM m) ∧ Only [] w w' := by
 obtain ⟨hp0, ccs, hc0, hce⟩ := hM
 have hp := hp0
 obtain ⟨po, pc, pd, rfl, hp1⟩ := hp
 obtain ⟨co, cc, cd, rfl, hc1⟩ := hc0
 have lp : m.pool.length ≤ 9223372036854775807 := by have := hp1.le; have := hp1.max; omega
 have o0 := (Only.refl [] w).alloc (.cells #[.slice po m.pool.length pc, .slice co m.classes.length cc] 32)
 have b0 : (w.alloc (.cells #[.slice po m.pool.length pc, .slice co m.classes.length cc] 32)).cell? ⟨w.heap.size, 0, none⟩ = some (.slice po m.pool.length pc) := by rw [cell_new]; rfl
 have b1 : (w.alloc (.cells #[.slice po m.pool.length pc, .slice co m.classes.length cc] 32)).cell? ⟨w.heap.size, 1, none⟩ = some (.slice co m.classes.length cc) := by rw [cell_new]; rfl
 have HP := pcheck_any (cap := pc) (ES.of_rs (hp1.rs.only0 o0)) lp hF.pool
 have HC := fun W (hW : Only [] w W) (c : Cl) (hc : c ∈ m.classes) (vf vd vm : Value) (ha : ClAt (SlR w P) vf vd vm c) => checkClass_any (hg.only0 hW) (P := P) (Q := P) c (hF.classes c hc) (ha.only hW (by simp)) (SlV.only hp0 hW (by simp)) hF.pool
 have HR := fun W (hW : Only [] w W) => hc1.rs.only0 hW
 have hle := hc1.le
 have hmx := hc1.max
 have hsl := slice_hiG elCl Tryz.underlying30 co m.classes.length cc
 have hpos : w.heap.size < (w.alloc (.cells #[.slice po m.pool.length pc, .slice co m.classes.length cc] 32)).heap.size := by simp
 obtain ⟨X, hX⟩ : ∃ X, X = checkM m := ⟨_, rfl⟩
 rw [← hX]
 unfold checkM at hX
 generalize checkE m.pool = ce at *
 obtain ⟨ca, ce⟩ := ce
 simp only at hX HP
 clear hp0 hp1 hc1 hF lp
 obtain ⟨pool, l⟩ := m
 simp only at *
 replace HP := hid HP
 replace HC := hid HC
 replace HR := hid HR
 replace hX := hid hX
 replace hce := hid hce
 replace hsl := hid hsl
 replace hpos := hid hpos
 replace b0 := hid b0
 replace b1 := hid b1
 replace hg := hid hg
 go_enter Tryz.func9, Tryz.ntmps9
 go_wp2_with fail
 refine HP.out.mono ?_
 rintro e w1 ⟨rfl, ho1⟩
 have o1 := hid (o0.next ho1 (by simp))
 have k0 := (ho1.cell (p := ⟨w.heap.size, 0, none⟩) hpos.out (by simp)).trans b0.out
 have k1 := (ho1.cell (p := ⟨w.heap.size, 1, none⟩) hpos.out (by simp)).trans b1.out
 by_cases h1 : ce = 0
 ·subst h1
  by_cases hmany : 64 < l.length
  ·have gm : (64 : Int) < (l.length : Int) := by omega
   go_wp2_with fail
   go_ret
   refine ⟨_, rfl, ?_, o1.out.alloc _⟩
   rw [hX.out, orE_right rfl, if_pos hmany]
   exact .bad (by decide) o1.out.size (bad_new w1 0 0 0 4)
  have gm : ¬ (64 : Int) < (l.length : Int) := by omega
  rw [orE_right rfl, if_neg hmany] at hX
  have hlt64 : l.length ≤ 64 := by omega
  have k0h := hid k0
  have k1h := hid k1
  go_wp2_with fail
  clear k0 k1 b0 b1 o0 hpos HP ho1
  go_loopw [33] (fun i wr => ∃ (j : Nat), j ≤ l.length ∧ i = .int .i64 (j : Int) ∧ Hid (X = orE (classesE pool j (l.drop j)) (twiceE [] l)) ∧ Hid (wr.cell? ⟨w.heap.size, 0, none⟩ = some (.slice po pool.length pc)) ∧ Hid (wr.cell? ⟨w.heap.size, 1, none⟩ = some (.slice co l.length cc)) ∧ Hid (Only [] w wr)) (fun i _ => l.length - (intOf i).toNat)
  case atStart => exact ⟨0, by omega, rfl, hX, k0h, k1h, o1⟩
  case round =>
   obtain ⟨j, hj, rfl, hq, y0, y1, ho⟩ := hrel
   clear hX k0h k1h o1
   by_cases hlt : j < l.length
   ·have g2 : ((j : Int) < (l.length : Int)) := by omega
    have hdr := classesE_drop pool l j hlt
    obtain ⟨off, vf, vd, vm, rfl, hcl, c0, c1, c2, c3, c4, c5⟩ := cl_cells (HR.out _ ho.out) hce.out hlt
    have HC0 := HC.out _ (ho.out.alloc (.cells #[.int .i64 l[j].flags, .string (str l[j].name), .string (str l[j].super), vf, vd, vm] 28)) l[j] (List.getElem_mem hlt) vf vd vm hcl
    obtain ⟨fo, fc, _, rfl, _⟩ := hcl.faces
    obtain ⟨dO, dc, _, rfl, _⟩ := hcl.fields
    obtain ⟨_, ⟨mo, mc, _, rfl, _⟩, _⟩ := hcl.methods
    unfold clV at HC0
    have a0 := cell_alloc (.cells #[.int .i64 l[j].flags, .string (str l[j].name), .string (str l[j].super), .slice fo l[j].faces.length fc, .slice dO l[j].fields.length dc, .slice mo l[j].methods.length mc] 28) y0.out
    have a1 := hid (cell_alloc (.cells #[.int .i64 l[j].flags, .string (str l[j].name), .string (str l[j].super), .slice fo l[j].faces.length fc, .slice dO l[j].fields.length dc, .slice mo l[j].methods.length mc] 28) y1.out)
    have oA := hid (ho.out.alloc (.cells #[.int .i64 l[j].flags, .string (str l[j].name), .string (str l[j].super), .slice fo l[j].faces.length fc, .slice dO l[j].fields.length dc, .slice mo l[j].methods.length mc] 28))
    have hwb : Hid (w.heap.size < wr.heap.size) := World.block_lt_of_cell? wr _ y0.out
    clear hcl
    generalize l[j] = c at *
    generalize classE pool c = x at *
    replace HC0 := hid HC0
    have A0 := hid a0
    go_wp2_with fail
    refine HC0.out.mono ?_
    rintro e w2 ⟨v, rfl, hev, ho2⟩
    rcases hev.nil_iff with ⟨e1, rfl⟩ | ⟨e1, t, u, rfl⟩
    ·rw [if_pos e1] at hdr
     rw [hdr] at hq
     replace hdr := hid hdr
     go_wp2_with fail
     refine ⟨⟨j + 1, by omega, by go_num, hq, hid ((ho2.cell (p := ⟨w.heap.size, 0, none⟩) (by have := hwb.out; simp; omega) (by simp)).trans A0.out), hid ((ho2.cell (p := ⟨w.heap.size, 1, none⟩) (by have := hwb.out; simp; omega) (by simp)).trans a1.out), hid (oA.out.next ho2 (by simp))⟩, by simp [intOf]; omega⟩
    ·rw [if_neg e1] at hdr
     rw [hdr, orE_left (by exact e1)] at hq
     have o2 := hid (oA.out.next ho2 (by simp))
     have HI := hid (inClass_any (hg.out.only0 o2.out) (B := wr.heap.size) (by have := ho2.size; simp at this; omega) (hev.down (by simp)) e1 (j : Int))
     clear hdr
     go_wp2_with fail
     refine HI.out.mono ?_
     rintro e w3 ⟨p, hp, rfl, hb, ho3, hp3⟩
     go_wp2_with fail
     go_ret
     refine ⟨_, rfl, ?_, o2.out.next ho3 (by simp; have := hwb.out; omega)⟩
     rw [hq.out]
     exact .bad e1 (by have := hwb.out; omega) hb
   ·have g2 : ¬ ((j : Int) < (l.length : Int)) := by omega
    rw [List.drop_eq_nil_of_le (by omega)] at hq
    have hq2 : Hid (X = twiceE (l.take 0) (l.drop 0)) := by rw [hq.out]; rfl
    have k1 := y1.out
    clear hq HC
    go_wp2_with fail
    clear k1
    go_loopw [51] (fun i wr => ∃ (j : Nat), j ≤ l.length ∧ i = .int .i64 (j : Int) ∧ Hid (X = twiceE (l.take j) (l.drop j)) ∧ Hid (wr.cell? ⟨w.heap.size, 1, none⟩ = some (.slice co l.length cc)) ∧ Hid (Only [] w wr)) (fun i _ => l.length - (intOf i).toNat)
    case atStart => exact ⟨0, by omega, rfl, hq2, y1, ho⟩
    case round =>
     obtain ⟨j', hj', rfl, hq, z1, ho'⟩ := hrel
     clear hq2 y0 y1 ho
     by_cases hlt : j' < l.length
     ·have g4 : ((j' : Int) < (l.length : Int)) := by omega
      have hdr := twiceE_drop l j' hlt
      rw [← hq.out] at hdr
      have hR := HR.out _ ho'.out
      obtain ⟨off, vf, vd, vm, rfl, hcl, c0, c1, c2, c3, c4, c5⟩ := cl_cells hR hce.out hlt
      obtain ⟨fo, fc, _, rfl, _⟩ := hcl.faces
      obtain ⟨dO, dc, _, rfl, _⟩ := hcl.fields
      obtain ⟨_, ⟨mo, mc, _, rfl, _⟩, _⟩ := hcl.methods
      have oA := hid ((Only.refl [] wr).alloc (.cells #[.int .i64 l[j'].flags, .string (str l[j'].name), .string (str l[j'].super), .slice fo l[j'].faces.length fc, .slice dO l[j'].fields.length dc, .slice mo l[j'].methods.length mc] 28))
      have hwb : Hid (w.heap.size < wr.heap.size) := World.block_lt_of_cell? wr _ z1.out
      have hlt2 : (l.take j').length = j' := by rw [List.length_take]; omega
      have HQ := contains_cl (cap := cc) ((hR.take (j' * 6)).only0 oA.out) (hce.out.take j' (by omega)) (by omega) wr.heap.size l[j'].name ((clBlk_new wr l[j'] _ _ _).c1)
      rw [hlt2] at HQ
      have ks := hsl.out j' (by omega)
      have a1 := cell_alloc (.cells #[.int .i64 l[j'].flags, .string (str l[j'].name), .string (str l[j'].super), .slice fo l[j'].faces.length fc, .slice dO l[j'].fields.length dc, .slice mo l[j'].methods.length mc] 28) z1.out
      have A1 := hid a1
      clear hcl hR hlt2 hq
      generalize ((l.take j').any fun d => decide (d.name = l[j'].name)) = z at *
      generalize l[j'] = c at *
      replace HQ := hid HQ
      cases z with
      | true =>
       rw [if_pos rfl] at hdr
       go_wp2_with fail
       refine HQ.out.mono ?_
       rintro e w2 ⟨rfl, ho2⟩
       have o2 := hid (ho'.out.next (oA.out.next ho2 (by simp)) (by simp))
       have HI := hid (inClass_any (hg.out.only0 o2.out) (B := wr.heap.size) (by have := ho2.size; simp at this; omega) (.num (e := 20) (by decide)) (by decide) (j' : Int))
       clear ks hsl
       go_wp2_with fail
       refine HI.out.mono ?_
       rintro e w3 ⟨p, hp, rfl, hb, ho3, hp3⟩
       go_wp2_with fail
       go_ret
       refine ⟨_, rfl, ?_, o2.out.next ho3 (by simp; have := hwb.out; omega)⟩
       rw [hdr]
       exact .bad (by simp) (by have := hwb.out; omega) hb
      | false =>
       rw [if_neg (by simp)] at hdr
       replace hdr := hid hdr
       go_wp2_with fail
       refine HQ.out.mono ?_
       rintro e w2 ⟨rfl, ho2⟩
       go_wp2_with fail
       refine ⟨⟨j' + 1, by omega, by go_num, hdr, hid ((ho2.cell (p := ⟨w.heap.size, 1, none⟩) (by have := hwb.out; simp; omega) (by simp)).trans A1.out), hid (ho'.out.next (oA.out.next ho2 (by simp)) (by simp))⟩, by simp [intOf]; omega⟩
     ·have g4 : ¬ ((j' : Int) < (l.length : Int)) := by omega
      rw [List.drop_eq_nil_of_le (by omega)] at hq
      go_wp2_with fail
      go_ret
      refine ⟨_, rfl, ?_, ho'.out⟩
      rw [hq.out]
      exact .no rfl
 ·have ge : (ce == 0) = false := by simpa using h1
  rw [orE_left (by exact h1), if_neg h1] at hX
  go_wp2_with fail
  go_ret
  refine ⟨_, rfl, ?_, o1.out.alloc _⟩
  rw [hX.out]
  exact .bad h1 o1.out.size (bad_new w1 0 0 ca ce)

end Go.Proofs.YtildemmkhndhjaaGreatDoor
