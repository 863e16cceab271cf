/-
  The contracts of maps' writer of bits: bits, fill. All that is written is at most 1.5 times 2 to the power of 47 bytes.
-/
import Derived.Test.YtmghmmkjcgopaaaGParse
namespace Go.Proofs.Ytmghmmkjcgopaaa
open Go.RowKit

/-- A writer of bits in block q: its writer lies in block p, that one's bytes in block g (p, if it has none); P are the bits that fill no byte yet. -/
structure BW (w : World) (B q p g : Nat) (P : List Bool) (s : List UInt8 × Int) : Prop where
  c0 : w.cell? ⟨q, 0, none⟩ = some (.pointer (some ⟨p, 0, none⟩))
  c1 : w.cell? ⟨q, 1, none⟩ = some (.int .u8 (valB P : Int))
  c2 : w.cell? ⟨q, 2, none⟩ = some (.int .i64 (P.length : Int))
  f1 : w.frozen? ⟨q, 1, none⟩ = false
  f2 : w.frozen? ⟨q, 2, none⟩ = false
  wr : WrE w B p g s
  np : q ≠ p
  ng : q ≠ g
  hP : P.length ≤ 7

theorem BW.lt {w : World} {B q p g : Nat} {P : List Bool} {s : List UInt8 × Int} (h : BW w B q p g P s) : q < w.heap.size := World.block_lt_of_cell? w _ h.c0

theorem BW.only {w w' : World} {S : List Nat} {B q p g : Nat} {P : List Bool} {s : List UInt8 × Int} (h : BW w B q p g P s) (ho : Only S w w') (hq : q ∉ S) (hp : p ∉ S) (hg : g ∉ S) : BW w' B q p g P s := by
  have hl := h.lt
  exact ⟨(ho.cell (p := ⟨q, 0, none⟩) hl hq).trans h.c0, (ho.cell (p := ⟨q, 1, none⟩) hl hq).trans h.c1, (ho.cell (p := ⟨q, 2, none⟩) hl hq).trans h.c2, (ho.frozen (p := ⟨q, 1, none⟩) hl hq).trans h.f1, (ho.frozen (p := ⟨q, 2, none⟩) hl hq).trans h.f2, h.wr.only ho hp hg, h.np, h.ng, h.hP⟩

/-- Its writer has gone on. -/
theorem BW.gone {w w' : World} {B q p g : Nat} {P : List Bool} {s s' : List UInt8 × Int} (h : BW w B q p g P s) (hw : WTo w B p g w' s') : ∃ g', BW w' B q p g' P s' ∧ (g' = g ∨ w.heap.size ≤ g') ∧ Only [p, g] w w' := by
  obtain ⟨g', h1, h2, ho⟩ := hw
  have hl := h.lt
  have hq : q ∉ [p, g] := by have := h.np; have := h.ng; simp; omega
  have hn := h.ng
  exact ⟨g', ⟨(ho.cell (p := ⟨q, 0, none⟩) hl hq).trans h.c0, (ho.cell (p := ⟨q, 1, none⟩) hl hq).trans h.c1, (ho.cell (p := ⟨q, 2, none⟩) hl hq).trans h.c2, (ho.frozen (p := ⟨q, 1, none⟩) hl hq).trans h.f1, (ho.frozen (p := ⟨q, 2, none⟩) hl hq).trans h.f2, h1, h.np, by omega, h.hP⟩, h2, ho⟩

/-- Its bits are set. -/
theorem BW.put {w w' : World} {B q p g : Nat} {P Q : List Bool} {s : List UInt8 × Int} (h : BW w B q p g P s) (c1 : w'.cell? ⟨q, 1, none⟩ = some (.int .u8 (valB Q : Int))) (c2 : w'.cell? ⟨q, 2, none⟩ = some (.int .i64 (Q.length : Int))) (c0 : w'.cell? ⟨q, 0, none⟩ = w.cell? ⟨q, 0, none⟩) (f : ∀ a, w'.frozen? a = w.frozen? a) (ho : Only [q] w w') (hQ : Q.length ≤ 7) : BW w' B q p g Q s :=
  ⟨c0.trans h.c0, c1, c2, (f _).trans h.f1, (f _).trans h.f2, h.wr.only ho (by simpa using h.np.symm) (by simpa using h.ng.symm), h.np, h.ng, hQ⟩

/-- From w on to w' a writer of bits came to be t; nothing else has turned. -/
def BTo (w : World) (B q p g : Nat) (w' : World) (t : WSt) : Prop := ∃ g', BW w' B q p g' t.1 t.2 ∧ (g' = g ∨ w.heap.size ≤ g') ∧ Only [q, p, g] w w'

theorem bto_trans {w w1 w2 : World} {B q p g g1 : Nat} {t : WSt} (ho : Only [q, p, g] w w1) (hg : g1 = g ∨ w.heap.size ≤ g1) (h : BTo w1 B q p g1 w2 t) : BTo w B q p g w2 t := by
  obtain ⟨g2, h2, h3, h4⟩ := h
  refine ⟨g2, h2, ?_, ho.trans h4 (fun x hx => ?_)⟩
  · have := ho.size
    omega
  · simp at hx ⊢
    omega

theorem only_two {S : List Nat} {a b c : World} (h : Only [] a b) (k : Only S b c) : Only S a c := (h.mono (S' := S) (by simp)).trans k (fun _ hx => .inl hx)

/-- A byte is full: it was written, and no bit is left. -/
theorem bw_end {w wr W2 w3 : World} {B q p g g' g3 : Nat} {s : List UInt8 × Int} {u v : Value} (ho : Only [q, p, g] w wr) (hg' : g' = g ∨ w.heap.size ≤ g') (o2 : Only [q] wr W2) (o4 : Only [p, g'] W2 w3) (hg : g3 = g' ∨ W2.heap.size ≤ g3) (hw : WrE w3 B p g3 s)
    (m0 : w3.cell? ⟨q, 0, none⟩ = some (.pointer (some ⟨p, 0, none⟩))) (m1 : w3.cell? ⟨q, 1, none⟩ = some u) (m2 : w3.cell? ⟨q, 2, none⟩ = some v) (n1 : w3.frozen? ⟨q, 1, none⟩ = false) (n2 : w3.frozen? ⟨q, 2, none⟩ = false) (np : q ≠ p) (ng : q ≠ g') (hq : q < w.heap.size) :
    BTo w B q p g ((w3.setCell ⟨q, 1, none⟩ (.int .u8 0)).setCell ⟨q, 2, none⟩ (.int .i64 0)) ([], s) := by
  have o5 : Only [q] w3 ((w3.setCell ⟨q, 1, none⟩ (.int .u8 0)).setCell ⟨q, 2, none⟩ (.int .i64 0)) := ((Only.refl [q] w3).setCell (.inl (by simp)) _).setCell (.inl (by simp)) _
  have z1 := ho.size
  have z2 := o2.size
  have hn3 : q ≠ g3 := by omega
  refine ⟨g3, ⟨?_, ?_, ?_, ?_, ?_, hw.only o5 (by simpa using np.symm) (by simpa using hn3.symm), np, hn3, by simp⟩, by omega, ?_⟩
  · rw [cell_setCell_ne _ _ (by simp), cell_setCell_ne _ _ (by simp)]; exact m0
  · rw [cell_setCell_ne _ _ (by simp)]; exact cell_setCell_same _ _ m1
  · exact cell_setCell_same _ _ ((cell_setCell_ne _ _ (by simp)).trans m2)
  · rw [frozen_setCell, frozen_setCell]; exact n1
  · rw [frozen_setCell, frozen_setCell]; exact n2
  · refine ((ho.trans o2 (fun x hx => .inl (by simp at hx; simp [hx]))).trans o4 (fun x hx => ?_)).trans o5 (fun x hx => .inl (by simp at hx; simp [hx]))
    simp at hx ⊢
    omega

theorem or_one (v : Nat) (h : v < 128) : bits .or .u8 ((v : Int) * 2) 1 = ((2 * v + 1 : Nat) : Int) := by
  have hall : ∀ x : Fin 128, bits .or .u8 ((x.val : Int) * 2) 1 = ((2 * x.val + 1 : Nat) : Int) := by decide +kernel
  exact hall ⟨v, h⟩

set_option maxHeartbeats 2000000 in
theorem wbits_any {w : World} {B q p g : Nat} {P0 : List Bool} {s0 : List UInt8 × Int} (h : BW w B q p g P0 s0) {lao : Option Addr} {lcap d : Nat} {l : List Bool} (hl : RS w lao (lcs l) d) (hd : l ≠ [] → d ∉ [q, p, g]) (hsz : s0.1.length + l.length ≤ 200000000000) (hll : l.length ≤ 100000) :
    Calls Try.prog 34 #[.pointer (some ⟨q, 0, none⟩), .slice lao l.length lcap] w fun e w' => e = .returned (.tuple #[]) ∧ BTo w B q p g w' (wBits (P0, s0) l) := by
  go_enter Try.func34, Try.ntmps34
  go_wp2
  go_loopw [5, 8] (fun _ i wr => ∃ k : Nat, k ≤ l.length ∧ i = .int .i64 (k : Int) ∧ BTo w B q p g wr (wBits (P0, s0) (l.take k))) (fun _ i _ => l.length - (intOf i).toNat)
  case atStart => exact ⟨0, Nat.zero_le _, rfl, g, h, .inl rfl, Only.refl _ _⟩
  case round =>
    obtain ⟨k, hk, rfl, g', hB, hg', ho⟩ := hrel
    by_cases hlt : k < l.length
    · have hne : l ≠ [] := by intro e; simp [e] at hlt
      obtain ⟨off, rfl, hc⟩ := (hl.only ho (fun _ => hd hne)).at (j := k) (by rw [lcs_length]; omega)
      have hck := hc k _ (lcs_get l k hlt)
      have hsucc := hid (wBits_take_succ (P0, s0) l k hlt)
      obtain ⟨Y, hy1, hy2, hy3⟩ := wBits_parts P0 s0 (by have := h.hP; omega) (l.take k)
      have hyl := congrArg List.length hy2
      rw [List.length_append, List.length_append, unpack_len, List.length_take] at hyl
      have hpl := wPut_len s0 Y
      have hP0 := h.hP
      rw [← hy1] at hpl
      generalize wBits (P0, s0) (l.take k) = T at *
      obtain ⟨P, s⟩ := T
      simp only at hB hyl hpl
      clear hy1 hy2 hy3
      have hs1 : s.1.length + 1 ≤ 200000000010 := by omega
      generalize l[k] = b at *
      clear hc hyl hpl
      have HB := hid hB
      obtain ⟨c0, c1, c2, f1, f2, wr', np, ng, hP⟩ := hB
      have hv : valB P < 128 := Nat.lt_of_lt_of_le (valB_lt P) (Nat.pow_le_pow_right (by decide) hP)
      have hQ := valB_snoc P b
      generalize valB P = v at *
      have hw2 : IntKind.u8.wrap ((v : Int) * 2) = (v : Int) * 2 := by rw [IntKind.wrap_u8]; omega
      have hor := or_one v hv
      have HQ := hid hQ
      clear hQ
      by_cases h7 : P.length = 7
      · cases b with
        | false =>
          rw [h7] at c2
          go_wp2
          obtain ⟨W2, hW2⟩ : ∃ W2, W2 = (wr.setCell ⟨q, 1, none⟩ (.int .u8 ((v : Int) * 2))).setCell ⟨q, 2, none⟩ (.int .i64 8) := ⟨_, rfl⟩
          have o2 : Only [q] wr W2 := by rw [hW2]; exact ((Only.refl [q] wr).setCell (.inl (by simp)) _).setCell (.inl (by simp)) _
          have fz : ∀ a, W2.frozen? a = wr.frozen? a := fun a => by rw [hW2, frozen_setCell, frozen_setCell]
          have k0 : W2.cell? ⟨q, 0, none⟩ = some (.pointer (some ⟨p, 0, none⟩)) := by rw [hW2]; first | (rw [cell_setCell_ne _ _ (by simp), cell_setCell_ne _ _ (by simp)]; exact c0) | (rw [cell_setCell_ne _ _ (by simp), cell_setCell_ne _ _ (by simp), cell_setCell_ne _ _ (by simp)]; exact c0)
          have k1 : W2.cell? ⟨q, 1, none⟩ = some (.int .u8 ((v : Int) * 2)) := by rw [hW2]; go_simp
          have k2 : W2.cell? ⟨q, 2, none⟩ = some (.int .i64 8) := by rw [hW2]; go_simp
          rw [← hW2]
          have hU : ((v : Int) * 2 : Int) = ((UInt8.ofNat (valB (P ++ [false]))).toNat : Int) := by rw [UInt8.toNat_ofNat', HQ.out]; simp; omega
          have hsu2 : wBits (P0, s0) (l.take (k + 1)) = ([], wPut s [UInt8.ofNat (valB (P ++ [false]))]) := by rw [hsucc.out]; unfold wBit; rw [if_pos h7]
          generalize ((v : Int) * 2 : Int) = U at *
          generalize UInt8.ofNat (valB (P ++ [false])) = ub at *
          have g1 : W2.frozen? ⟨q, 1, none⟩ = false := (fz _).trans f1
          have g2 : W2.frozen? ⟨q, 2, none⟩ = false := (fz _).trans f2
          clear c0 c1 c2 f1 f2 hck hw2 hor HQ hsucc
          have hwr2 := wr'.only o2 (by simpa using np.symm) (by simpa using ng.symm)
          have HY : Hid (∀ W', Only [] W2 W' → BS W' (some ⟨W2.heap.size, 0, none⟩) [ub] W2.heap.size → Calls Try.prog 40 #[.pointer (some ⟨p, 0, none⟩), .slice (some ⟨W2.heap.size, 0, none⟩) 1 1] W' fun e w' => e = .returned (.tuple #[]) ∧ WTo W' B p g' w' (wPut s [ub])) := fun W' hO hb => wbytes_any (hwr2.only hO (by simp) (by simp)) hb (lcap := 1) (by simp) (by simp; omega)
          have hb1 := bs_one W2 ub U hU
          have hO1 : Only [] W2 (W2.alloc (.cells #[.int .u8 U] 5)) := (Only.refl [] W2).alloc _
          have hO2 : Only [] W2 (W2.alloc (.cells #[.int .u8 U] 5)).drew := hO1.drew
          have hb2 := hb1.only ((Only.refl [] (W2.alloc (.cells #[.int .u8 U] 5))).drew) (by simp)
          have a0 := fun o => cell_alloc o k0
          have a1 := fun o => cell_alloc o k1
          replace fz := hid fz
          have hq2 : q < W2.heap.size := World.block_lt_of_cell? W2 _ k0
          have hqn : q ∉ [p, g'] := by simp; omega
          have hqw : q < w.heap.size := h.lt
          replace hsu2 := hid hsu2
          replace hU := hid hU
          clear hW2 hwr2
          go_region_with (go_at_call 40; (with_reducible refine (HY.out _ ?_ ?_).mono ?_); (with_reducible first | exact hO1 | exact hO2); (with_reducible first | exact hb1 | exact hb2); rintro e w3 ⟨rfl, g3, hw3, hg3, o3⟩; have o4 := hid (only_two (by first | exact hO1 | exact hO2) o3); have hg4 := hid (Or.imp_right (Nat.le_trans (Only.size (by first | exact hO1 | exact hO2))) hg3); clear o3 hg3; have m0 := (o4.out.cell (p := ⟨q, 0, none⟩) hq2 hqn).trans k0; have m1 := (o4.out.cell (p := ⟨q, 1, none⟩) hq2 hqn).trans k1; have m2 := (o4.out.cell (p := ⟨q, 2, none⟩) hq2 hqn).trans k2; have n1 := (o4.out.frozen (p := ⟨q, 1, none⟩) hq2 hqn).trans g1; have n2 := (o4.out.frozen (p := ⟨q, 2, none⟩) hq2 hqn).trans g2)
          all_goals
            go_wp2
            refine ⟨⟨k + 1, by omega, by go_num, ?_⟩, by simp [intOf]; omega⟩
            rw [hsu2.out]
            exact bw_end ho hg' o2 o4.out hg4.out hw3 m0 m1 m2 n1 n2 np ng hqw
        | true =>
          rw [h7] at c2
          go_wp2
          obtain ⟨W2, hW2⟩ : ∃ W2, W2 = ((wr.setCell ⟨q, 1, none⟩ (.int .u8 ((v : Int) * 2))).setCell ⟨q, 1, none⟩ (.int .u8 (2 * (v : Int) + 1))).setCell ⟨q, 2, none⟩ (.int .i64 8) := ⟨_, rfl⟩
          have o2 : Only [q] wr W2 := by rw [hW2]; exact (((Only.refl [q] wr).setCell (.inl (by simp)) _).setCell (.inl (by simp)) _).setCell (.inl (by simp)) _
          have fz : ∀ a, W2.frozen? a = wr.frozen? a := fun a => by rw [hW2, frozen_setCell, frozen_setCell, frozen_setCell]
          have k0 : W2.cell? ⟨q, 0, none⟩ = some (.pointer (some ⟨p, 0, none⟩)) := by rw [hW2]; first | (rw [cell_setCell_ne _ _ (by simp), cell_setCell_ne _ _ (by simp)]; exact c0) | (rw [cell_setCell_ne _ _ (by simp), cell_setCell_ne _ _ (by simp), cell_setCell_ne _ _ (by simp)]; exact c0)
          have k1 : W2.cell? ⟨q, 1, none⟩ = some (.int .u8 (2 * (v : Int) + 1)) := by rw [hW2]; go_simp
          have k2 : W2.cell? ⟨q, 2, none⟩ = some (.int .i64 8) := by rw [hW2]; go_simp
          rw [← hW2]
          have hU : (2 * (v : Int) + 1 : Int) = ((UInt8.ofNat (valB (P ++ [true]))).toNat : Int) := by rw [UInt8.toNat_ofNat', HQ.out]; simp; omega
          have hsu2 : wBits (P0, s0) (l.take (k + 1)) = ([], wPut s [UInt8.ofNat (valB (P ++ [true]))]) := by rw [hsucc.out]; unfold wBit; rw [if_pos h7]
          generalize (2 * (v : Int) + 1 : Int) = U at *
          generalize UInt8.ofNat (valB (P ++ [true])) = ub at *
          have g1 : W2.frozen? ⟨q, 1, none⟩ = false := (fz _).trans f1
          have g2 : W2.frozen? ⟨q, 2, none⟩ = false := (fz _).trans f2
          clear c0 c1 c2 f1 f2 hck hw2 hor HQ hsucc
          have hwr2 := wr'.only o2 (by simpa using np.symm) (by simpa using ng.symm)
          have HY : Hid (∀ W', Only [] W2 W' → BS W' (some ⟨W2.heap.size, 0, none⟩) [ub] W2.heap.size → Calls Try.prog 40 #[.pointer (some ⟨p, 0, none⟩), .slice (some ⟨W2.heap.size, 0, none⟩) 1 1] W' fun e w' => e = .returned (.tuple #[]) ∧ WTo W' B p g' w' (wPut s [ub])) := fun W' hO hb => wbytes_any (hwr2.only hO (by simp) (by simp)) hb (lcap := 1) (by simp) (by simp; omega)
          have hb1 := bs_one W2 ub U hU
          have hO1 : Only [] W2 (W2.alloc (.cells #[.int .u8 U] 5)) := (Only.refl [] W2).alloc _
          have hO2 : Only [] W2 (W2.alloc (.cells #[.int .u8 U] 5)).drew := hO1.drew
          have hb2 := hb1.only ((Only.refl [] (W2.alloc (.cells #[.int .u8 U] 5))).drew) (by simp)
          have a0 := fun o => cell_alloc o k0
          have a1 := fun o => cell_alloc o k1
          replace fz := hid fz
          have hq2 : q < W2.heap.size := World.block_lt_of_cell? W2 _ k0
          have hqn : q ∉ [p, g'] := by simp; omega
          have hqw : q < w.heap.size := h.lt
          replace hsu2 := hid hsu2
          replace hU := hid hU
          clear hW2 hwr2
          go_region_with (go_at_call 40; (with_reducible refine (HY.out _ ?_ ?_).mono ?_); (with_reducible first | exact hO1 | exact hO2); (with_reducible first | exact hb1 | exact hb2); rintro e w3 ⟨rfl, g3, hw3, hg3, o3⟩; have o4 := hid (only_two (by first | exact hO1 | exact hO2) o3); have hg4 := hid (Or.imp_right (Nat.le_trans (Only.size (by first | exact hO1 | exact hO2))) hg3); clear o3 hg3; have m0 := (o4.out.cell (p := ⟨q, 0, none⟩) hq2 hqn).trans k0; have m1 := (o4.out.cell (p := ⟨q, 1, none⟩) hq2 hqn).trans k1; have m2 := (o4.out.cell (p := ⟨q, 2, none⟩) hq2 hqn).trans k2; have n1 := (o4.out.frozen (p := ⟨q, 1, none⟩) hq2 hqn).trans g1; have n2 := (o4.out.frozen (p := ⟨q, 2, none⟩) hq2 hqn).trans g2)
          all_goals
            go_wp2
            refine ⟨⟨k + 1, by omega, by go_num, ?_⟩, by simp [intOf]; omega⟩
            rw [hsu2.out]
            exact bw_end ho hg' o2 o4.out hg4.out hw3 m0 m1 m2 n1 n2 np ng hqw
      · have h8 : ¬ ((P.length : Int) + 1 = 8) := by omega
        have h8' : (((P.length : Int) + 1) == 8) = false := by simpa using h8
        cases b with
        | false =>
          go_wp2
          refine ⟨⟨k + 1, by omega, by go_num, ?_⟩, by simp [intOf]; omega⟩
          rw [hsucc.out]
          unfold wBit
          rw [if_neg h7]
          have o2 : Only [q] wr ((wr.setCell ⟨q, 1, none⟩ (.int .u8 ((v : Int) * 2))).setCell ⟨q, 2, none⟩ (.int .i64 ((P.length : Int) + 1))) := ((Only.refl [q] wr).setCell (.inl (by simp)) _).setCell (.inl (by simp)) _
          refine ⟨g', HB.out.put (Q := P ++ [false]) ?_ ?_ ?_ ?_ o2 (by simp; omega), hg', ho.trans o2 (fun x hx => .inl (by simp at hx; simp [hx]))⟩
          · rw [HQ.out]; simp; go_simp; omega
          · simp; go_simp
          · rw [cell_setCell_ne _ _ (by simp), cell_setCell_ne _ _ (by simp)]
          · exact fun a => by rw [frozen_setCell, frozen_setCell]
        | true =>
          go_wp2
          refine ⟨⟨k + 1, by omega, by go_num, ?_⟩, by simp [intOf]; omega⟩
          rw [hsucc.out]
          unfold wBit
          rw [if_neg h7]
          have o2 : Only [q] wr (((wr.setCell ⟨q, 1, none⟩ (.int .u8 ((v : Int) * 2))).setCell ⟨q, 1, none⟩ (.int .u8 (2 * (v : Int) + 1))).setCell ⟨q, 2, none⟩ (.int .i64 ((P.length : Int) + 1))) := (((Only.refl [q] wr).setCell (.inl (by simp)) _).setCell (.inl (by simp)) _).setCell (.inl (by simp)) _
          refine ⟨g', HB.out.put (Q := P ++ [true]) ?_ ?_ ?_ ?_ o2 (by simp; omega), hg', ho.trans o2 (fun x hx => .inl (by simp at hx; simp [hx]))⟩
          · rw [HQ.out]; simp; go_simp
          · simp; go_simp
          · rw [cell_setCell_ne _ _ (by simp), cell_setCell_ne _ _ (by simp), cell_setCell_ne _ _ (by simp)]
          · exact fun a => by rw [frozen_setCell, frozen_setCell, frozen_setCell]
    · go_wp2
      go_end0
      rw [List.take_of_length_le (by omega)] at hB
      exact ⟨rfl, g', hB, hg', ho⟩

end Go.Proofs.Ytmghmmkjcgopaaa
