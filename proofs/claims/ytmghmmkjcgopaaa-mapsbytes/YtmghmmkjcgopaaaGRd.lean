/-
  The contracts of maps' reader of bits: bits, fill. No conditions beyond the receiver's own shape.
-/
import Derived.Test.YtmghmmkjcgopaaaGBitP
import Derived.Deep.RegionHeld3
namespace Go.Proofs.Ytmghmmkjcgopaaa
open Go.RowKit

/-- A reader of bits in block q: its reader lies in block r, that one's bytes in block d; k bits of v are left. -/
structure BR (w : World) (q r d v k : Nat) (s : List UInt8 × Nat × Int) : Prop where
  c0 : w.cell? ⟨q, 0, none⟩ = some (.pointer (some ⟨r, 0, none⟩))
  c1 : w.cell? ⟨q, 1, none⟩ = some (.int .u8 (v : Int))
  c2 : w.cell? ⟨q, 2, none⟩ = some (.int .i64 (k : Int))
  f1 : w.frozen? ⟨q, 1, none⟩ = false
  f2 : w.frozen? ⟨q, 2, none⟩ = false
  rd : RdE w r d s
  nr : q ≠ r
  nd : q ≠ d
  hv : v < 256
  hk : k ≤ 7
  ld : d < w.heap.size

def BRE (w : World) (q r d : Nat) (t : BSt) : Prop := ∃ v k, BR w q r d v k t.2 ∧ t.1 = bitsOf v k

theorem BR.lt {w : World} {q r d v k : Nat} {s : List UInt8 × Nat × Int} (h : BR w q r d v k s) : q < w.heap.size := World.block_lt_of_cell? w _ h.c0

theorem BR.only {w w' : World} {S : List Nat} {q r d v k : Nat} {s : List UInt8 × Nat × Int} (h : BR w q r d v k s) (ho : Only S w w') (hq : q ∉ S) (hr : r ∉ S) (hd : d ∉ S) : BR w' q r d v k s := by
  have hl := h.lt
  exact ⟨(ho.cell (p := ⟨q, 0, none⟩) hl hq).trans h.c0, (ho.cell (p := ⟨q, 1, none⟩) hl hq).trans h.c1, (ho.cell (p := ⟨q, 2, none⟩) hl hq).trans h.c2, (ho.frozen (p := ⟨q, 1, none⟩) hl hq).trans h.f1, (ho.frozen (p := ⟨q, 2, none⟩) hl hq).trans h.f2, h.rd.only ho hr hd, h.nr, h.nd, h.hv, h.hk, Nat.lt_of_lt_of_le h.ld ho.size⟩

theorem BRE.only {w w' : World} {S : List Nat} {q r d : Nat} {t : BSt} (h : BRE w q r d t) (ho : Only S w w') (hq : q ∉ S) (hr : r ∉ S) (hd : d ∉ S) : BRE w' q r d t := by
  obtain ⟨v, k, h, e⟩ := h
  exact ⟨v, k, h.only ho hq hr hd, e⟩

theorem BRE.lt {w : World} {q r d : Nat} {t : BSt} (h : BRE w q r d t) : q < w.heap.size ∧ r < w.heap.size ∧ d < w.heap.size := by
  obtain ⟨v, k, h, e⟩ := h
  exact ⟨h.lt, h.rd.lt, h.ld⟩

/-- Its reader has gone on. -/
theorem BR.gone {w w' : World} {q r d v k : Nat} {s s' : List UInt8 × Nat × Int} (h : BR w q r d v k s) (ho : Only [r] w w') (hr : RdE w' r d s') : BR w' q r d v k s' := by
  have hl := h.lt
  have hq : q ∉ [r] := by simpa using h.nr
  exact ⟨(ho.cell (p := ⟨q, 0, none⟩) hl hq).trans h.c0, (ho.cell (p := ⟨q, 1, none⟩) hl hq).trans h.c1, (ho.cell (p := ⟨q, 2, none⟩) hl hq).trans h.c2, (ho.frozen (p := ⟨q, 1, none⟩) hl hq).trans h.f1, (ho.frozen (p := ⟨q, 2, none⟩) hl hq).trans h.f2, hr, h.nr, h.nd, h.hv, h.hk, Nat.lt_of_lt_of_le h.ld ho.size⟩

/-- How many bits are left is set. -/
theorem BR.left {w : World} {q r d v k : Nat} {s : List UInt8 × Nat × Int} (h : BR w q r d v k s) (j : Nat) (hj : j ≤ 7) (ji : Int) (hji : ji = (j : Int)) : BR (w.setCell ⟨q, 2, none⟩ (.int .i64 ji)) q r d v j s ∧ Only [q] w (w.setCell ⟨q, 2, none⟩ (.int .i64 ji)) := by
  subst hji
  have ho : Only [q] w (w.setCell ⟨q, 2, none⟩ (.int .i64 (j : Int))) := (Only.refl [q] w).setCell (.inl (by simp)) _
  refine ⟨⟨?_, ?_, cell_setCell_same _ _ h.c2, ?_, ?_, h.rd.only ho (by simpa using h.nr.symm) (by simpa using h.nd.symm), h.nr, h.nd, h.hv, hj, Nat.lt_of_lt_of_le h.ld ho.size⟩, ho⟩
  · rw [cell_setCell_ne _ _ (by simp)]; exact h.c0
  · rw [cell_setCell_ne _ _ (by simp)]; exact h.c1
  · rw [frozen_setCell]; exact h.f1
  · rw [frozen_setCell]; exact h.f2

/-- A new byte is there, its first bit was read. -/
theorem BR.next {w w1 : World} {q r d v k : Nat} {s s' : List UInt8 × Nat × Int} (h : BR w q r d v k s) (ho : Only [r] w w1) (hr : RdE w1 r d s') (u : Nat) (hu : u < 256) (x : Int) :
    BR (((w1.setCell ⟨q, 1, none⟩ (.int .u8 (u : Int))).setCell ⟨q, 2, none⟩ (.int .i64 x)).setCell ⟨q, 2, none⟩ (.int .i64 7)) q r d u 7 s' ∧ Only [q, r] w (((w1.setCell ⟨q, 1, none⟩ (.int .u8 (u : Int))).setCell ⟨q, 2, none⟩ (.int .i64 x)).setCell ⟨q, 2, none⟩ (.int .i64 7)) := by
  have h1 := h.gone ho hr
  have o1 : Only [q] w1 (((w1.setCell ⟨q, 1, none⟩ (.int .u8 (u : Int))).setCell ⟨q, 2, none⟩ (.int .i64 x)).setCell ⟨q, 2, none⟩ (.int .i64 7)) := (((Only.refl [q] w1).setCell (.inl (by simp)) _).setCell (.inl (by simp)) _).setCell (.inl (by simp)) _
  refine ⟨⟨?_, ?_, ?_, ?_, ?_, h1.rd.only o1 (by simpa using h.nr.symm) (by simpa using h.nd.symm), h.nr, h.nd, hu, by decide, Nat.lt_of_lt_of_le h1.ld o1.size⟩, (ho.mono (fun z hz => .inl (by simp at hz; simp [hz]))).trans o1 (fun z hz => .inl (by simp at hz; simp [hz]))⟩
  · rw [cell_setCell_ne _ _ (by simp), cell_setCell_ne _ _ (by simp), cell_setCell_ne _ _ (by simp)]; exact h1.c0
  · rw [cell_setCell_ne _ _ (by simp), cell_setCell_ne _ _ (by simp)]; exact cell_setCell_same _ _ h1.c1
  · exact cell_setCell_same _ _ (cell_setCell_same _ _ ((cell_setCell_ne _ _ (by simp)).trans h1.c2))
  · rw [frozen_setCell, frozen_setCell, frozen_setCell]; exact h1.f1
  · rw [frozen_setCell, frozen_setCell, frozen_setCell]; exact h1.f2

theorem made_bits (m : Nat) : (madeCells (Value.bool false).cells (m * 1)).toList = lcs (List.replicate m false) := by
  have e : (Value.bool false).cells = #[.bool false] := rfl
  apply List.ext_getElem?
  intro i
  simp [madeCells, lcs, e]
  by_cases h : i < m <;> simp [h, Nat.mod_one]

theorem info_bool : (Try.prog.info? 4).map (fun i => (i.zero, i.size, i.bytes)) = some (some (.bool false), 1, 1) := by kernel_rfl

theorem make_bits (m : Nat) (hm : m ≤ 1000) (u : World) : (Instr.makeSlice 25 (.int .i64 (m : Int)) (.int .i64 (m : Int))).run Try.prog u = .ok (.slice (some ⟨u.heap.size, 0, none⟩) m m) (u.alloc (.cells (madeCells (Value.bool false).cells (m * 1)) 4)) := by
  obtain ⟨i0, hi, hz0, hz1, hz2⟩ := info_parts info_bool
  have := run_makeSlice (P := Try.prog) u 25 4 i0 (.bool false) Try.underlying25 hi hz0 .i64 .i64 (m : Int) (m : Int) (by omega) (by omega) (by rw [hz1]; simp; omega) (by rw [hz2]; simp; omega) (by omega)
  rw [hz1] at this
  simpa using this

theorem made_own (u : World) (m : Nat) (hm : m ≤ 1000) : (u.alloc (.cells (madeCells (Value.bool false).cells (m * 1)) 4)).ownsRow u.heap.size 4 1 (.slice (some ⟨u.heap.size, 0, none⟩) m m) m (lcs (List.replicate m false)) := by
  rw [← made_bits]
  exact World.ownsRow_lit u _ m (Nat.le_refl _) (by unfold maxLen; omega) (size_madeCells _ _)

theorem lcs_set (l : List Bool) (k m : Nat) (b : Bool) (hl : l.length = k) (hk : k < m) : (lcs (l ++ List.replicate (m - k) false)).set k (.bool b) = lcs ((l ++ [b]) ++ List.replicate (m - (k + 1)) false) := by
  obtain ⟨j, hj⟩ : ∃ j, m - k = j + 1 := ⟨m - k - 1, by omega⟩
  rw [hj, show m - (k + 1) = j by omega, List.replicate_succ]
  simp only [lcs, List.map_append, List.map_cons]
  rw [List.set_append_right _ _ (by simp [hl])]
  simp [hl]

/-- The bit at a place of a byte. -/
theorem bit_at (v j : Nat) (hv : v < 256) : (bits .and .u8 ((v : Int) / 2 ^ j) 1 == 1) = decide (v / 2 ^ j % 2 = 1) := by
  have hx : v / 2 ^ j < 256 := Nat.lt_of_le_of_lt (Nat.div_le_self _ _) hv
  have e : (v : Int) / 2 ^ j = ((v / 2 ^ j : Nat) : Int) := by simp
  rw [e]
  have hall : ∀ x : Fin 256, (bits .and .u8 ((x.val : Nat) : Int) 1 == 1) = decide (x.val % 2 = 1) := by decide +kernel
  exact hall ⟨_, hx⟩

set_option maxHeartbeats 1000000 in
theorem bits_any {w : World} {q r d : Nat} {t : BSt} (h : BRE w q r d t) (m : Nat) (hm : m ≤ 255) :
    Calls Try.prog 27 #[.pointer (some ⟨q, 0, none⟩), .int .i64 (m : Int)] w fun e w' => ∃ ao cap, e = .returned (.slice ao m cap) ∧ w'.ownsRow w.heap.size 4 1 (.slice ao m cap) m (lcs (bitsN t m).1) ∧ BRE w' q r d (bitsN t m).2 ∧ Only [q, r] w w' := by
  have hmk := make_bits m (by omega)
  obtain ⟨hq, hr, hdl⟩ := h.lt
  go_enter Try.func27, Try.ntmps27
  go_wp2
  go_loopw [6, 11] (fun _ i wr => ∃ k : Nat, k ≤ m ∧ i = .int .i64 (k : Int) ∧ wr.ownsRow w.heap.size 4 1 (.slice (some ⟨w.heap.size, 0, none⟩) m m) m (lcs ((bitsN t k).1 ++ List.replicate (m - k) false)) ∧ BRE wr q r d (bitsN t k).2 ∧ Only [q, r] w wr) (fun _ i _ => m - (intOf i).toNat)
  case atStart =>
    refine ⟨0, Nat.zero_le _, rfl, ?_, ?_, (Only.refl _ w).alloc _⟩
    · have := made_own w m (by omega)
      rw [show (Value.bool false).cells = #[.bool false] from rfl] at this
      simpa [bitsN] using this
    · exact h.only ((Only.refl [] w).alloc _) (by simp) (by simp) (by simp)
  case round =>
    obtain ⟨k, hk, rfl, hown, hB, ho⟩ := hrel
    by_cases hlt : k < m
    · have hsucc : bitsN t (k + 1) = ((bitsN t k).1 ++ [(bit1 (bitsN t k).2).1], (bit1 (bitsN t k).2).2) := rfl
      have hlen := bitsN_len t k
      generalize bitsN t k = T at *
      obtain ⟨L, T⟩ := T
      obtain ⟨P, s⟩ := T
      obtain ⟨v, j, hR, hP⟩ := hB
      simp only at hown hR hP hlen hsucc
      have HR := hid hR
      have HS := hid hsucc
      clear hsucc
      cases j with
      | succ j =>
        obtain ⟨c0, c1, c2, f1, f2, rd, nr, nd, hv, hk7, ld⟩ := hR
        have hne : ((j + 1 : Nat) : Int) ≠ 0 := by omega
        have hne' : (((j + 1 : Nat) : Int) == 0) = false := by simp; omega
        go_wp2
        obtain ⟨hR2, o2⟩ := HR.out.left j (by omega) (j : Int) rfl
        have ho2 := ho.trans o2 (fun x hx => .inl (by simp at hx; simp [hx]))
        have hown2 := ownb_only hown o2 (fun b hb => by simp [Value.ownBlock] at hb; simp; omega)
        clear hown c0 c1 c2 f1 f2 rd ho
        generalize wr.setCell ⟨q, 2, none⟩ (.int .i64 (j : Int)) = w2 at *
        have HR2 := hid hR2
        have HO2 := hid hown2
        obtain ⟨c0, c1, c2, f1, f2, rd, nr, nd, hv, hk7, ld⟩ := hR2
        have hcell : w2.cell? ⟨w.heap.size, k, none⟩ = some (.bool false) := by
          have := hown2.cellAt k (by omega)
          rw [this, lcs_get _ _ (by simp [hlen]; omega), List.getElem_append_right (by omega)]
          simp
        have hfr : w2.frozen? ⟨w.heap.size, k, none⟩ = false := hown2.frozenAt k
        clear hown2
        go_region
        go_wp2
        refine ⟨⟨k + 1, by omega, by go_num, ?_⟩, by simp [intOf]; omega⟩
        rw [HS.out]
        obtain ⟨s1, s2⟩ := HO2.out.stored k (.bool (bits .and .u8 ((v : Int) / 2 ^ j) 1 == 1))
        rw [lcs_set L k m _ hlen hlt, bit_at v j hv] at s1
        rw [bit_at v j hv] at s2 ⊢
        have o3 : Only [w.heap.size] w2 (w2.setCell ⟨w.heap.size, k, none⟩ (.bool (decide (v / 2 ^ j % 2 = 1)))) := (Only.refl _ _).setCell (.inl (by simp)) _
        have hb1 : bit1 (P, s) = (decide (v / 2 ^ j % 2 = 1), bitsOf v j, s) := by rw [hP]; rfl
        rw [hb1]
        have hq' : q ∉ [w.heap.size] := by simp; omega
        have hr' : r ∉ [w.heap.size] := by simp; omega
        refine ⟨s1, ⟨v, j, HR2.out.only (o3.drew) hq' hr' (by simp; omega), rfl⟩, ho2.next o3.drew (by simp)⟩
      | zero =>
        obtain ⟨c0, c1, c2, f1, f2, rd, nr, nd, hv, hk7, ld⟩ := hR
        have hU : be (rTake s 1).1 < 256 := be_lt_of _ 1 (rTake_le s 1)
        have b7 : ∀ U : Nat, U < 256 → (bits .and .u8 ((U : Int) / 128) 1 == 1) = decide (U / 128 % 2 = 1) := fun U h => bit_at U 7 h
        have HU := hid (u1_any rd)
        obtain ⟨U, hU'⟩ : ∃ U, U = be (rTake s 1).1 := ⟨_, rfl⟩
        obtain ⟨s', hs'⟩ : ∃ s', s' = (rTake s 1).2 := ⟨_, rfl⟩
        rw [← hU', ← hs'] at HU
        rw [← hU'] at hU
        replace b7 := hid (b7 U hU)
        replace hU' := hid hU'
        replace hs' := hid hs'
        have hwr : IntKind.u8.wrap (U : Int) = (U : Int) := by rw [IntKind.wrap_u8]; omega
        go_wp2_with (go_at_call 26; refine HU.out.mono ?_; rintro e w1 ⟨rfl, hrd, ho1⟩; have hc1 := (ho1.cell (p := ⟨q, 1, none⟩) HR.out.lt (by simpa using nr)).trans c1; have hc2 := (ho1.cell (p := ⟨q, 2, none⟩) HR.out.lt (by simpa using nr)).trans c2; have hf1 := (ho1.frozen (p := ⟨q, 1, none⟩) HR.out.lt (by simpa using nr)).trans f1; have hf2 := (ho1.frozen (p := ⟨q, 2, none⟩) HR.out.lt (by simpa using nr)).trans f2)
        obtain ⟨hR2, o2⟩ := HR.out.next ho1 hrd U hU 8
        have ho2 := ho.trans o2 (fun x hx => .inl hx)
        have hown2 := ownb_only hown o2 (fun b hb => by simp [Value.ownBlock] at hb; simp; omega)
        clear hown c0 c1 c2 f1 f2 rd ho hc1 hc2 hf1 hf2 hrd ho1 HU
        generalize ((w1.setCell ⟨q, 1, none⟩ (.int .u8 (U : Int))).setCell ⟨q, 2, none⟩ (.int .i64 8)).setCell ⟨q, 2, none⟩ (.int .i64 7) = w2 at *
        have HR2 := hid hR2
        have HO2 := hid hown2
        obtain ⟨c0, c1, c2, f1, f2, rd, nr, nd, _, hk7, ld⟩ := hR2
        have hcell : w2.cell? ⟨w.heap.size, k, none⟩ = some (.bool false) := by
          have := hown2.cellAt k (by omega)
          rw [this, lcs_get _ _ (by simp [hlen]; omega), List.getElem_append_right (by omega)]
          simp
        have hfr : w2.frozen? ⟨w.heap.size, k, none⟩ = false := hown2.frozenAt k
        clear hown2
        go_region
        go_wp2
        refine ⟨⟨k + 1, by omega, by go_num, ?_⟩, by simp [intOf]; omega⟩
        rw [HS.out]
        obtain ⟨s1, s2⟩ := HO2.out.stored k (.bool (bits .and .u8 ((U : Int) / 128) 1 == 1))
        rw [lcs_set L k m _ hlen hlt, b7.out] at s1
        rw [b7.out] at s2 ⊢
        have o3 : Only [w.heap.size] w2 (w2.setCell ⟨w.heap.size, k, none⟩ (.bool (decide (U / 128 % 2 = 1)))) := (Only.refl _ _).setCell (.inl (by simp)) _
        have hb1 : bit1 (P, s) = (decide (U / 128 % 2 = 1), bitsOf U 7, s') := by rw [hP, show bitsOf v 0 = [] from rfl]; unfold bit1; simp only; rw [← hU'.out, ← hs'.out]
        rw [hb1]
        have hq' : q ∉ [w.heap.size] := by simp; omega
        have hr' : r ∉ [w.heap.size] := by simp; omega
        refine ⟨s1, ⟨U, 7, HR2.out.only (o3.drew) hq' hr' (by simp; omega), rfl⟩, ho2.next o3.drew (by simp)⟩
    · go_wp2
      go_ret
      have : k = m := by omega
      subst this
      exact ⟨_, _, rfl, by simpa using hown, hB, ho⟩

end Go.Proofs.Ytmghmmkjcgopaaa
