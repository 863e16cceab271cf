/-
  The contract of the second program's Decode. No conditions beyond the code's own shape.
-/
import Derived.Test.YtemjhlhioeopnaaDoorIDec
namespace Go.Proofs.YtemjhlhioeopnaaDoor
open Go.RowKit

/-- An instruction in a block of its own that may be written. -/
structure InW (w : World) (b : Nat) (i : In) : Prop where
  at_ : InAt w b 0 i
  fr : ∀ j, w.frozen? ⟨b, j, none⟩ = false

theorem inW_new (w : World) (a op n s : Int) (t : TypeId) : InW (w.alloc (.cells #[.int .i64 a, .int .i64 op, .int .i64 n, .int .i64 s] t)) w.heap.size (a, op, n, s) := ⟨inAt_new w a op n s t, fun _ => frozen_new _ _ _ _⟩

theorem InW.only {w w' : World} {S : List Nat} {b : Nat} {i : In} (h : InW w b i) (ho : Only S w w') (hb : b ∉ S) : InW w' b i :=
  ⟨h.at_.only ho hb, fun j => by rw [ho.frozen h.at_.lt hb]; exact h.fr j⟩

theorem InW.put2 {w : World} {b : Nat} {i : In} (h : InW w b i) (x : Int) : InW (w.setCell ⟨b, 2, none⟩ (.int .i64 x)) b (i.1, i.2.1, x, i.2.2.2) := by
  obtain ⟨⟨c0, c1, c2, c3⟩, f⟩ := h
  simp only [Nat.zero_add] at c1 c2 c3
  refine ⟨⟨?_, ?_, ?_, ?_⟩, fun j => by rw [frozen_setCell]; exact f j⟩
  · rw [cell_setCell_ne _ _ (by simp)]; exact c0
  · rw [Nat.zero_add, cell_setCell_ne _ _ (by simp)]; exact c1
  · rw [Nat.zero_add]; exact cell_setCell_same _ _ c2
  · rw [Nat.zero_add, cell_setCell_ne _ _ (by simp)]; exact c3

theorem InW.put {w : World} {b : Nat} {i : In} (h : InW w b i) (a op n s : Int) :
    InW ((((w.setCell ⟨b, 0, none⟩ (.int .i64 a)).setCell ⟨b, 1, none⟩ (.int .i64 op)).setCell ⟨b, 2, none⟩ (.int .i64 n)).setCell ⟨b, 3, none⟩ (.int .i64 s)) b (a, op, n, s) := by
  obtain ⟨⟨c0, c1, c2, c3⟩, f⟩ := h
  simp only [Nat.zero_add] at c1 c2 c3
  refine ⟨⟨?_, ?_, ?_, ?_⟩, fun j => by rw [frozen_setCell, frozen_setCell, frozen_setCell, frozen_setCell]; exact f j⟩
  · rw [cell_setCell_ne _ _ (by simp), cell_setCell_ne _ _ (by simp), cell_setCell_ne _ _ (by simp)]
    exact cell_setCell_same _ _ c0
  · rw [Nat.zero_add, cell_setCell_ne _ _ (by simp), cell_setCell_ne _ _ (by simp)]
    exact cell_setCell_same _ _ (by rw [cell_setCell_ne _ _ (by simp)]; exact c1)
  · rw [Nat.zero_add, cell_setCell_ne _ _ (by simp)]
    exact cell_setCell_same _ _ (by rw [cell_setCell_ne _ _ (by simp), cell_setCell_ne _ _ (by simp)]; exact c2)
  · rw [Nat.zero_add]
    exact cell_setCell_same _ _ (by rw [cell_setCell_ne _ _ (by simp), cell_setCell_ne _ _ (by simp), cell_setCell_ne _ _ (by simp)]; exact c3)

theorem InW.drew {w : World} {b : Nat} {i : In} (h : InW w b i) : InW w.drew b i := h.only (Only.refl [] w).drew (by simp)

/-- Four cells of a new block written. -/
theorem Only.put4 {w w' : World} (h : Only [] w w') {b : Nat} (hb : w.heap.size ≤ b) (x y z t : Value) : Only [] w ((((w'.setCell ⟨b, 0, none⟩ x).setCell ⟨b, 1, none⟩ y).setCell ⟨b, 2, none⟩ z).setCell ⟨b, 3, none⟩ t) :=
  (((h.setCell (.inr hb) x).setCell (.inr hb) y).setCell (.inr hb) z).setCell (.inr hb) t

theorem rin_result {w : World} {b : Nat} {i : In} {x : Value} (h : InAt w b 0 i) (tmps : Array Value) (h2 : tmps.getD 4 undef = .pointer (some ⟨b, 0, none⟩)) (h3 : tmps.getD 5 undef = x) :
    (results Tryd.f21 tmps).run Tryd.prog w = .ok (.tuple #[inV i, x]) w := by
  obtain ⟨c0, c1, c2, c3⟩ := h
  rw [results_cell_tmp (p := 4) (u := 5) (ty := 23) Tryd.results21, h2, h3]
  simp only [Nat.zero_add] at c1 c2 c3
  simp [go_sem, c0, c1, c2, c3, inV]

set_option maxHeartbeats 1000000 in
set_option maxRecDepth 100000 in
theorem rdec_any {w : World} {ao : Option Addr} {code : List UInt8} {d cap : Nat} (hB : RS w ao (bcs code) d) (hc : code.length ≤ cap) (hl : cap ≤ 9223372036854775807) (at_ : Int) :
    Calls Tryd.prog 21 #[.slice ao code.length cap, .int .i64 at_] w fun e w' => e = .returned (.tuple #[inV (decR code at_).1, .int .i64 (decR code at_).2]) ∧ Only [] w w' := by
  have o0 := hid ((Only.refl [] w).alloc (.cells #[.int .i64 0, .int .i64 0, .int .i64 0, .int .i64 0] 23))
  by_cases h0 : at_ < 0
  · rw [decR_out (.inl h0)]
    clear hB
    go_enter Tryd.func21, Tryd.ntmps21
    go_wp2
    exact bodyPost_ret (rin_result (inAt_new w 0 0 0 0 23) _ rfl rfl) rfl ⟨rfl, o0.out⟩
  by_cases h1 : (code.length : Int) ≤ at_
  · rw [decR_out (.inr h1)]
    clear hB
    go_enter Tryd.func21, Tryd.ntmps21
    go_wp2
    exact bodyPost_ret (rin_result (inAt_new w 0 0 0 0 23) _ rfl rfl) rfl ⟨rfl, o0.out⟩
  obtain ⟨k, rfl⟩ : ∃ k : Nat, at_ = (k : Int) := ⟨at_.toNat, by omega⟩
  have hk : k < code.length := by omega
  rw [decR_at hk]
  have hB' := hid hB
  obtain ⟨off, rfl, hcells⟩ := hB.at (j := k) (by rw [bcs_length]; omega)
  have y0 := hcells k _ (bcs_get code k hk)
  have y0' := fun o => cell_alloc o y0
  have hsz := sizeN_le code[k].toNat
  have HS := fun W => rsize_any (code[k].toNat : Int) W
  have hcn := code[k].toNat_lt
  clear hcells hB
  obtain ⟨bs, hbs⟩ : ∃ bs, bs = (code.drop (k + 1)).take (sizeN code[k].toNat - 1) := ⟨_, rfl⟩
  rw [← hbs]
  generalize code[k].toNat = c at *
  generalize sizeN (c : Int) = z at *
  replace HS := hid HS
  by_cases hz : z = 0
  · subst hz
    rw [if_pos rfl]
    clear hbs hB'
    go_enter Tryd.func21, Tryd.ntmps21
    go_wp2_with (go_at_call 15; refine (HS.out _).mono ?_; rintro e w' ⟨rfl, rfl⟩)
    exact bodyPost_ret (rin_result ((inAt_new w 0 0 0 0 23).alloc _) _ rfl rfl) rfl ⟨rfl, o0.out.alloc _⟩
  rw [if_neg hz]
  have gz : ((z : Int) == 0) = false := by simp; omega
  have gz' : ¬ ((z : Int) = 0) := by omega
  by_cases hs : code.length - k < z
  · rw [if_pos hs]
    have g1 : ((code.length : Int) - (k : Int) < (z : Int)) := by omega
    clear hbs hB'
    go_enter Tryd.func21, Tryd.ntmps21
    go_wp2_with (go_at_call 15; refine (HS.out _).mono ?_; rintro e w' ⟨rfl, rfl⟩)
    exact bodyPost_ret (rin_result ((inAt_new w 0 0 0 0 23).alloc _) _ rfl rfl) rfl ⟨rfl, o0.out.alloc _⟩
  rw [if_neg hs]
  have g1 : ¬ ((code.length : Int) - (k : Int) < (z : Int)) := by omega
  have hbl : bs.length = z - 1 := by rw [hbs]; simp; omega
  have hget : ∀ W, Only [] w W → ∀ j (hj : j < bs.length), W.cell? ⟨d, off + (k + (j + 1)), none⟩ = some (.int .u8 (bs[j].toNat : Int)) := by
    intro W hW j hj
    obtain ⟨off', ho, hcell⟩ := (hB'.out.only0 hW).byteAt (j := k + (j + 1)) (by omega)
    cases ho
    have e : bs[j]? = code[k + 1 + j]? := by rw [hbs, List.getElem?_take, if_pos (by omega), List.getElem?_drop]
    rw [List.getElem?_eq_getElem hj, show k + 1 + j = k + (j + 1) by omega, List.getElem?_eq_getElem (by omega), Option.some.injEq] at e
    rw [hcell, e]
  clear hbs hB'
  replace hget := hid hget
  have hb2 : bs.length ≤ 2 := by omega
  have hz1 : z ≤ bs.length + 1 := by omega
  have hz2 : bs.length + 1 ≤ z := by omega
  clear hbl
  have I0 := hid ((inW_new w 0 0 0 0 23).only ((Only.refl [] _).alloc (.cells #[.int .i64 (k : Int), .int .i64 (c : Int), .int .i64 0, .int .i64 (z : Int)] 23)) (by simp))
  have I1 := hid (inW_new (w.alloc (.cells #[.int .i64 0, .int .i64 0, .int .i64 0, .int .i64 0] 23)) (k : Int) (c : Int) 0 (z : Int) 23)
  rw [World.size_alloc] at I1
  go_enter Tryd.func21, Tryd.ntmps21
  go_wp2_with (go_at_call 15; refine (HS.out _).mono ?_; rintro e w' ⟨rfl, rfl⟩)
  go_loopw [7] (fun i wr => ∃ j : Nat, j ≤ bs.length ∧ i = .int .i64 ((j : Int) + 1) ∧ Hid (InW wr (w.heap.size + 1) ((k : Int), (c : Int), (beI (bs.take j) : Int), (z : Int))) ∧ Hid (InW wr w.heap.size in0) ∧ Hid (Only [] w wr)) (fun i _ => (bs.length + 1 - intOf i).toNat)
  case atStart => exact ⟨0, Nat.zero_le _, rfl, I1, I0, hid (o0.out.alloc _)⟩
  case round =>
    obtain ⟨j, hj, rfl, i1, i0, hor⟩ := hrel
    clear I0 I1
    obtain ⟨⟨c0, c1, c2, c3⟩, f⟩ := i1.out
    simp only [Nat.zero_add] at c1 c2 c3
    have f2 := f 2
    clear f
    by_cases hlt : j < bs.length
    · have hcell := hget.out wr hor.out j hlt
      have g2 : ((j : Int) + 1 < (z : Int)) := by omega
      have hb := beI_lt (bs.take j)
      have hb' : beI (bs.take j) < 65536 := Nat.lt_of_lt_of_le hb (Nat.le_trans (Nat.pow_le_pow_right (by decide) (show (bs.take j).length ≤ 2 by simp; omega)) (by decide))
      have hsucc := hid (beI_take_succ bs j hlt)
      have hbn := bs[j].toNat_lt
      clear hget hb
      go_wp2_with fail
      go_region
      go_wp2
      refine ⟨⟨j + 1, by omega, by go_num, ?_, ?_, ?_⟩, by simp [intOf]; omega⟩
      · have := i1.out.put2 (256 * (beI (bs.take j) : Int) + (bs[j].toNat : Int))
        rw [hsucc.out]
        rw [show (256 : Int) * (beI (bs.take j) : Int) + (bs[j].toNat : Int) = ((beI (bs.take j) * 256 + bs[j].toNat : Nat) : Int) by omega] at this ⊢
        exact hid this.drew
      · exact hid (i0.out.only (S := [w.heap.size + 1]) ((Only.refl _ _).setCell (.inl (by simp)) _).drew (by simp))
      · exact hid (hor.out.setCell (.inr (by simp)) _).drew
    · have g2 : ¬ ((j : Int) + 1 < (z : Int)) := by omega
      have e1 : Hid (bs.take j = bs) := List.take_of_length_le (by omega)
      obtain ⟨⟨b0, b1, b2, b3⟩, e⟩ := i0.out
      simp only [Nat.zero_add] at b1 b2 b3
      have e0 := e 0
      have e1' := e 1
      have e2 := e 2
      have e3 := e 3
      clear hget e
      go_wp2
      rw [e1.out]
      exact bodyPost_ret (rin_result (i0.out.put (k : Int) (c : Int) (beI bs : Int) (z : Int)).at_ _ rfl rfl) rfl ⟨rfl, hor.out.put4 (Nat.le_refl _) _ _ _ _⟩

end Go.Proofs.YtemjhlhioeopnaaDoor
