/-
  The walk of CursorWrites: it answers true, and writes nothing that was there. What came in is at most 2 to the power of 20 bytes.
-/
import Derived.Test.YtgnbimoebaagfaaLPut
import Derived.Test.YtgnbimoebaagfaaItems
import Derived.BigQuiet
namespace Go.Proofs.Ytgnbimoebaagfaa
open Go.RowKit

/-- What an item does to a writer. -/
def wStep (it : Itm) (s : List UInt8 × Int) : List UInt8 × Int :=
  if it.kind = 1 then wOne 1 s it.n else if it.kind = 2 then wOne 2 s it.n else if it.kind = 3 then wN8 s [it.n] else if it.kind = 4 then wPut s it.bs else if it.kind = 5 then wText1 s (str it.bs) else s

theorem wStep_len (it : Itm) (s : List UInt8 × Int) : (wStep it s).1.length ≤ s.1.length + it.bs.length + 512 := by
  unfold wStep
  split
  · have := wOne_len 1 s it.n
    omega
  split
  · have := wOne_len 2 s it.n
    omega
  split
  · have := wN8_len s [it.n]
    simp at this
    omega
  split
  · have := wPut_len s it.bs
    omega
  split
  · have := wText1_len s (str it.bs)
    omega
  · omega

/-- Whatever the item: put. -/
theorem lput_any {w : World} {p g y h : Nat} {s : List UInt8 × Int} (H : Pair w p g y h s) (it : Itm) (hb : BS w it.bo it.bs it.bd) (hbn : it.bo = none → it.bcap = 0) (hbd : it.bs ≠ [] → it.bd ∉ [p, g, y, h]) (hsz : s.1.length + it.bs.length + 512 ≤ 211106232532992) (hbl : it.bs.length ≤ 9223372036854775807) :
    Calls Try.prog 13 #[.pointer (some ⟨p, 0, none⟩), .pointer (some ⟨y, 0, none⟩), .agg #[.int .i64 it.kind, .int .i64 it.n, .slice it.bo it.bs.length it.bcap]] w fun e w' => e = .returned (.tuple #[]) ∧ ∃ g' h', Pair w' p g' y h' (wStep it s) ∧ (g' = g ∨ w.heap.size ≤ g') ∧ (h' = h ∨ w.heap.size ≤ h') ∧ Only [p, g, y, h] w w' := by
  obtain ⟨k, n, bo, bs, bcap, bd⟩ := it
  simp only at hb hbn hbd hsz hbl
  by_cases k1 : k = 1
  · subst k1
    exact lput_one H n hb hbn hbd hsz hbl
  by_cases k2 : k = 2
  · subst k2
    exact lput_two H n hb hbn hbd hsz hbl
  by_cases k3 : k = 3
  · subst k3
    exact lput_three H n hb hbn hbd hsz hbl
  by_cases k4 : k = 4
  · subst k4
    exact lput_four H n hb hbn hbd hsz hbl
  by_cases k5 : k = 5
  · subst k5
    exact lput_five H n hb hbn hbd hsz hbl
  have e : wStep ⟨k, n, bo, bs, bcap, bd⟩ s = s := by simp [wStep, k1, k2, k3, k4, k5]
  rw [e]
  exact lput_none H k n _ (by simpa using k1) (by simpa using k2) (by simpa using k3) (by simpa using k4) (by simpa using k5)

theorem wlen_q {w : World} {B p g : Nat} {s : List UInt8 × Int} (h : WrE w B p g s) (n : Nat) :
    Calls Try.prog 14 #[.pointer (some ⟨p, 0, none⟩)] (w.drewN n) fun e w' => e = .returned (.int .i64 (s.1.length : Int)) ∧ ∃ m, w' = w.drewN m :=
  (wlen_any (h.only ((show Only [] w (w.drewN n) from ⟨rfl, rfl, rfl, Nat.le_refl _, fun _ _ _ => rfl⟩)) (by simp) (by simp))).mono fun _ _ ⟨he, hm⟩ => ⟨he, n, hm.symm⟩

theorem drewN_only (w : World) (n : Nat) : Only [] w (w.drewN n) := ⟨rfl, rfl, rfl, Nat.le_refl _, fun _ _ _ => rfl⟩

set_option maxHeartbeats 2000000 in
set_option maxRecDepth 100000 in
theorem writes_walk {w : World} {lao : Option Addr} {l : List Itm} {lcap ld : Nat} (hl : IS w lao l ld) (hll : l.length ≤ 9223372036854775807)
    (hit : ∀ it ∈ l, BS w it.bo it.bs it.bd ∧ (it.bo = none → it.bcap = 0) ∧ it.bs.length ≤ it.bcap ∧ (Lit.int .i64 it.n).wf = true) (hsm : ∀ it ∈ l, it.bs.length ≤ 1048576) :
    Calls Try.prog 4 #[.slice lao l.length lcap] w fun e w' => e = .returned (.bool true) ∧ Below w.heap.size w w' := by
  have HITS := hid hit
  have HSM := hid hsm
  clear hit hsm
  go_enter Try.func4, Try.ntmps4
  go_wp2_with fail
  refine (known_any w).mono ?_
  rintro e w1 ⟨rfl, ho1⟩
  have z1 := ho1.size
  go_wp2_with fail
  refine (newWriter_any w1 w1.heap.size (Nat.le_refl _)).mono ?_
  rintro e w2 ⟨rfl, hw2, ho2⟩
  generalize hp : w1.heap.size = p at *
  have hO2 : Only [] w w2 := ho1.next ho2 (by simp)
  have l2 := hw2.lt
  clear hp ho1 ho2
  go_wp2_with fail
  have oa := (Only.refl [] w2).alloc (.cells #[.slice none 0 0, .int .i64 0] 38)
  have hP : Pair (w2.alloc (.cells #[.slice none 0 0, .int .i64 0] 38)) p p w2.heap.size w2.heap.size ([], 0) := by
    refine ⟨hw2.only oa (by simp) (by simp), ⟨none, 0, { c0 := ?_, c1 := ?_, f0 := frozen_new _ _ _ _, f1 := frozen_new _ _ _ _, own := World.ownsRow_nil _ _ _ _, ne := (fun a ha => by cases ha), ge := by omega }, rfl⟩, by omega, by omega, by omega, by omega⟩
    · rw [cell_new]; rfl
    · rw [cell_new]; rfl
  have hO3 := hO2.next oa (by simp)
  generalize hy : w2.heap.size = y at *
  clear hy oa hw2
  go_loopw [5] (fun i wr => ∃ j : Nat, ∃ s g h, j ≤ l.length ∧ j ≤ 300 ∧ i = .int .i64 (j : Int) ∧ Pair wr p g y h s ∧ s.1.length ≤ j * 2097152 ∧ Only [] w wr) (fun i _ => 300 - (intOf i).toNat)
  case atStart => exact ⟨0, ([], 0), p, y, by omega, by omega, rfl, hP, by simp, hO3⟩
  case round =>
    obtain ⟨j, s, g, h, hj, hj3, rfl, hP, hsl, hO⟩ := hrel
    by_cases hlt : j < l.length
    · by_cases h300 : j < 300
      · have g1 : ((j : Int) < (l.length : Int)) := by omega
        have g2 : ((j : Int) < 300) := by omega
        have hmem : l[j] ∈ l := List.getElem_mem hlt
        have hb0 := HITS.out _ hmem
        have hs0 := HSM.out _ hmem
        rcases hl.below hO with hh | ⟨off, rfl, hcl⟩
        · rw [hh] at hlt
          simp at hlt
        obtain ⟨e1, e2, e3⟩ := hcl j hlt
        generalize l[j] = it at *
        clear hcl hmem
        have l1 := hP.one.lt
        have l3 := hP.two.lt
        have hA := lput_any hP it (hb0.1.only hO (by simp)) hb0.2.1 (fun hne => by have := hb0.1.lt hne; simp; omega) (by omega) (by omega)
        have HA := hid hA
        have hlen := wStep_len it s
        clear hA hb0
        go_wp2_with fail
        refine HA.out.mono ?_
        rintro e w5 ⟨rfl, g5, h5, hP5, hg5, hh5, ho5⟩
        have hO5 : Only [] w w5 := hO.next ho5 (by simp; omega)
        obtain ⟨t, ht⟩ : ∃ t, t = wStep it s := ⟨_, rfl⟩
        rw [← ht] at hP5 hlen
        have HT := hid ht
        have htl : t.1.length ≤ (j + 1) * 2097152 := by omega
        clear HA ht
        have hq := hP5.two
        obtain ⟨ao, cap, ⟨c0, c1, f0, f1, own, ne, ge⟩, _⟩ := hq
        have hw5 := hP5.one
        go_wp2
        go_quiet ((go_at_call 14; exact wlen_q hw5 _))
        go_wp2_with fail
        refine (wdone_any (hw5.only (drewN_only w5 _) (by simp) (by simp)) (by omega)).mono ?_
        rintro e w6 ⟨bo6, bcap6, rfl, hown6, ho6⟩
        have o56 : Only [] w5 w6 := (drewN_only w5 _).next ho6 (by simp)
        have hO6 : Only [] w w6 := hO5.next o56 (by simp)
        have hP6 : Pair w6 p g5 y h5 t := ⟨hP5.one.only o56 (by simp) (by simp), hP5.two.only o56 (by simp) (by simp), hP5.py, hP5.ph, hP5.gy, hP5.gh⟩
        have c0' : w6.cell? ⟨y, 0, none⟩ = some (.slice ao t.1.length cap) := (o56.cell (World.block_lt_of_cell? w5 _ c0) (by simp)).trans c0
        have c1' : w6.cell? ⟨y, 1, none⟩ = some (.int .i64 t.2) := (o56.cell (World.block_lt_of_cell? w5 _ c1) (by simp)).trans c1
        obtain ⟨hbs6, _⟩ := BS.of_owns hown6
        obtain ⟨hbs7, _⟩ := BS.of_owns (own_only own o56 (by simp))
        have kb := fun n => conv_str (hbs6.only (drewN_only w6 n) (by simp)) bcap6
        have kx := fun n => conv_str (hbs7.only (drewN_only w6 n) (by simp)) cap
        clear c0 c1 own hbs6 hbs7 hown6 hw5 hP5
        have HP6 := hid hP6
        clear hP6 f0 f1 ne ge
        obtain ⟨out, err⟩ := t
        simp only at c0' c1' kb kx htl
        by_cases hE : err = 0
        · subst hE
          have eD : wDone (out, 0) = out := by simp [wDone]
          rw [eD] at kb ⊢
          clear eD
          go_wp2
          go_quiet (fail)
          go_wp2
          exact ⟨⟨j + 1, (out, 0), g5, h5, by omega, by omega, by go_num, ⟨HP6.out.one.only (drewN_only w6 _) (by simp) (by simp), HP6.out.two.only (drewN_only w6 _) (by simp) (by simp), HP6.out.py, HP6.out.ph, HP6.out.gy, HP6.out.gh⟩, htl, hO6.next (drewN_only w6 _) (by simp)⟩, by simp [intOf]; omega⟩
        · have eD : wDone (out, err) = [] := by simp [wDone, hE]
          rw [eD] at kb ⊢
          have b1 : (err == 0) = false := by simpa using hE
          have b2 : (err != 0) = true := by simpa using hE
          clear eD hE
          go_wp2
          go_quiet (fail)
          go_wp2
          exact ⟨⟨j + 1, (out, err), g5, h5, by omega, by omega, by go_num, ⟨HP6.out.one.only (drewN_only w6 _) (by simp) (by simp), HP6.out.two.only (drewN_only w6 _) (by simp) (by simp), HP6.out.py, HP6.out.ph, HP6.out.gy, HP6.out.gh⟩, htl, hO6.next (drewN_only w6 _) (by simp)⟩, by simp [intOf]; omega⟩
      · have g1 : ((j : Int) < (l.length : Int)) := by omega
        have g2 : ¬ ((j : Int) < 300) := by omega
        go_wp2
        go_ret
        exact ⟨rfl, hO.below (Nat.le_refl _) (by simp)⟩
    · have g1 : ¬ ((j : Int) < (l.length : Int)) := by omega
      go_wp2
      go_ret
      exact ⟨rfl, hO.below (Nat.le_refl _) (by simp)⟩

end Go.Proofs.Ytgnbimoebaagfaa
