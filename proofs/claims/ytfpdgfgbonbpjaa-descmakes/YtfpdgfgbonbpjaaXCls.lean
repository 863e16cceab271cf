/-
  The contract of the second program's Classes. There are at most a million types.
-/
import Derived.Test.YtfpdgfgbonbpjaaDCls
namespace Go.Proofs.Ytfpdgfgbonbpjaa
open Go.RowKit Go.Maps

/-- Names that are read. -/
def SS (w : World) (vo : Option Addr) (l : List (List UInt8)) : Prop := l = [] ∨ ∃ g, vo = some ⟨g, 0, none⟩ ∧ ∀ j (h : j < l.length), w.cell? ⟨g, j, none⟩ = some (.string (str l[j]))

theorem SS.only {w w' : World} {vo : Option Addr} {l : List (List UInt8)} (h : SS w vo l) (ho : Only [] w w') : SS w' vo l := by
  rcases h with h | ⟨g, h1, h2⟩
  · exact .inl h
  · exact .inr ⟨g, h1, fun j hj => by rw [ho.cell (World.block_lt_of_cell? w _ (h2 j hj)) (by simp)]; exact h2 j hj⟩

theorem SS.of_own {w : World} {B : Nat} {vo : Option Addr} {vc : Nat} {l : List (List UInt8)} (h : OwnS w B (.slice vo l.length vc) l) : SS w vo l := by
  rcases h.2 with ⟨h1, h2⟩ | ⟨g, cap', cur, h1, _⟩
  · exact .inl (List.eq_nil_of_length_eq_zero h2)
  · simp at h1
    obtain ⟨rfl, rfl⟩ := h1
    refine .inr ⟨g, rfl, fun j hj => ?_⟩
    rw [h.cellAt j (by omega)]
    simp [scs, hj]

theorem ownS_slice {w : World} {B : Nat} {v : Value} {l : List (List UInt8)} (h : OwnS w B v l) : ∃ vo vc, v = .slice vo l.length vc := by
  rcases h.2 with ⟨h1, h2⟩ | ⟨g, cap', _, h1, _⟩
  · exact ⟨none, 0, by rw [h1, h2]⟩
  · exact ⟨_, _, h1⟩

theorem seen_step (nm : List UInt8) (acc : List (List UInt8)) (q : Nat) (h : q < acc.length) : decide (nm = [] ∨ nm ∈ acc.take (q + 1)) = (decide (nm = [] ∨ nm ∈ acc.take q) || (acc[q] == nm)) := by
  have hm : nm ∈ acc.take (q + 1) ↔ nm ∈ acc.take q ∨ acc[q] = nm := by
    rw [List.take_succ_eq_append_getElem h, List.mem_append, List.mem_singleton]
    exact or_congr_right eq_comm
  rw [Bool.eq_iff_iff]
  simp only [decide_eq_true_eq, Bool.or_eq_true, beq_iff_eq, hm]
  exact or_assoc.symm

set_option maxHeartbeats 400000 in
set_option maxRecDepth 100000 in
theorem rclasses_any {w : World} {ao : Option Addr} {l : List Ty} {d cap : Nat} (hT : TS w ao l d) (hl : l.length ≤ 1000000) :
    Calls Try.prog 37 #[.slice ao l.length cap] w fun e w' => ∃ v, e = .returned v ∧ OwnS w' w.heap.size v (clTo l l.length) ∧ Only [] w w' := by
  obtain ⟨i0, hi, hz0, hz1, hz2⟩ := info_parts infoS
  go_enter Try.func37, Try.ntmps37
  go_wp2
  go_loopw [3, 4] (fun v i wr => ∃ (k : Nat) (vo : Option Addr) (vc : Nat), k ≤ l.length ∧ i = .int .i64 (k : Int) ∧ v = .slice vo (clTo l k).length vc ∧ OwnS wr w.heap.size (.slice vo (clTo l k).length vc) (clTo l k) ∧ Only [] w wr) (fun _ i _ => l.length - (intOf i).toNat)
  case atStart => exact ⟨0, none, 0, by omega, rfl, rfl, World.ownsRow_nil _ _ _ _, Only.refl _ _⟩
  case round =>
    obtain ⟨k, vo, vc, hk, rfl, rfl, hrow, hor⟩ := hrel
    by_cases hlt : k < l.length
    · have g2 : ((k : Int) < (l.length : Int)) := by omega
      have hne : l ≠ [] := by intro e; simp [e] at hlt
      obtain ⟨off, rfl⟩ : ∃ off, ao = some ⟨d, off, none⟩ := by
        rcases hT with h | ⟨off, h, _⟩
        · exact absurd h hne
        · exact ⟨off, h⟩
      have hcell : ∀ W, Only [] w W → W.cell? ⟨d, off + k * 2 + 1, none⟩ = some (.string (str l[k].2)) := by
        intro W hW
        rcases hT.only hW (by simp) with h | ⟨off', h, hc⟩
        · exact absurd h hne
        · simp at h
          subst h
          exact (hc k hlt).2
      have hstep := hid (clTo_succ l k hlt)
      have hcl := clTo_le l k
      generalize l[k].2 = nm at *
      generalize clTo l k = acc at *
      have y1 := hcell wr hor
      have htn := str_toList nm
      replace hrow := hid hrow
      replace hcell := hid hcell
      obtain ⟨b0, hb0⟩ : ∃ b, b = decide (nm = [] ∨ nm ∈ acc.take 0) := ⟨_, rfl⟩
      have hb1 : nm.isEmpty = b0 := by
        rw [hb0]
        cases nm <;> simp
      replace hb0 := hid hb0
      go_wp2
      go_loopw [5, 6] (fun b i wx => ∃ q : Nat, q ≤ acc.length ∧ i = .int .i64 (q : Int) ∧ b = .bool (decide (nm = [] ∨ nm ∈ acc.take q)) ∧ OwnS wx w.heap.size (.slice vo acc.length vc) acc ∧ Only [] w wx) (fun _ i _ => acc.length - (intOf i).toNat)
      case atStart => exact ⟨0, by omega, rfl, by rw [← hb0.out], hrow.out, hor⟩
      case round =>
        clear hrow hor y1
        obtain ⟨q, hq, rfl, rfl, hrow, hor⟩ := hrel
        have y1 := hcell.out _ hor
        have hSS := SS.of_own hrow
        replace hrow := hid hrow
        by_cases hql : q < acc.length
        · have g4 : ((q : Int) < (acc.length : Int)) := by omega
          have hne2 : acc ≠ [] := by intro e; simp [e] at hql
          rcases hSS with h | ⟨g, rfl, hcells⟩
          · exact absurd h hne2
          have yq := hcells q hql
          have hss := seen_step nm acc q hql
          clear hcells
          have tq := str_toList acc[q]
          generalize acc[q] = nq at *
          generalize hB : decide (nm = [] ∨ nm ∈ acc.take q) = B at *
          generalize hB2 : decide (nm = [] ∨ nm ∈ acc.take (q + 1)) = B2 at *
          replace hB2 := hid hB2
          clear hB
          cases B with
          | true =>
            rw [Bool.true_or] at hss
            subst hss
            go_wp2_with fail
            go_region
            go_wp2
            exact ⟨⟨q + 1, by omega, by go_num, by rw [hB2.out], hrow.out, hor.drew⟩, by simp [intOf]; omega⟩
          | false =>
            rw [Bool.false_or] at hss
            subst hss
            go_wp2_with fail
            go_region
            go_wp2
            exact ⟨⟨q + 1, by omega, by go_num, by rw [hB2.out], hrow.out, hor.drew⟩, by simp [intOf]; omega⟩
        · have g4 : ¬ ((q : Int) < (acc.length : Int)) := by omega
          obtain rfl : q = acc.length := by omega
          rw [List.take_of_length_le (Nat.le_refl _)]
          clear hSS hb1 hb0
          by_cases hin : nm = [] ∨ nm ∈ acc
          · have e1 : Hid (clTo l (k + 1) = acc) := by
              unfold Hid
              rw [hstep.out]
              simp only [clAdd]
              rw [if_pos hin]
            rw [decide_eq_true hin]
            clear hin
            go_wp2
            refine ⟨⟨k + 1, vo, vc, by omega, by go_num, by rw [e1.out], ?_, hor⟩, by simp [intOf]; omega⟩
            rw [e1.out]
            exact hrow.out
          · have e1 : Hid (clTo l (k + 1) = acc ++ [nm]) := by
              unfold Hid
              rw [hstep.out]
              simp only [clAdd]
              rw [if_neg hin]
            rw [decide_eq_false hin]
            clear hin
            have hs1 := hor.size
            have hrowA := hid (hrow.out.alloc (.cells #[.string (str nm)] 9))
            go_wp2_with (at_builtin; refine wpList_append_own _ rfl (.tmp 40) (.tmp 46) 56 rfl w.heap.size 9 i0 (.string ⟨#[]⟩) 1 16 Try.underlying56 hi hz0 hz1 hz2 rfl (by decide) (.slice vo acc.length vc) acc.length (scs acc) rfl hrowA.out ⟨_, 0, none⟩ 1 1 [.string (str nm)] rfl rfl (cell_one_new _ _ _) (by simp [Value.oneCell']) (by unfold maxLen; omega) (by omega) (by simp; omega) ?_; intro v2 w2 hown2 hgrow2 hnil2)
            have q2 := Only.of_grown hgrow2
            have hwit : OwnS w2 w.heap.size v2 (acc ++ [nm]) := by
              unfold OwnS
              rw [List.length_append, show scs (acc ++ [nm]) = scs acc ++ [.string (str nm)] by simp [scs]]
              exact hown2
            obtain ⟨v2o, v2c, rfl⟩ := ownS_slice hwit
            have oF : Only [] w w2 := by
              refine (hor.alloc _).next q2 fun x hx => ?_
              rcases hv : Value.ownBlock (.slice vo acc.length vc) with _ | y
              · rw [hv] at hx; simp at hx
              · rw [hv] at hx
                simp at hx
                subst hx
                exact (hrow.out.lt x hv).1
            refine ⟨⟨k + 1, v2o, v2c, by omega, by go_num, by rw [e1.out], ?_, oF⟩, by simp [intOf]; omega⟩
            rw [e1.out]
            exact hwit
    · have g2 : ¬ ((k : Int) < (l.length : Int)) := by omega
      obtain rfl : k = l.length := by omega
      replace hrow := hid hrow
      go_wp2
      go_ret
      exact ⟨_, rfl, hrow.out, hor⟩

end Go.Proofs.Ytfpdgfgbonbpjaa
