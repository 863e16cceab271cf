/-
  The contracts of Name and Op, and of the second program's Names, Name and Op. The table of words holds the words.
-/
import Derived.Test.YtemjhlhioeopnaaDoorISize
import Derived.Deep.MidRow
namespace Go.Proofs.YtemjhlhioeopnaaDoor
open Go.RowKit

theorem words_length : wordsI.length = 46 := rfl

/-- The table of words holds the words. -/
structure Laid (w : World) : Prop where
  at_ : ∀ j (h : j < wordsI.length), w.cell? ⟨0, j, none⟩ = some (.string (str wordsI[j]))

theorem Laid.only {w w' : World} (h : Laid w) (ho : Only [] w w') : Laid w' :=
  ⟨fun j hj => by rw [ho.cell (World.block_lt_of_cell? w _ (h.at_ j hj)) (by simp)]; exact h.at_ j hj⟩

/-- The words as cells. -/
def wcs : List Value := wordsI.map fun s => Value.string (str s)

theorem wcs_length : wcs.length = 46 := rfl
theorem wcs_get (j : Nat) (h : j < wordsI.length) : wcs[j]? = some (.string (str wordsI[j])) := by simp [wcs, h]

theorem Laid.range {w : World} (h : Laid w) : w.rangeAt 0 0 wcs := by
  intro j v hj
  have hl : j < wordsI.length := by
    have := (List.getElem?_eq_some_iff.1 hj).1
    simpa [wcs] using this
  rw [wcs_get j hl] at hj
  rw [Nat.zero_add, h.at_ j hl]
  exact hj

theorem wcs_size : (Tryd.prog.info? 58).map (·.size) = some wcs.length := by kernel_rfl

theorem words_index (j : Nat) (h : j < wordsI.length) (w : World) : (Instr.index 58 (.agg wcs.toArray) (.int .i64 (j : Int))).run Tryd.prog w = .ok (.string (str wordsI[j])) w := by
  have h46 : j < 46 := h
  have hg := wcs_get j h
  have hs : (sizeOf 9).run Tryd.prog w = .ok 1 w := by
    have hi : (Tryd.prog.info? 9).map (fun i => i.size) = some 1 := by kernel_rfl
    obtain ⟨i, hi, e⟩ := Option.map_eq_some_iff.1 hi
    simp [sizeOf, typeInfo, hi, e]
  simp [Instr.index, run_underlying Tryd.underlying58, asIntOf, go_sem, hs, part, hg, h46]


theorem nameI_at (j : Nat) (h : j < wordsI.length) : nameI (j : Int) = wordsI[j] := by
  have : j < 46 := h
  unfold nameI
  rw [if_neg (by omega)]
  simp [List.getD, h]

theorem nameI_out {op : Int} (h : op < 0 ∨ 45 < op) : nameI op = [] := by unfold nameI; rw [if_pos h]

set_option maxHeartbeats 400000 in
theorem iname_any {w : World} (hL : Laid w) (op : Int) : Calls Tryd.prog 12 #[.int .i64 op] w fun e w' => e = .returned (.string (str (nameI op))) ∧ w' = w := by
  by_cases h0 : op < 0
  · rw [nameI_out (.inl h0)]
    clear hL
    go_enter Tryd.func12, Tryd.ntmps12
    go_wp2
    go_ret
    exact ⟨rfl, rfl⟩
  by_cases h1 : 46 ≤ op
  · rw [nameI_out (.inr (by omega))]
    clear hL
    go_enter Tryd.func12, Tryd.ntmps12
    go_wp2
    go_ret
    exact ⟨rfl, rfl⟩
  obtain ⟨j, rfl⟩ : ∃ j : Nat, op = (j : Int) := ⟨op.toNat, by omega⟩
  have hj : j < wordsI.length := by rw [words_length]; omega
  rw [nameI_at j hj]
  have hc := hL.at_ j hj
  generalize wordsI[j] = s at *
  clear hL hj
  go_enter Tryd.func12, Tryd.ntmps12
  go_wp2
  go_ret
  exact ⟨rfl, rfl⟩

theorem opL_drop (l : List (List UInt8)) (j i : Nat) (s : List UInt8) (h : j < l.length) : opL (l.drop j) i s = if l[j] = s then ((i : Int), true) else opL (l.drop (j + 1)) (i + 1) s := by
  rw [List.drop_eq_getElem_cons h, opL]

set_option maxHeartbeats 400000 in
set_option maxRecDepth 100000 in
theorem iop_any {w : World} (hL : Laid w) (s : List UInt8) : Calls Tryd.prog 10 #[.string (str s)] w fun e w' => e = .returned (.tuple #[.int .i64 (opI s).1, .bool (opI s).2]) ∧ w' = w := by
  have hload := hid hL.range
  have hsize := hid wcs_size
  have hidx := hid (fun j (h : j < wordsI.length) => words_index j h w)
  have hs := str_toList s
  obtain ⟨x, hx⟩ : ∃ x, x = opI s := ⟨_, rfl⟩
  rw [← hx]
  have hr : Hid (x = opL (wordsI.drop 0) 0 s) := by rw [hx]; rfl
  clear hx hL
  generalize wcs = cs at *
  go_enter Tryd.func10, Tryd.ntmps10
  go_wp2_with (refine wpList_load_mid rfl 58 (.global 0) rfl 0 0 rfl cs _ hload.out Tryd.underlying58 rfl hsize.out ?_)
  go_loopw [7] (fun i wr => ∃ j : Nat, j ≤ 46 ∧ i = .int .i64 (j : Int) ∧ Hid (x = opL (wordsI.drop j) j s) ∧ wr = w) (fun i _ => 46 - (intOf i).toNat)
  case atStart => exact ⟨0, by omega, rfl, hr, rfl⟩
  case round =>
    obtain ⟨j, hj, rfl, hq, rfl⟩ := hrel
    clear hr
    by_cases hlt : j < 46
    · have g2 : ((j : Int) < 46) := by omega
      have hk := hidx.out j hlt
      have hw : j < wordsI.length := hlt
      have hst := str_toList wordsI[j]
      have hd := opL_drop wordsI j j s hw
      rw [← hq.out] at hd
      generalize wordsI[j] = t at *
      clear hq hidx hload hsize
      by_cases he : t = s
      · subst he
        rw [if_pos rfl] at hd
        subst hd
        go_wp2
        go_ret2
        exact ⟨rfl, rfl⟩
      · rw [if_neg he] at hd
        have g3 : (t == s) = false := by simpa using he
        replace hd := hid hd
        clear he
        go_wp2
        exact ⟨⟨j + 1, by omega, by go_num, hd, by first | rfl | trivial⟩, by simp [intOf]; omega⟩
    · have g2 : ¬ ((j : Int) < 46) := by omega
      have : j = 46 := by omega
      subst this
      have e1 : x = (0, false) := by rw [hq.out]; rfl
      subst e1
      clear hq hidx hload hsize
      go_wp2
      go_ret2
      exact ⟨rfl, rfl⟩

/-- The words that the second program makes. -/
def NamesAt (w : World) (b : Nat) : Prop := ∀ j (h : j < wordsI.length), w.cell? ⟨b, j, none⟩ = some (.string (str wordsI[j]))

set_option maxHeartbeats 400000 in
set_option maxRecDepth 100000 in
theorem rnames_any (w : World) : Calls Tryd.prog 28 #[] w fun e w' => e = .returned (.slice (some ⟨w.heap.size, 0, none⟩) 46 46) ∧ NamesAt w' w.heap.size ∧ Only [] w w' := by
  have hN : ∀ cs : Array Value, cs.toList = wcs → NamesAt (w.alloc (.cells cs 9)) w.heap.size := by
    intro cs hcs j hj
    have := wcs_get j hj
    rw [← hcs] at this
    rw [cell_new]
    simpa using this
  replace hN := hid hN
  go_enter Tryd.func28, Tryd.ntmps28
  go_wp2
  go_ret
  exact ⟨rfl, hN.out _ rfl, (Only.refl _ _).alloc _⟩

set_option maxHeartbeats 400000 in
set_option maxRecDepth 100000 in
theorem rname4_any (op : Int) (w : World) : Calls Tryd.prog 13 #[.int .i64 op] w fun e w' => e = .returned (.string (str (nameI op))) ∧ Only [] w w' := by
  have HN := hid (rnames_any w)
  by_cases h0 : op < 0
  · rw [nameI_out (.inl h0)]
    go_enter Tryd.func13, Tryd.ntmps13
    go_wp2_with (go_at_call 28; refine HN.out.mono ?_; rintro e w' ⟨rfl, hn, ho⟩; clear hn)
    go_ret
    exact ⟨rfl, ho⟩
  by_cases h1 : 46 ≤ op
  · rw [nameI_out (.inr (by omega))]
    go_enter Tryd.func13, Tryd.ntmps13
    go_wp2_with (go_at_call 28; refine HN.out.mono ?_; rintro e w' ⟨rfl, hn, ho⟩; clear hn)
    go_ret
    exact ⟨rfl, ho⟩
  obtain ⟨j, rfl⟩ : ∃ j : Nat, op = (j : Int) := ⟨op.toNat, by omega⟩
  have hj : Hid (j < wordsI.length) := by rw [Hid, words_length]; omega
  rw [nameI_at j hj.out]
  go_enter Tryd.func13, Tryd.ntmps13
  go_wp2_with (go_at_call 28; refine HN.out.mono ?_; rintro e w' ⟨rfl, hn, ho⟩; replace hn := hn j hj.out)
  go_ret
  exact ⟨rfl, ho⟩

set_option maxHeartbeats 400000 in
set_option maxRecDepth 100000 in
theorem rop_any (s : List UInt8) (w : World) : Calls Tryd.prog 11 #[.string (str s)] w fun e w' => e = .returned (.tuple #[.int .i64 (opI s).1, .bool (opI s).2]) ∧ Only [] w w' := by
  have HN := hid (rnames_any w)
  have hs := str_toList s
  obtain ⟨x, hx⟩ : ∃ x, x = opI s := ⟨_, rfl⟩
  rw [← hx]
  have hr : Hid (x = opL (wordsI.drop 0) 0 s) := by rw [hx]; rfl
  clear hx
  go_enter Tryd.func11, Tryd.ntmps11
  go_wp2_with (go_at_call 28; refine HN.out.mono ?_; rintro e w' ⟨rfl, hn, ho⟩; replace hn := hid hn)
  go_loopw [5] (fun i wr => ∃ j : Nat, j ≤ 46 ∧ i = .int .i64 (j : Int) ∧ Hid (x = opL (wordsI.drop j) j s) ∧ wr = w') (fun i _ => 46 - (intOf i).toNat)
  case atStart => exact ⟨0, by omega, rfl, hr, rfl⟩
  case round =>
    obtain ⟨j, hj, rfl, hq, rfl⟩ := hrel
    clear hr HN
    by_cases hlt : j < 46
    · have g2 : ((j : Int) < 46) := by omega
      have hk := hn.out j hlt
      have hw : j < wordsI.length := hlt
      have hst := str_toList wordsI[j]
      have hd := opL_drop wordsI j j s hw
      rw [← hq.out] at hd
      generalize wordsI[j] = t at *
      clear hq hn
      by_cases he : t = s
      · subst he
        rw [if_pos rfl] at hd
        subst hd
        go_wp2
        go_ret2
        exact ⟨rfl, ho⟩
      · rw [if_neg he] at hd
        have g3 : (t == s) = false := by simpa using he
        replace hd := hid hd
        clear he
        go_wp2
        exact ⟨⟨j + 1, by omega, by go_num, hd, by first | rfl | trivial⟩, by simp [intOf]; omega⟩
    · have g2 : ¬ ((j : Int) < 46) := by omega
      have : j = 46 := by omega
      subst this
      have e1 : x = (0, false) := by rw [hq.out]; rfl
      subst e1
      clear hq hn
      go_wp2
      go_ret2
      exact ⟨rfl, ho⟩

end Go.Proofs.YtemjhlhioeopnaaDoor
