/-
  The contracts of the second builder's word, class, ended, New. What is begun with has less than 10000 entries.
-/
import Derived.Test.YtcdjddakdlflmaaYPut
import Derived.Test.YtcdjddakdlflmaaYWrong
import Derived.Test.YtcdjddakdlflmaaPBuild
namespace Go.Proofs.Ytcdjddakdlflmaa
open Go.RowKit

set_option maxRecDepth 100000 in
theorem rword_any {w : World} {b : Nat} {R : Option Nat} {l : List En} (hB : Bd w b R l) (hl : l.length < 1000000) {ao : Option Addr} {cap : Nat} (hc : w.cell? ⟨b, 0, none⟩ = some (.slice ao l.length cap)) (s : List UInt8) :
    Calls Try.prog 71 #[.pointer (some ⟨b, 0, none⟩), .string (str s)] w fun r w' => r = .returned (.int .i64 (putE l (txE s)).2) ∧ ∃ R', Rb w w' b ao cap l R' (putE l (txE s)).1 := by
  have HP := rput_any hB hl hc (txE s)
  generalize putE l (txE s) = X at *
  simp only [enV, txE] at HP
  replace HP := hid HP
  clear hB hc
  go_enter Try.func71, Try.ntmps71
  go_wp2_with (go_at_call 73; refine HP.out.mono ?_; rintro e w1 ⟨rfl, R1, hb1⟩)
  go_ret
  exact ⟨rfl, R1, hb1⟩

set_option maxRecDepth 100000 in
theorem rclass_any {w : World} {b : Nat} {R : Option Nat} {l : List En} (hB : Bd w b R l) (hl : l.length < 999990) {ao : Option Addr} {cap : Nat} (hc : w.cell? ⟨b, 0, none⟩ = some (.slice ao l.length cap)) (s : List UInt8) :
    Calls Try.prog 75 #[.pointer (some ⟨b, 0, none⟩), .string (str s)] w fun r w' => r = .returned (.int .i64 (pClass l s).2) ∧ ∃ R', Rb w w' b ao cap l R' (pClass l s).1 := by
  have HT := rword_any hB (by omega) hc s
  have hlen := putE_len l (txE s)
  obtain ⟨_, hR⟩ := Rb.refl hB hc
  unfold pClass
  generalize putE l (txE s) = X at *
  obtain ⟨xl, xi⟩ := X
  simp only at *
  replace HT := hid HT
  subst hR
  replace hB := hid hB
  clear hc
  go_enter Try.func75, Try.ntmps75
  go_wp2_with fail
  refine HT.out.mono ?_
  rintro e w1 ⟨rfl, R1, hb1⟩
  obtain ⟨ao1, cap1, hc1, hR1⟩ := hb1.bt.bd.slice
  have HP := rput_any hb1.bt.bd (by omega) hc1 (3, [], 0, xi, 0, 0)
  simp only [enV] at HP
  replace HP := hid HP
  replace hb1 := hid hb1
  replace hc1 := hid hc1
  replace hR1 := hid hR1
  go_wp2_with (go_at_call 73; refine HP.out.mono ?_; rintro e w2 ⟨rfl, R2, hb2⟩)
  go_ret
  exact ⟨rfl, R2, hb1.out.trans hB.out hc1.out hR1.out hb2⟩

theorem rended_any {w0 w : World} {b : Nat} {ao : Option Addr} {cap : Nat} {l l1 : List En} {R1 : Option Nat} (hB : Bd w0 b (ao.map (·.block)) l) (h : Rb w0 w b ao cap l R1 l1) (hl : l1.length < 1000000) (n : Int) :
    Calls Try.prog 70 #[.pointer (some ⟨b, 0, none⟩), .slice ao l.length cap, .int .i64 n] w fun r w' => r = .returned (.tuple #[.int .i64 (fitE l.length (l1, n)).2.1, .int .i64 (fitE l.length (l1, n)).2.2]) ∧ ∃ R', Bt w0 w' b (ao.map (·.block)) R' (fitE l.length (l1, n)).1 := by
  have hx : ∃ x, x = fitE l.length (l1, n) := ⟨_, rfl⟩
  obtain ⟨x, hx⟩ := hx
  rw [← hx]
  obtain ⟨ao1, cap1, hc1, hR1⟩ := h.bt.bd.slice
  have hf := h.bt.bd.f
  by_cases h4 : 4096 < l1.length
  · have ex : x = (l, 0, 4) := by
      rw [hx]
      obtain ⟨r, hr⟩ := h.pre
      simp only [fitE, h4, if_true]
      rw [hr, List.take_left]
    subst ex
    have g1 : (4096 < (l1.length : Int)) := by omega
    have hfin : Hid (∃ R', Bt w0 (w.setCell ⟨b, 0, none⟩ (.slice ao l.length cap)) b (ao.map (·.block)) R' l) := by
      refine ⟨ao.map (·.block), ⟨⟨ao, cap, cell_setCell_same _ _ hc1, ?_, rfl⟩, by rw [frozen_setCell]; exact hf, hB.ne⟩, h.bt.only.setCell (.inl (by simp)) _, .inl rfl⟩
      refine owe_only (S := [b]) h.old ((Only.refl _ _).setCell (.inl (by simp)) _) ?_
      intro k hk
      have hne := hB.ne
      cases ao with
      | none => cases hk
      | some a =>
        simp [Value.ownBlock] at hk
        subst hk
        simp at hne
        simpa using hne
    clear hx hB h hR1
    go_enter Try.func70, Try.ntmps70
    go_wp2
    go_ret2
    exact ⟨rfl, hfin.out⟩
  · have ex : x = (l1, n, 0) := by rw [hx]; simp [fitE, h4]
    subst ex
    have g1 : ¬ (4096 < (l1.length : Int)) := by omega
    clear hx hB hR1
    replace h := hid h
    go_enter Try.func70, Try.ntmps70
    go_wp2
    go_ret2
    exact ⟨rfl, R1, h.out.bt⟩

set_option maxHeartbeats 400000 in
set_option maxRecDepth 100000 in
theorem rnew_any {w : World} {ao : Option Addr} {l : List En} {d cap : Nat} (hE : ES w ao l d) (hn : ao = none → cap = 0) (hl : l.length ≤ 9223372036854775807) (hA : ∀ e ∈ l, e.2.1.length ≤ 1048576) :
    Calls Try.prog 15 #[.slice ao l.length cap] w fun r w' => NewPost l w r w' := by
  have o0 := (Only.refl [] w).alloc (.cells #[.slice none 0 0] 49)
  have HC := rcheckE_any (cap := cap) (hE.only o0 (by simp)) hl hA
  have hne : newE l = if (checkE l).2 = 0 then l else [] := rfl
  have hsm : (checkE l).2 = 0 → l.length ≤ 4096 := by
    intro h
    unfold checkE at h
    split at h
    · cases h
    · omega
  have B0 := bd_new w none 0 [] 49 (owe_nil _ _)
  simp only [List.length_nil, Option.map_none] at B0
  generalize checkE l = X at *
  obtain ⟨xi, xe⟩ := X
  simp only at *
  replace HC := hid HC
  replace hne := hid hne
  replace B0 := hid B0
  by_cases hx : xe = 0
  · subst hx
    have hs := hsm rfl
    clear hsm
    have hEl := hid (fun W (hW : Only [] w W) => hE.only hW (by simp))
    simp only [if_true] at hne
    clear hE hA
    go_enter Try.func15, Try.ntmps15
    go_wp2_with fail
    refine HC.out.mono ?_
    rintro e w1 ⟨rfl, ho1⟩
    have o1 := o0.next ho1 (by simp)
    have B1 := B0.out.only ho1 (by simp) (by simp)
    obtain ⟨ao1, cap1, hc1, how1, hr1⟩ := B1.ex
    have hcc : w1.cell? ⟨w.heap.size, 0, none⟩ = some (.slice none 0 0) := by rw [ho1.cell (by simp) (by simp), cell_new]; rfl
    rw [hcc] at hc1
    simp at hc1
    obtain ⟨rfl, rfl⟩ := hc1
    have hff := B1.f
    have hT := hid (hEl.out _ o1)
    have hom := hid how1
    have hlt := B1.lt
    have hPE := hid (fun ao' cap' w' => put_end (w' := w') (l' := l) (ao' := ao') (cap' := cap') B1 hr1 hcc (Only.refl [] w1))
    have hPC := hid (fun w' => put_cell (w' := w') B1 hr1 hcc (Only.refl [] w1))
    replace o1 := hid o1
    clear how1 hr1
    replace B1 := hid B1
    go_wp2_with (at_builtin; refine wpList_append_entries rfl (.tmp 19) (.tmp 20) Try.underlying22 rfl rfl rfl hom.out hT.out hn (by simp; omega) (Nat.zero_le _) ?_)
    intro ao' cap' w2 hown hgrow hao hold
    obtain ⟨d0, d1, d2⟩ := hPC.out w2 hgrow
    replace hPE := hid (hPE.out ao' cap' w2 hgrow hown (fun a ha => .inr (hao a ha)) (fun _ => trivial))
    clear hown hgrow hao hold
    go_wp2
    go_ret
    obtain ⟨R', hbt⟩ := hPE.out
    refine ⟨w.heap.size, R', rfl, Nat.le_refl _, ?_, ?_, ?_⟩
    · rw [hne.out]
      exact hbt.bd
    · intro g hg
      have := o1.out.size
      rcases hbt.row with e | ⟨g', e, hg'⟩
      · rw [e] at hg
        cases hg
      · rw [e] at hg
        simp at hg
        omega
    · refine o1.out.next hbt.only ?_
      intro x hx
      simp at hx
      subst hx
      exact Nat.le_refl _
  · have g3 : (xe == 0) = false := by simpa using hx
    simp only [hx, if_false] at hne
    clear hsm hE hA
    go_enter Try.func15, Try.ntmps15
    go_wp2_with fail
    refine HC.out.mono ?_
    rintro e w1 ⟨rfl, ho1⟩
    have o1 := o0.next ho1 (by simp)
    have B1 := hid (B0.out.only ho1 (by simp) (by simp))
    go_wp2
    go_ret
    refine ⟨w.heap.size, none, rfl, Nat.le_refl _, ?_, by simp, o1⟩
    rw [hne.out]
    exact B1.out

end Go.Proofs.Ytcdjddakdlflmaa
