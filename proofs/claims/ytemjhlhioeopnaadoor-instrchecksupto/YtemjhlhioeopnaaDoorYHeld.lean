/-
  The contracts of the second program's held, Text, Number, Class. Texts have at most 1048576 bytes.
-/
import Derived.Test.YtemjhlhioeopnaaDoorYWrong
import Derived.Test.YtemjhlhioeopnaaDoorPReads
namespace Go.Proofs.YtemjhlhioeopnaaDoor
open Go.RowKit

theorem right_no {l : List En} {i kind : Int} (h : (rightE l i kind).2 ≠ 0) : rightE l i kind = (en0, (rightE l i kind).2) := by
  unfold rightE at h ⊢
  split
  · rename_i e he
    rw [he] at h
    simp only at h ⊢
    by_cases hk : e.1 = kind
    · by_cases hw : wrongE l e = 0
      · simp [hk, hw] at h
      · simp [hk, hw]
    · simp [hk]
  · rfl

theorem held_has {l : List En} {i kind : Int} (h : hasE l i kind = false) : rightE l i kind = (en0, 16) := by
  unfold rightE
  unfold hasE at h
  cases he : enAt l i with
  | none => rfl
  | some e =>
    rw [he] at h
    simp at h
    simp [h]

theorem held_wrong {l : List En} {j : Nat} {kind : Int} {e : En} (he : enAt l (j : Int) = some e) (hk : e.1 = kind) : rightE l (j : Int) kind = if wrongE l e = 0 then (e, 0) else (en0, wrongE l e) := by
  unfold rightE
  rw [he]
  simp only [hk, if_true]

set_option maxHeartbeats 400000 in
set_option maxRecDepth 100000 in
theorem rheld_low {w : World} {ao : Option Addr} {l : List En} {d cap : Nat} (hE : ES w ao l d) (hl : l.length ≤ 9223372036854775807) (hA : ∀ e ∈ l, e.2.1.length ≤ 1048576) (i kind : Int) (h5 : kind < 5) :
    Calls Tryd.prog 53 #[.slice ao l.length cap, .int .i64 i, .int .i64 kind] w fun r w' => r = .returned (.int .i64 (rightE l i kind).2) ∧ Only [] w w' := by
  have HH := ris_any (cap := cap) hE hl i kind
  have g5 : ¬ (5 ≤ kind) := by omega
  cases h : hasE l i kind with
  | false =>
    rw [held_has h]
    rw [h] at HH
    clear h hE
    replace HH := hid HH
    go_enter Tryd.func53, Tryd.ntmps53
    go_wp2_with (go_at_call 60; refine HH.out.mono ?_; rintro e w' ⟨rfl, rfl⟩)
    go_ret
    exact ⟨rfl, Only.refl _ _⟩
  | true =>
    obtain ⟨e, he, hk⟩ := hasE_kind h
    have hR : (rightE l i kind).2 = wrongE l e := by
      obtain ⟨j, hj, rfl, rfl⟩ := enAt_some he
      rw [held_wrong he hk]
      split
      · rename_i h0
        exact h0.symm
      · rfl
    rw [hR]
    rw [h] at HH
    obtain ⟨j, hj, rfl, rfl⟩ := enAt_some he
    have HW := rwrong_any (cap := cap) hE hl hA j hj
    clear h hE hR hk he
    generalize wrongE l l[j] = c at *
    replace HH := hid HH
    replace HW := hid HW
    by_cases hc : c = 0
    · subst hc
      go_enter Tryd.func53, Tryd.ntmps53
      go_wp2_with (first | (go_at_call 60; refine HH.out.mono ?_; rintro e w' ⟨rfl, rfl⟩) | (go_at_call 61; refine HW.out.mono ?_; rintro e w1 ⟨rfl, ho1⟩))
      go_ret
      exact ⟨rfl, ho1⟩
    · have g3 : (c == 0) = false := by simpa using hc
      go_enter Tryd.func53, Tryd.ntmps53
      go_wp2_with (first | (go_at_call 60; refine HH.out.mono ?_; rintro e w' ⟨rfl, rfl⟩) | (go_at_call 61; refine HW.out.mono ?_; rintro e w1 ⟨rfl, ho1⟩))
      go_ret
      exact ⟨rfl, ho1⟩

/-- The numbers and texts that a field's or a method's entry uses. -/
structure MemAt (l : List En) (j : Nat) (kind : Int) (ja jb jc : Nat) (sb sc : List UInt8) : Prop where
  lj : j < l.length
  la : ja < l.length
  lb : jb < l.length
  lc : jc < l.length
  ea : enAt l (j : Int) = some (kind, [], 0, (ja : Int), (jb : Int), (jc : Int))
  ka : l[ja].1 = 3
  tb : l[jb].2.1 = sb
  tc : l[jc].2.1 = sc
  xb : textAt l (jb : Int) = some sb
  xc : textAt l (jc : Int) = some sc

theorem member_at {l : List En} {j : Nat} {kind : Int} (hkd : kind = 5 ∨ kind = 6) {e : En} (he : enAt l (j : Int) = some e) (hk : e.1 = kind) (hw : wrongE l e = 0) : ∃ ja jb jc sb sc, MemAt l j kind ja jb jc sb sc ∧ e = (kind, [], 0, (ja : Int), (jb : Int), (jc : Int)) := by
  have hx : hasE l e.2.2.2.1 3 = true ∧ (∃ s, textAt l e.2.2.2.2.1 = some s) ∧ ∃ s, textAt l e.2.2.2.2.2 = some s := by
    rcases hkd with rfl | rfl
    · obtain ⟨h1, ⟨s, hs, _⟩, t, ht, _⟩ := wrong_field hw hk
      exact ⟨h1, ⟨s, hs⟩, t, ht⟩
    · obtain ⟨h1, ⟨s, hs, _⟩, t, ht, _⟩ := wrong_method hw hk
      exact ⟨h1, ⟨s, hs⟩, t, ht⟩
  obtain ⟨_, _, hu⟩ := wrong_used hw
  obtain ⟨hc, ⟨sb, hb⟩, sc, hcc⟩ := hx
  obtain ⟨ea, hea, hka⟩ := hasE_kind hc
  obtain ⟨eb, heb, _, htb⟩ := textAt_some hb
  obtain ⟨ec, hec, _, htc⟩ := textAt_some hcc
  obtain ⟨ja, hja, qa, ra⟩ := enAt_some hea
  obtain ⟨jb, hjb, qb, rb⟩ := enAt_some heb
  obtain ⟨jc, hjc, qc, rc⟩ := enAt_some hec
  have hee : e = (kind, [], 0, (ja : Int), (jb : Int), (jc : Int)) := by
    obtain ⟨k, t, n, a, b, c⟩ := e
    simp only at hk qa qb qc hu
    subst hk qa qb qc
    rcases hkd with rfl | rfl
    · simpa [usedE] using hu
    · simpa [usedE] using hu
  obtain ⟨j', hj', q, _⟩ := enAt_some he
  have : j' = j := by omega
  subst this
  refine ⟨ja, jb, jc, sb, sc, ⟨hj', hja, hjb, hjc, by rw [he, hee], by rw [ra]; exact hka, by rw [rb]; exact htb, by rw [rc]; exact htc, by rw [← qb]; exact hb, by rw [← qc]; exact hcc⟩, hee⟩

theorem member_val {l : List En} {j : Nat} {kind : Int} {ja jb jc : Nat} {sb sc : List UInt8} (h : MemAt l j kind ja jb jc sb sc) (hw : wrongE l (kind, [], 0, (ja : Int), (jb : Int), (jc : Int)) = 0) :
    memberR l (j : Int) kind = if wrongE l (l[ja]'h.la) = 0 then (((classR l (ja : Int)).1, sb, sc), 0) else (([], [], []), wrongE l (l[ja]'h.la)) := by
  have hr : rightE l (j : Int) kind = ((kind, [], 0, (ja : Int), (jb : Int), (jc : Int)), 0) := by
    rw [held_wrong h.ea rfl, if_pos hw]
  have hcl : (classR l (ja : Int)).2 = wrongE l (l[ja]'h.la) := by
    unfold classR
    rw [held_wrong (enAt_nat ja h.la) h.ka]
    split
    · rename_i h0
      rw [h0]
      rfl
    · rfl
  unfold memberR
  rw [hr]
  simp only [if_true, textAt_textOf h.xb, textAt_textOf h.xc, hcl]

set_option maxHeartbeats 400000 in
set_option maxRecDepth 100000 in
theorem rheld_high {w : World} {ao : Option Addr} {l : List En} {d cap : Nat} (hE : ES w ao l d) (hl : l.length ≤ 9223372036854775807) (hA : ∀ e ∈ l, e.2.1.length ≤ 1048576) (i kind : Int) (hkd : kind = 5 ∨ kind = 6) :
    Calls Tryd.prog 53 #[.slice ao l.length cap, .int .i64 i, .int .i64 kind] w fun r w' => r = .returned (.int .i64 (memberR l i kind).2) ∧ Only [] w w' := by
  have HH := ris_any (cap := cap) hE hl i kind
  have g5 : 5 ≤ kind := by omega
  cases h : hasE l i kind with
  | false =>
    have e1 : (memberR l i kind).2 = 16 := by
      unfold memberR
      rw [held_has h]
      simp
    rw [e1]
    rw [h] at HH
    clear h hE e1
    replace HH := hid HH
    go_enter Tryd.func53, Tryd.ntmps53
    go_wp2_with (go_at_call 60; refine HH.out.mono ?_; rintro e w' ⟨rfl, rfl⟩)
    go_ret
    exact ⟨rfl, Only.refl _ _⟩
  | true =>
    obtain ⟨e, he, hk⟩ := hasE_kind h
    obtain ⟨j, hj, rfl, hje⟩ := enAt_some he
    have HW := rwrong_any (cap := cap) hE hl hA j hj
    rw [hje] at HW
    rw [h] at HH
    clear h
    by_cases hc : wrongE l e = 0
    · obtain ⟨ja, jb, jc, sb, sc, hM, rfl⟩ := member_at hkd he hk hc
      have hv := member_val hM hc
      have e1 : (memberR l (j : Int) kind).2 = wrongE l (l[ja]'hM.la) := by
        rw [hv]
        split
        · rename_i h0
          exact h0.symm
        · rfl
      rw [e1]
      rw [hc] at HW
      have hJ := fun W (hW : Only [] w W) => (hE.only hW (by simp)).at hj
      rw [hje] at hJ
      have HW2 := fun W (hW : Only [] w W) => rwrong_any (cap := cap) (hE.only hW (by simp)) hl hA ja hM.la
      generalize wrongE l (l[ja]'hM.la) = c2 at *
      have ga : ((ja : Int) < (l.length : Int)) := by have := hM.la; omega
      have gj : ((j : Int) < (l.length : Int)) := by omega
      clear hE he hk hc hv e1 hM hje hkd
      replace HH := hid HH
      replace HW := hid HW
      replace HW2 := hid HW2
      replace hJ := hid hJ
      go_enter Tryd.func53, Tryd.ntmps53
      go_wp2_with (first | (go_at_call 60; refine HH.out.mono ?_; rintro e w' ⟨rfl, rfl⟩) | fail)
      refine HW.out.mono ?_
      rintro e w1 ⟨rfl, ho1⟩
      obtain ⟨off, rfl, y0, y1, y2, y3, y4, y5⟩ := hJ.out w1 ho1
      simp only at y3
      replace HW2 := hid (HW2.out w1 ho1)
      go_wp2_with fail
      refine HW2.out.mono ?_
      rintro e w2 ⟨rfl, ho2⟩
      go_wp2
      go_ret
      exact ⟨rfl, ho1.next ho2 (by simp)⟩
    · have e1 : (memberR l (j : Int) kind).2 = wrongE l e := by
        unfold memberR
        rw [held_wrong he hk, if_neg hc]
        simp [hc]
      rw [e1]
      clear hE he hk e1 hje hkd
      generalize wrongE l e = c at *
      have g3 : (c == 0) = false := by simpa using hc
      replace HH := hid HH
      replace HW := hid HW
      go_enter Tryd.func53, Tryd.ntmps53
      go_wp2_with (first | (go_at_call 60; refine HH.out.mono ?_; rintro e w' ⟨rfl, rfl⟩) | (go_at_call 61; refine HW.out.mono ?_; rintro e w1 ⟨rfl, ho1⟩))
      go_ret
      exact ⟨rfl, ho1⟩

end Go.Proofs.YtemjhlhioeopnaaDoor
