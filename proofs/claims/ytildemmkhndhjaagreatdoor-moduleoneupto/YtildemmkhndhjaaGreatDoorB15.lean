/-
  What the proof leans on, part 15 of 28. The conditions stand in each theorem.
-/
import Derived.Test.YtildemmkhndhjaaGreatDoorB14
import Derived.Test.YtildemmkhndhjaaGreatDoorB06
import Derived.Test.YtildemmkhndhjaaGreatDoorB08
namespace Go.Proofs.YtildemmkhndhjaaGreatDoor
open Go.RowKit

theorem right_no {l : List En} {i kind : Int} (h : (rightE l i kind).2 ≠ 0) : rightE l i kind = (en0, (rightE l i kind).2) := by
 unfold rightE at h ⊢
 split
 ·rename_i e he
  rw [he] at h
  simp only at h ⊢
  by_cases hk : e.1 = kind
  ·by_cases hw : wrongE l e = 0
   ·simp [hk, hw] at h
   ·simp [hk, hw]
  ·simp [hk]
 ·rfl

theorem held_has {l : List En} {i kind : Int} (h : hasE l i kind = false) : rightE l i kind = (en0, 16) := by
 unfold rightE
 unfold hasE at h
 cases he : enAt l i with
 | none => rfl
 | some e =>
  rw [he] at h
  simp at h
  simp [h]

theorem held_wrong {l : List En} {j : Nat} {kind : Int} {e : En} (he : enAt l (j : Int) = some e) (hk : e.1 = kind) : rightE l (j : Int) kind = if wrongE l e = 0 then (e, 0) else (en0, wrongE l e) := by
 unfold rightE
 rw [he]
 simp only [hk, if_true]

set_option maxHeartbeats 400000 in
set_option maxRecDepth 100000 in
theorem rheld_low {w : World} {ao : Option Addr} {l : List En} {d cap : Nat} (hE : ES w ao l d) (hl : l.length ≤ 9223372036854775807) (hA : ∀ e ∈ l, e.2.1.length ≤ 1048576) (i kind : Int) (h5 : kind < 5) :
  Calls Tryz.prog 236 #[.slice ao l.length cap, .int .i64 i, .int .i64 kind] w fun r w' => r = .returned (.int .i64 (rightE l i kind).2) ∧ Only [] w w' := by
 have HH := ris_any (cap := cap) hE hl i kind
 have g5 : ¬ (5 ≤ kind) := by omega
 cases h : hasE l i kind with
 | false =>
  rw [held_has h]
  rw [h] at HH
  clear h hE
  replace HH := hid HH
  go_enter Tryz.func236, Tryz.ntmps236
  go_wp2_with (go_at_call 181; refine HH.out.mono ?_; rintro e w' ⟨rfl, rfl⟩)
  go_ret
  exact ⟨rfl, Only.refl _ _⟩
 | true =>
  obtain ⟨e, he, hk⟩ := hasE_kind h
  have hR : (rightE l i kind).2 = wrongE l e := by
   obtain ⟨j, hj, rfl, rfl⟩ := enAt_some he
   rw [held_wrong he hk]
   split
   ·rename_i h0
    exact h0.symm
   ·rfl
  rw [hR]
  rw [h] at HH
  obtain ⟨j, hj, rfl, rfl⟩ := enAt_some he
  have HW := rwrong_any (cap := cap) hE hl hA j hj
  clear h hE hR hk he
  generalize wrongE l l[j] = c at *
  replace HH := hid HH
  replace HW := hid HW
  by_cases hc : c = 0
  ·subst hc
   go_enter Tryz.func236, Tryz.ntmps236
   go_wp2_with (first | (go_at_call 181; refine HH.out.mono ?_; rintro e w' ⟨rfl, rfl⟩) | (go_at_call 151; refine HW.out.mono ?_; rintro e w1 ⟨rfl, ho1⟩))
   go_ret
   exact ⟨rfl, ho1⟩
  ·have g3 : (c == 0) = false := by simpa using hc
   go_enter Tryz.func236, Tryz.ntmps236
   go_wp2_with (first | (go_at_call 181; refine HH.out.mono ?_; rintro e w' ⟨rfl, rfl⟩) | (go_at_call 151; refine HW.out.mono ?_; rintro e w1 ⟨rfl, ho1⟩))
   go_ret
   exact ⟨rfl, ho1⟩

/-- The numbers and texts that a field's or a method's entry uses. -/
structure MemAt (l : List En) (j : Nat) (kind : Int) (ja jb jc : Nat) (sb sc : List UInt8) : Prop where
 lj : j < l.length
 la : ja < l.length
 lb : jb < l.length
 lc : jc < l.length
 ea : enAt l (j : Int) = some (kind, [], 0, (ja : Int), (jb : Int), (jc : Int))
 ka : l[ja].1 = 3
 tb : l[jb].2.1 = sb
 tc : l[jc].2.1 = sc
 xb : textAt l (jb : Int) = some sb
 xc : textAt l (jc : Int) = some sc

theorem member_at {l : List En} {j : Nat} {kind : Int} (hkd : kind = 5 ∨ kind = 6) {e : En} (he : enAt l (j : Int) = some e) (hk : e.1 = kind) (hw : wrongE l e = 0) : ∃ ja jb jc sb sc, MemAt l j kind ja jb jc sb sc ∧ e = (kind, [], 0, (ja : Int), (jb : Int), (jc : Int)) := by
 have hx : hasE l e.2.2.2.1 3 = true ∧ (∃ s, textAt l e.2.2.2.2.1 = some s) ∧ ∃ s, textAt l e.2.2.2.2.2 = some s := by
  rcases hkd with rfl | rfl
  ·obtain ⟨h1, ⟨s, hs, _⟩, t, ht, _⟩ := wrong_field hw hk
   exact ⟨h1, ⟨s, hs⟩, t, ht⟩
  ·obtain ⟨h1, ⟨s, hs, _⟩, t, ht, _⟩ := wrong_method hw hk
   exact ⟨h1, ⟨s, hs⟩, t, ht⟩
 obtain ⟨_, _, hu⟩ := wrong_used hw
 obtain ⟨hc, ⟨sb, hb⟩, sc, hcc⟩ := hx
 obtain ⟨ea, hea, hka⟩ := hasE_kind hc
 obtain ⟨eb, heb, _, htb⟩ := textAt_some hb
 obtain ⟨ec, hec, _, htc⟩ := textAt_some hcc
 obtain ⟨ja, hja, qa, ra⟩ := enAt_some hea
 obtain ⟨jb, hjb, qb, rb⟩ := enAt_some heb
 obtain ⟨jc, hjc, qc, rc⟩ := enAt_some hec
 have hee : e = (kind, [], 0, (ja : Int), (jb : Int), (jc : Int)) := by
  obtain ⟨k, t, n, a, b, c⟩ := e
  simp only at hk qa qb qc hu
  subst hk qa qb qc
  rcases hkd with rfl | rfl
  ·simpa [usedE] using hu
  ·simpa [usedE] using hu
 obtain ⟨j', hj', q, _⟩ := enAt_some he
 have : j' = j := by omega
 subst this
 refine ⟨ja, jb, jc, sb, sc, ⟨hj', hja, hjb, hjc, by rw [he, hee], by rw [ra]; exact hka, by rw [rb]; exact htb, by rw [rc]; exact htc, by rw [← qb]; exact hb, by rw [← qc]; exact hcc⟩, hee⟩

theorem member_val {l : List En} {j : Nat} {kind : Int} {ja jb jc : Nat} {sb sc : List UInt8} (h : MemAt l j kind ja jb jc sb sc) (hw : wrongE l (kind, [], 0, (ja : Int), (jb : Int), (jc : Int)) = 0) :
  memberR l (j : Int) kind = if wrongE l (l[ja]'h.la) = 0 then (((classR l (ja : Int)).1, sb, sc), 0) else (([], [], []), wrongE l (l[ja]'h.la)) := by
 have hr : rightE l (j : Int) kind = ((kind, [], 0, (ja : Int), (jb : Int), (jc : Int)), 0) := by
  rw [held_wrong h.ea rfl, if_pos hw]
 have hcl : (classR l (ja : Int)).2 = wrongE l (l[ja]'h.la) := by
  unfold classR
  rw [held_wrong (enAt_nat ja h.la) h.ka]
  split
  ·rename_i h0
   rw [h0]
   rfl
  ·rfl
 unfold memberR
 rw [hr]
 simp only [if_true, textAt_textOf h.xb, textAt_textOf h.xc, hcl]

set_option maxHeartbeats 400000 in
set_option maxRecDepth 100000 in
theorem rheld_high {w : World} {ao : Option Addr} {l : List En} {d cap : Nat} (hE : ES w ao l d) (hl : l.length ≤ 9223372036854775807) (hA : ∀ e ∈ l, e.2.1.length ≤ 1048576) (i kind : Int) (hkd : kind = 5 ∨ kind = 6) :
  Calls Tryz.prog 236 #[.slice ao l.length cap, .int .i64 i, .int .i64 kind] w fun r w' => r = .returned (.int .i64 (memberR l i kind).2) ∧ Only [] w w' := by
 have HH := ris_any (cap := cap) hE hl i kind
 have g5 : 5 ≤ kind := by omega
 cases h : hasE l i kind with
 | false =>
  have e1 : (memberR l i kind).2 = 16 := by
   unfold memberR
   rw [held_has h]
   simp
  rw [e1]
  rw [h] at HH
  clear h hE e1
  replace HH := hid HH
  go_enter Tryz.func236, Tryz.ntmps236
  go_wp2_with (go_at_call 181; refine HH.out.mono ?_; rintro e w' ⟨rfl, rfl⟩)
  go_ret
  exact ⟨rfl, Only.refl _ _⟩
 | true =>
  obtain ⟨e, he, hk⟩ := hasE_kind h
  obtain ⟨j, hj, rfl, hje⟩ := enAt_some he
  have HW := rwrong_any (cap := cap) hE hl hA j hj
  rw [hje] at HW
  rw [h] at HH
  clear h
  by_cases hc : wrongE l e = 0
  ·obtain ⟨ja, jb, jc, sb, sc, hM, rfl⟩ := member_at hkd he hk hc
   have hv := member_val hM hc
   have e1 : (memberR l (j : Int) kind).2 = wrongE l (l[ja]'hM.la) := by
    rw [hv]
    split
    ·rename_i h0
     exact h0.symm
    ·rfl
   rw [e1]
   rw [hc] at HW
   have hJ := fun W (hW : Only [] w W) => (hE.only hW (by simp)).at hj
   rw [hje] at hJ
   have HW2 := fun W (hW : Only [] w W) => rwrong_any (cap := cap) (hE.only hW (by simp)) hl hA ja hM.la
   generalize wrongE l (l[ja]'hM.la) = c2 at *
   have ga : ((ja : Int) < (l.length : Int)) := by have := hM.la; omega
   have gj : ((j : Int) < (l.length : Int)) := by omega
   clear hE he hk hc hv e1 hM hje hkd
   replace HH := hid HH
   replace HW := hid HW
   replace HW2 := hid HW2
   replace hJ := hid hJ
   go_enter Tryz.func236, Tryz.ntmps236
   go_wp2_with (first | (go_at_call 181; refine HH.out.mono ?_; rintro e w' ⟨rfl, rfl⟩) | fail)
   refine HW.out.mono ?_
   rintro e w1 ⟨rfl, ho1⟩
   obtain ⟨off, rfl, y0, y1, y2, y3, y4, y5⟩ := hJ.out w1 ho1
   simp only at y3
   replace HW2 := hid (HW2.out w1 ho1)
   go_wp2_with fail
   refine HW2.out.mono ?_
   rintro e w2 ⟨rfl, ho2⟩
   go_wp2
   go_ret
   exact ⟨rfl, ho1.next ho2 (by simp)⟩
  ·have e1 : (memberR l (j : Int) kind).2 = wrongE l e := by
    unfold memberR
    rw [held_wrong he hk, if_neg hc]
    simp [hc]
   rw [e1]
   clear hE he hk e1 hje hkd
   generalize wrongE l e = c at *
   have g3 : (c == 0) = false := by simpa using hc
   replace HH := hid HH
   replace HW := hid HW
   go_enter Tryz.func236, Tryz.ntmps236
   go_wp2_with (first | (go_at_call 181; refine HH.out.mono ?_; rintro e w' ⟨rfl, rfl⟩) | (go_at_call 151; refine HW.out.mono ?_; rintro e w1 ⟨rfl, ho1⟩))
   go_ret
   exact ⟨rfl, ho1⟩

set_option maxHeartbeats 400000 in
set_option maxRecDepth 100000 in
theorem rpnumber_any {w : World} {ao : Option Addr} {l : List En} {d cap : Nat} (hE : ES w ao l d) (hl : l.length ≤ 9223372036854775807) (hA : ∀ e ∈ l, e.2.1.length ≤ 1048576) (i : Int) :
  Calls Tryz.prog 227 #[.slice ao l.length cap, .int .i64 i] w fun r w' => r = .returned (.tuple #[.int .i64 (numberR l i).1, .int .i64 (numberR l i).2]) ∧ Only [] w w' := by
 have HR := rheld_low (cap := cap) hE hl hA i 2 (by omega)
 by_cases h0 : (rightE l i 2).2 = 0
 ·obtain ⟨e, he, hk, hw, hR⟩ := right_ok h0
  have e1 : numberR l i = (e.2.2.1, 0) := by unfold numberR; rw [hR]
  rw [e1]
  rw [h0] at HR
  obtain ⟨j, hj, rfl, rfl⟩ := enAt_some he
  have hJ := fun W (hW : Only [] w W) => (hE.only hW (by simp)).at hj
  generalize l[j] = e at *
  obtain ⟨k, t, n, a, b, c⟩ := e
  simp only at *
  have gj : ((j : Int) < (l.length : Int)) := by omega
  clear hE hA h0 he hk hw hR e1
  replace HR := hid HR
  replace hJ := hid hJ
  go_enter Tryz.func227, Tryz.ntmps227
  go_wp2_with fail
  refine HR.out.mono ?_
  rintro e w1 ⟨rfl, ho1⟩
  obtain ⟨off, rfl, y0, y1, y2, y3, y4, y5⟩ := hJ.out w1 ho1
  simp only at y2
  go_wp2
  go_ret2
  exact ⟨rfl, ho1⟩
 ·have e1 : numberR l i = (0, (rightE l i 2).2) := by
   unfold numberR
   rw [right_no h0]
   simp [en0]
  rw [e1]
  generalize (rightE l i 2).2 = er at *
  have g3 : (er == 0) = false := by simpa using h0
  clear hE hA e1
  replace HR := hid HR
  go_enter Tryz.func227, Tryz.ntmps227
  go_wp2_with (go_at_call 236; refine HR.out.mono ?_; rintro e w1 ⟨rfl, ho1⟩)
  go_ret2
  exact ⟨rfl, ho1⟩

set_option maxHeartbeats 400000 in
set_option maxRecDepth 100000 in
theorem rpclass_any {w : World} {ao : Option Addr} {l : List En} {d cap : Nat} (hE : ES w ao l d) (hl : l.length ≤ 9223372036854775807) (hA : ∀ e ∈ l, e.2.1.length ≤ 1048576) (i : Int) :
  Calls Tryz.prog 228 #[.slice ao l.length cap, .int .i64 i] w fun r w' => r = .returned (.tuple #[.string (str (classR l i).1), .int .i64 (classR l i).2]) ∧ Only [] w w' := by
 have HR := rheld_low (cap := cap) hE hl hA i 3 (by omega)
 by_cases h0 : (rightE l i 3).2 = 0
 ·obtain ⟨e, he, hk, hw, hR⟩ := right_ok h0
  obtain ⟨s, hs, _⟩ := wrong_class hw hk
  have e1 : classR l i = (s, 0) := by
   unfold classR
   rw [hR]
   simp [textAt_textOf hs]
  rw [e1]
  rw [h0] at HR
  obtain ⟨j, hj, rfl, rfl⟩ := enAt_some he
  have hJ := fun W (hW : Only [] w W) => (hE.only hW (by simp)).at hj
  have hS := fun W (hW : Only [] w W) => text_cell (hE.only hW (by simp)) hs
  generalize l[j] = e at *
  obtain ⟨k, t, n, a, b, c⟩ := e
  simp only at *
  have gj : ((j : Int) < (l.length : Int)) := by omega
  clear hE hA h0 he hk hw hR hs e1
  replace HR := hid HR
  replace hJ := hid hJ
  replace hS := hid hS
  go_enter Tryz.func228, Tryz.ntmps228
  go_wp2_with fail
  refine HR.out.mono ?_
  rintro e w1 ⟨rfl, ho1⟩
  obtain ⟨js, off', rfl, hjs, hao, hc, _⟩ := hS.out w1 ho1
  obtain ⟨off, hao2, y0, y1, y2, y3, y4, y5⟩ := hJ.out w1 ho1
  rw [hao] at hao2
  simp at hao2
  subst hao2
  subst hao
  simp only at y3
  have gs : ((js : Int) < (l.length : Int)) := by omega
  go_wp2
  go_ret2
  exact ⟨rfl, ho1⟩
 ·have e1 : classR l i = ([], (rightE l i 3).2) := by simp [classR, h0]
  rw [e1]
  generalize (rightE l i 3).2 = er at *
  have g3 : (er == 0) = false := by simpa using h0
  clear hE hA e1
  replace HR := hid HR
  go_enter Tryz.func228, Tryz.ntmps228
  go_wp2_with (go_at_call 236; refine HR.out.mono ?_; rintro e w1 ⟨rfl, ho1⟩)
  go_ret2
  exact ⟨rfl, ho1⟩

theorem rptype_result {w : World} {b : Nat} {t : Ty} {x : Value} (h : TyAt w b t) (tmps : Array Value) (h2 : tmps.getD 4 undef = .pointer (some ⟨b, 0, none⟩)) (h3 : tmps.getD 5 undef = x) :
  (results Tryz.f230 tmps).run Tryz.prog w = .ok (.tuple #[tyV t, x]) w := by
 obtain ⟨c0, c1, _, _⟩ := h
 rw [results_cell_tmp (p := 4) (u := 5) (ty := 35) Tryz.results230, h2, h3]
 simp [go_sem, c0, c1, tyV]

set_option maxHeartbeats 400000 in
set_option maxRecDepth 100000 in
theorem rptype_any {w : World} {ao : Option Addr} {l : List En} {d cap : Nat} (hE : ES w ao l d) (hl : l.length ≤ 9223372036854775807) (hA : ∀ e ∈ l, e.2.1.length ≤ 1048576) (i : Int) :
  Calls Tryz.prog 230 #[.slice ao l.length cap, .int .i64 i] w fun r w' => r = .returned (.tuple #[tyV (typeAtR l i).1, .int .i64 (typeAtR l i).2]) ∧ Only [] w w' := by
 have o0 := (Only.refl [] w).alloc (.cells #[.int .i64 0, .string ⟨#[]⟩] 35)
 have T0 := tyAt_new' w 0 []
 have HR := rheld_low (cap := cap) (hE.only o0 (by simp)) hl hA i 4 (by omega)
 by_cases h0 : (rightE l i 4).2 = 0
 ·obtain ⟨e, he, hk, hw, hR⟩ := right_ok h0
  obtain ⟨s, hs, hz⟩ := wrong_type hw hk
  have e1 : typeAtR l i = typeR s := by
   unfold typeAtR
   rw [hR]
   simp [textAt_textOf hs]
  rw [e1]
  rw [h0] at HR
  obtain ⟨j, hj, rfl, rfl⟩ := enAt_some he
  have hJ := fun W (hW : Only [] w W) => (hE.only hW (by simp)).at hj
  have hS := fun W (hW : Only [] w W) => text_cell (hE.only hW (by simp)) hs
  have hm := text_mem hs
  have HT := fun W => rtype_any s (by have := small_text hA hm; omega) W
  generalize l[j] = e at *
  obtain ⟨k, t, n, a, b, c⟩ := e
  generalize typeR s = X at *
  obtain ⟨⟨xd, xn⟩, xe⟩ := X
  simp only at *
  subst hz
  simp only [tyV] at HT ⊢
  have gj : ((j : Int) < (l.length : Int)) := by omega
  clear hE hA h0 he hk hw hR hs e1 hm
  replace HR := hid HR
  replace hJ := hid hJ
  replace hS := hid hS
  replace HT := hid HT
  replace T0 := hid T0
  go_enter Tryz.func230, Tryz.ntmps230
  go_wp2_with fail
  refine HR.out.mono ?_
  rintro e w1 ⟨rfl, ho1⟩
  have o1 := o0.next ho1 (by simp)
  obtain ⟨js, off', rfl, hjs, hao, hc, _⟩ := hS.out w1 o1
  obtain ⟨off, hao2, y0, y1, y2, y3, y4, y5⟩ := hJ.out w1 o1
  rw [hao] at hao2
  simp at hao2
  subst hao2
  subst hao
  simp only at y3
  have gs : ((js : Int) < (l.length : Int)) := by omega
  go_wp2_with fail
  refine (HT.out _).mono ?_
  rintro e w2 ⟨rfl, ho2⟩
  have T1 := hid ((T0.out.only ho1 (by simp)).only ho2 (by simp))
  obtain ⟨t0, t1, f0, f1⟩ := T1.out
  go_wp2
  exact bodyPost_ret (rptype_result (T1.out.put xd xn) _ rfl rfl) rfl ⟨rfl, ((o1.next ho2 (by simp)).setCell (.inr (by simp)) _).setCell (.inr (by simp)) _⟩
 ·have e1 : typeAtR l i = ((0, []), (rightE l i 4).2) := by simp [typeAtR, h0]
  rw [e1]
  generalize (rightE l i 4).2 = er at *
  have g3 : (er == 0) = false := by simpa using h0
  simp only [tyV]
  clear hE hA e1
  replace HR := hid HR
  replace T0 := hid T0
  go_enter Tryz.func230, Tryz.ntmps230
  go_wp2_with fail
  refine HR.out.mono ?_
  rintro e w1 ⟨rfl, ho1⟩
  have o1 := o0.next ho1 (by simp)
  have T1 := hid (T0.out.only ho1 (by simp))
  obtain ⟨t0, t1, f0, f1⟩ := T1.out
  go_wp2
  exact bodyPost_ret (rptype_result (T1.out.put 0 []) _ rfl rfl) rfl ⟨rfl, (o1.setCell (.inr (by simp)) _).setCell (.inr (by simp)) _⟩

/-- All that a field or a method says. -/
structure MemFull (l : List En) (j : Nat) (kind : Int) (ja jb jc jn : Nat) (cls sb sc : List UInt8) : Prop where
 m : MemAt l j kind ja jb jc sb sc
 ln : jn < l.length
 en : (l[ja]'m.la).2.2.2.1 = (jn : Int)
 tn : l[jn].2.1 = cls
 val : memberR l (j : Int) kind = ((cls, sb, sc), 0)
 ok : wrongE l (kind, [], 0, (ja : Int), (jb : Int), (jc : Int)) = 0

theorem member_full {l : List En} {i kind : Int} (hkd : kind = 5 ∨ kind = 6) (h : (memberR l i kind).2 = 0) : ∃ j ja jb jc jn cls sb sc, i = ((j : Nat) : Int) ∧ MemFull l j kind ja jb jc jn cls sb sc := by
 have h0 : (rightE l i kind).2 = 0 := by
  by_cases h0 : (rightE l i kind).2 = 0
  ·exact h0
  ·exfalso
   unfold memberR at h
   rw [if_neg h0] at h
   exact h0 h
 obtain ⟨e, he, hk, hw, hR⟩ := right_ok h0
 obtain ⟨j, hj, rfl, hje⟩ := enAt_some he
 obtain ⟨ja, jb, jc, sb, sc, hM, rfl⟩ := member_at hkd he hk hw
 have hv := member_val hM hw
 have hwa : wrongE l (l[ja]'hM.la) = 0 := by
  by_cases h1 : wrongE l (l[ja]'hM.la) = 0
  ·exact h1
  ·rw [hv, if_neg h1] at h
   exact absurd h h1
 rw [if_pos hwa] at hv
 obtain ⟨cls, hcl, _⟩ := wrong_class hwa hM.ka
 obtain ⟨en, hen, _, htn⟩ := textAt_some hcl
 obtain ⟨jn, hjn, q, rfl⟩ := enAt_some hen
 have hcv : (classR l (ja : Int)).1 = cls := by
  unfold classR
  rw [held_wrong (enAt_nat ja hM.la) hM.ka, if_pos hwa]
  simp [textAt_textOf hcl]
 exact ⟨j, ja, jb, jc, jn, cls, sb, sc, rfl, hM, hjn, q, htn, by rw [hv, hcv], hw⟩

theorem mem_cells {W : World} {ao : Option Addr} {l : List En} {d : Nat} (hE : ES W ao l d) {j : Nat} {kind : Int} {ja jb jc jn : Nat} {cls sb sc : List UInt8} (h : MemFull l j kind ja jb jc jn cls sb sc) :
  ∃ off, ao = some ⟨d, off, none⟩ ∧ W.cell? ⟨d, off + j * 6 + 3, none⟩ = some (.int .i64 (ja : Int)) ∧ W.cell? ⟨d, off + j * 6 + 4, none⟩ = some (.int .i64 (jb : Int)) ∧ W.cell? ⟨d, off + j * 6 + 5, none⟩ = some (.int .i64 (jc : Int)) ∧ W.cell? ⟨d, off + ja * 6 + 3, none⟩ = some (.int .i64 (jn : Int)) ∧
   W.cell? ⟨d, off + jn * 6 + 1, none⟩ = some (.string (str cls)) ∧ W.cell? ⟨d, off + jb * 6 + 1, none⟩ = some (.string (str sb)) ∧ W.cell? ⟨d, off + jc * 6 + 1, none⟩ = some (.string (str sc)) := by
 have hj : l[j]'h.m.lj = (kind, [], 0, (ja : Int), (jb : Int), (jc : Int)) := by
  have := h.m.ea
  rw [enAt_nat j h.m.lj] at this
  simpa using this
 rcases hE with e | ⟨off, rfl, hc⟩
 ·have := h.ln
  rw [e] at this
  simp at this
 ·have c1 := hc j h.m.lj
  have c2 := hc ja h.m.la
  have c3 := hc jn h.ln
  have c4 := hc jb h.m.lb
  have c5 := hc jc h.m.lc
  refine ⟨off, rfl, ?_, ?_, ?_, ?_, ?_, ?_, ?_⟩
  ·rw [c1.c3, hj]
  ·rw [c1.c4, hj]
  ·rw [c1.c5, hj]
  ·rw [c2.c3, h.en]
  ·rw [c3.c1, h.tn]
  ·rw [c4.c1, h.m.tb]
  ·rw [c5.c1, h.m.tc]

theorem rpfield_result {w : World} {b : Nat} {t : Ty} {x y z : Value} (h : TyAt w b t) (tmps : Array Value) (h1 : tmps.getD 4 undef = x) (h2 : tmps.getD 5 undef = y) (h3 : tmps.getD 6 undef = .pointer (some ⟨b, 0, none⟩)) (h4 : tmps.getD 7 undef = z) :
  (results Tryz.f229 tmps).run Tryz.prog w = .ok (.tuple #[x, y, tyV t, z]) w := by
 obtain ⟨c0, c1, _, _⟩ := h
 rw [results_ttct (p := 4) (q := 5) (r := 6) (u := 7) (ty := 35) Tryz.results229, h1, h2, h3, h4]
 simp [go_sem, c0, c1, tyV]

theorem rpmethod_result {w : World} {b : Nat} {v : Value} {void : Bool} {t : Ty} {x y z : Value} (h : SigAt w b v void t) (tmps : Array Value) (h1 : tmps.getD 4 undef = x) (h2 : tmps.getD 5 undef = y) (h3 : tmps.getD 6 undef = .pointer (some ⟨b, 0, none⟩)) (h4 : tmps.getD 7 undef = z) :
  (results Tryz.f232 tmps).run Tryz.prog w = .ok (.tuple #[x, y, sigV v void t, z]) w := by
 obtain ⟨c0, c1, c2, c3, _, _, _, _⟩ := h
 rw [results_ttct (p := 4) (q := 5) (r := 6) (u := 7) (ty := 37) Tryz.results232, h1, h2, h3, h4]
 simp [go_sem, c0, c1, c2, c3, sigV]

set_option maxHeartbeats 1000000 in
set_option maxRecDepth 100000 in
theorem rpfield_any {w : World} {ao : Option Addr} {l : List En} {d cap : Nat} (hE : ES w ao l d) (hl : l.length ≤ 9223372036854775807) (hA : ∀ e ∈ l, e.2.1.length ≤ 1048576) (i : Int) :
  Calls Tryz.prog 229 #[.slice ao l.length cap, .int .i64 i] w fun r w' => r = .returned (.tuple #[.string (str (fieldR l i).1.1), .string (str (fieldR l i).1.2.1), tyV (fieldR l i).1.2.2, .int .i64 (fieldR l i).2]) ∧ Only [] w w' := by
 have o0 := (Only.refl [] w).alloc (.cells #[.int .i64 0, .string ⟨#[]⟩] 35)
 have T0 := tyAt_new' w 0 []
 have HM := rheld_high (cap := cap) (hE.only o0 (by simp)) hl hA i 5 (.inl rfl)
 by_cases hx : (memberR l i 5).2 = 0
 ·obtain ⟨j, ja, jb, jc, jn, cls, sb, sc, rfl, hF⟩ := member_full (.inl rfl) hx
  have hz : (typeR sc).2 = 0 := by
   obtain ⟨_, _, s, hs, hz⟩ := wrong_field hF.ok rfl
   simp only at hs
   rw [hF.m.xc] at hs
   simp at hs
   rw [hs]
   exact hz
  have e1 : fieldR l (j : Int) = ((cls, sb, (typeR sc).1), 0) := by
   unfold fieldR
   rw [hF.val]
   simp [hz]
  rw [e1]
  rw [hx] at HM
  have HT := fun W => rtype_any sc (by have := small_text hA (text_mem hF.m.xc); omega) W
  have hJ := fun W (hW : Only [] w W) => mem_cells (hE.only hW (by simp)) hF
  generalize typeR sc = Y at *
  obtain ⟨⟨yd, yn⟩, ye⟩ := Y
  simp only at hz
  subst hz
  simp only [tyV] at HT ⊢
  have gj : ((j : Int) < (l.length : Int)) := by have := hF.m.lj; omega
  have ga : ((ja : Int) < (l.length : Int)) := by have := hF.m.la; omega
  have gb : ((jb : Int) < (l.length : Int)) := by have := hF.m.lb; omega
  have gc : ((jc : Int) < (l.length : Int)) := by have := hF.m.lc; omega
  have gn : ((jn : Int) < (l.length : Int)) := by have := hF.ln; omega
  clear hE hA e1 hF hx
  replace HT := hid HT
  replace HM := hid HM
  replace T0 := hid T0
  replace hJ := hid hJ
  go_enter Tryz.func229, Tryz.ntmps229
  go_wp2_with fail
  refine HM.out.mono ?_
  rintro e w1 ⟨rfl, ho1⟩
  have o1 := o0.next ho1 (by simp)
  obtain ⟨off, hao, z1, z2, z3, z4, z5, z6, z7⟩ := hJ.out w1 o1
  subst hao
  go_wp2_with fail
  refine (HT.out _).mono ?_
  rintro e w2 ⟨rfl, ho2⟩
  have o2 := o1.next ho2 (by simp)
  have hB : w.heap.size < w2.heap.size := by have := ho1.size; have := ho2.size; simp at *; omega
  clear z1 z2 z3 z4 z5 z6 z7
  obtain ⟨off', hao, z1, z2, z3, z4, z5, z6, z7⟩ := hJ.out w2 o2
  simp at hao
  subst hao
  have q1 := fun o => cell_alloc o z1
  have q2 := fun o => cell_alloc o z2
  have q3 := fun o => cell_alloc o z3
  have q4 := fun o => cell_alloc o z4
  have q5 := fun o => cell_alloc o z5
  have q6 := fun o => cell_alloc o z6
  have q7 := fun o => cell_alloc o z7
  have T2 := hid ((T0.out.only ho1 (by simp)).only ho2 (by simp))
  obtain ⟨t0, t1, f0, f1⟩ := T2.out
  have t0' : ∀ o, (w2.alloc o).cell? ⟨w.heap.size, 0, none⟩ = some (.int .i64 0) := fun o => cell_alloc o t0
  have t1' : ∀ o, (w2.alloc o).cell? ⟨w.heap.size, 1, none⟩ = some (.string (str [])) := fun o => cell_alloc o t1
  have f0' : ∀ o, (w2.alloc o).frozen? ⟨w.heap.size, 0, none⟩ = false := fun o => by rw [frozen_alloc o hB]; exact f0
  have f1' : ∀ o, (w2.alloc o).frozen? ⟨w.heap.size, 1, none⟩ = false := fun o => by rw [frozen_alloc o hB]; exact f1
  go_wp2_with fail
  go_region
  go_wp2
  exact bodyPost_ret (rpfield_result ((T2.out.put yd yn).only (((Only.refl [] _).alloc _).drew) (by simp)) _ rfl rfl rfl rfl) rfl ⟨rfl, (((o2.setCell (.inr (by simp)) _).setCell (.inr (by simp)) _).alloc _).drew⟩
 ·have e1 : fieldR l i = (([], [], (0, [])), (memberR l i 5).2) := by simp [fieldR, hx]
  rw [e1]
  generalize (memberR l i 5).2 = xe at *
  have g3 : (xe == 0) = false := by simpa using hx
  simp only [tyV]
  clear hE hA e1
  replace HM := hid HM
  replace T0 := hid T0
  go_enter Tryz.func229, Tryz.ntmps229
  go_wp2_with fail
  refine HM.out.mono ?_
  rintro e w1 ⟨rfl, ho1⟩
  have o1 := o0.next ho1 (by simp)
  have T1 := hid (T0.out.only ho1 (by simp))
  obtain ⟨t0, t1, f0, f1⟩ := T1.out
  go_wp2
  exact bodyPost_ret (rpfield_result (T1.out.put 0 []) _ rfl rfl rfl rfl) rfl ⟨rfl, (o1.setCell (.inr (by simp)) _).setCell (.inr (by simp)) _⟩

set_option maxHeartbeats 1000000 in
set_option maxRecDepth 100000 in
theorem rpmethod_any {w : World} {ao : Option Addr} {l : List En} {d cap : Nat} (hE : ES w ao l d) (hl : l.length ≤ 9223372036854775807) (hA : ∀ e ∈ l, e.2.1.length ≤ 1048576) (i : Int) :
  Calls Tryz.prog 232 #[.slice ao l.length cap, .int .i64 i] w fun r w' => ∃ vo vc, r = .returned (.tuple #[.string (str (methodR l i).1.1), .string (str (methodR l i).1.2.1), sigV (.slice vo (methodR l i).1.2.2.1.length vc) (methodR l i).1.2.2.2.1 (methodR l i).1.2.2.2.2, .int .i64 (methodR l i).2]) ∧ Own w' w.heap.size (.slice vo (methodR l i).1.2.2.1.length vc) (methodR l i).1.2.2.1 ∧ Only [] w w' := by
 have o0 := (Only.refl [] w).alloc (.cells #[.slice none 0 0, .bool false, .int .i64 0, .string ⟨#[]⟩] 37)
 have T0 := sig_new' w (.slice none 0 0) false 0 []
 have HM := rheld_high (cap := cap) (hE.only o0 (by simp)) hl hA i 6 (.inr rfl)
 by_cases hx : (memberR l i 6).2 = 0
 ·obtain ⟨j, ja, jb, jc, jn, cls, sb, sc, rfl, hF⟩ := member_full (.inr rfl) hx
  have hz : (sigR sc).2 = 0 := by
   obtain ⟨_, _, s, hs, hz⟩ := wrong_method hF.ok rfl
   simp only at hs
   rw [hF.m.xc] at hs
   simp at hs
   rw [hs]
   exact hz
  have e1 : methodR l (j : Int) = ((cls, sb, (sigR sc).1), 0) := by
   unfold methodR
   rw [hF.val]
   simp [hz]
  rw [e1]
  rw [hx] at HM
  have HT := fun W => rsig_any sc (by have := small_text hA (text_mem hF.m.xc); omega) W
  have hJ := fun W (hW : Only [] w W) => mem_cells (hE.only hW (by simp)) hF
  unfold SigPost at HT
  generalize sigR sc = Y at *
  obtain ⟨⟨yl, yv, yd, yn⟩, ye⟩ := Y
  simp only at hz
  subst hz
  simp only [sigV] at HT ⊢
  have gj : ((j : Int) < (l.length : Int)) := by have := hF.m.lj; omega
  have ga : ((ja : Int) < (l.length : Int)) := by have := hF.m.la; omega
  have gb : ((jb : Int) < (l.length : Int)) := by have := hF.m.lb; omega
  have gc : ((jc : Int) < (l.length : Int)) := by have := hF.m.lc; omega
  have gn : ((jn : Int) < (l.length : Int)) := by have := hF.ln; omega
  clear hE hA e1 hF hx
  replace HT := hid HT
  replace HM := hid HM
  replace T0 := hid T0
  replace hJ := hid hJ
  go_enter Tryz.func232, Tryz.ntmps232
  go_wp2_with fail
  refine HM.out.mono ?_
  rintro e w1 ⟨rfl, ho1⟩
  have o1 := o0.next ho1 (by simp)
  obtain ⟨off, hao, z1, z2, z3, z4, z5, z6, z7⟩ := hJ.out w1 o1
  subst hao
  go_wp2_with fail
  refine (HT.out _).mono ?_
  rintro e w2 ⟨v, rfl, hown, ho2⟩
  have o2 := o1.next ho2 (by simp)
  have hB : w.heap.size < w2.heap.size := by have := ho1.size; have := ho2.size; simp at *; omega
  clear z1 z2 z3 z4 z5 z6 z7
  obtain ⟨off', hao, z1, z2, z3, z4, z5, z6, z7⟩ := hJ.out w2 o2
  simp at hao
  subst hao
  have q1 := fun o => cell_alloc o z1
  have q2 := fun o => cell_alloc o z2
  have q3 := fun o => cell_alloc o z3
  have q4 := fun o => cell_alloc o z4
  have q5 := fun o => cell_alloc o z5
  have q6 := fun o => cell_alloc o z6
  have q7 := fun o => cell_alloc o z7
  obtain ⟨vo, vc, rfl⟩ := own_slice hown
  have hs1 : w.heap.size < w1.heap.size := by have := ho1.size; simp at *; omega
  have T2 := hid ((T0.out.only ho1 (by simp)).only ho2 (by simp))
  obtain ⟨t0, t1, t2, t3, f0, f1, f2, f3⟩ := T2.out
  have t0' : ∀ o, (w2.alloc o).cell? ⟨w.heap.size, 0, none⟩ = some (.slice none 0 0) := fun o => cell_alloc o t0
  have t1' : ∀ o, (w2.alloc o).cell? ⟨w.heap.size, 1, none⟩ = some (.bool false) := fun o => cell_alloc o t1
  have t2' : ∀ o, (w2.alloc o).cell? ⟨w.heap.size, 2, none⟩ = some (.int .i64 0) := fun o => cell_alloc o t2
  have t3' : ∀ o, (w2.alloc o).cell? ⟨w.heap.size, 3, none⟩ = some (.string (str [])) := fun o => cell_alloc o t3
  have f0' : ∀ o, (w2.alloc o).frozen? ⟨w.heap.size, 0, none⟩ = false := fun o => by rw [frozen_alloc o hB]; exact f0
  have f1' : ∀ o, (w2.alloc o).frozen? ⟨w.heap.size, 1, none⟩ = false := fun o => by rw [frozen_alloc o hB]; exact f1
  have f2' : ∀ o, (w2.alloc o).frozen? ⟨w.heap.size, 2, none⟩ = false := fun o => by rw [frozen_alloc o hB]; exact f2
  have f3' : ∀ o, (w2.alloc o).frozen? ⟨w.heap.size, 3, none⟩ = false := fun o => by rw [frozen_alloc o hB]; exact f3
  replace hown := hid hown
  go_wp2_with fail
  go_region
  go_wp2
  have hown2 := own_mono (C := w.heap.size) (own_only (own_set (own_set (own_set (own_set hown.out ⟨w.heap.size, 0, none⟩ hs1 (.slice vo yl.length vc)) ⟨w.heap.size, 1, none⟩ hs1 (.bool yv)) ⟨w.heap.size, 2, none⟩ hs1 (.int .i64 yd)) ⟨w.heap.size, 3, none⟩ hs1 (.string (str yn))) (((Only.refl [] _).alloc (.cells #[.slice vo yl.length vc, .bool yv, .int .i64 yd, .string (str yn)] 37)).drew) (by simp)) (by omega)
  exact bodyPost_ret (rpmethod_result (((((T2.out.put0 (.slice vo yl.length vc)).put1 yv).put2 yd).put3 yn).only (((Only.refl [] _).alloc _).drew) (by simp)) _ rfl rfl rfl rfl) rfl ⟨vo, vc, rfl, hown2, (((((o2.setCell (.inr (by simp)) _).setCell (.inr (by simp)) _).setCell (.inr (by simp)) _).setCell (.inr (by simp)) _).alloc _).drew⟩
 ·have e1 : methodR l i = (([], [], ([], false, (0, []))), (memberR l i 6).2) := by simp [methodR, hx]
  rw [e1]
  generalize (memberR l i 6).2 = xe at *
  have g3 : (xe == 0) = false := by simpa using hx
  simp only [sigV]
  clear hE hA e1
  replace HM := hid HM
  replace T0 := hid T0
  go_enter Tryz.func232, Tryz.ntmps232
  go_wp2_with fail
  refine HM.out.mono ?_
  rintro e w1 ⟨rfl, ho1⟩
  have o1 := o0.next ho1 (by simp)
  have T1 := hid (T0.out.only ho1 (by simp))
  obtain ⟨t0, t1, t2, t3, f0, f1, f2, f3⟩ := T1.out
  go_wp2
  exact bodyPost_ret (rpmethod_result ((((T1.out.put0 (.slice none 0 0)).put1 false).put2 0).put3 []) _ rfl rfl rfl rfl) rfl ⟨none, 0, rfl, own_nil _ _, (((o1.setCell (.inr (by simp)) _).setCell (.inr (by simp)) _).setCell (.inr (by simp)) _).setCell (.inr (by simp)) _⟩

theorem firstP_dims : ∀ (l : List UInt8) (n : Nat) (t : Ty) (r : List UInt8), firstP n l = some (t, r) → t.1 ≤ 8 := by
 intro l
 induction l with
 | nil => intro n t r h; simp [firstP] at h
 | cons c l ih =>
  intro n t r h
  unfold firstP at h
  split at h
  ·cases h
  ·rename_i h8
   split at h
   ·exact ih _ _ _ h
   ·split at h
    ·simp only [Option.some.injEq, Prod.mk.injEq] at h
     obtain ⟨rfl, _⟩ := h
     simp only
     omega
    ·split at h
     ·unfold classP at h
      repeat' split at h
      all_goals first
       | (simp only [Option.some.injEq, Prod.mk.injEq] at h; obtain ⟨rfl, _⟩ := h; simp only; omega)
       | cases h
     ·cases h

theorem typeR_dims {s : List UInt8} : (typeR s).1.1 ≤ 8 := by
 unfold typeR
 split
 ·rename_i t h
  exact firstP_dims _ _ _ _ h
 ·decide

theorem typeAt_dims (l : List En) (n : Int) : (typeAtR l n).1.1 ≤ 8 := by
 unfold typeAtR
 split
 ·exact typeR_dims
 ·simp

set_option maxHeartbeats 400000 in
set_option maxRecDepth 100000 in
theorem rplace_any {w : World} {ao : Option Addr} {l : List In} {d cap : Nat} (hI : RS w ao (qcs l) d) (hl : l.length ≤ 9223372036854775807) (x : Nat) :
  Calls Tryz.prog 219 #[.slice ao l.length cap, .int .i64 (x : Int)] w fun e w' => (∃ k : Int, e = .returned (.int .i64 k) ∧ decide (k < 0) = !begunI l x) ∧ w' = w := by
 go_enter Tryz.func219, Tryz.ntmps219
 go_wp2
 go_loopw [5] (fun i wr => ∃ j : Nat, j ≤ l.length ∧ i = .int .i64 (j : Int) ∧ Hid (begunI (l.take j) x = false) ∧ wr = w) (fun i _ => l.length - (intOf i).toNat)
 case atStart => exact ⟨0, by omega, rfl, by simp [Hid, begunI], rfl⟩
 case round =>
  obtain ⟨j, hj, rfl, hq, rfl⟩ := hrel
  by_cases hlt : j < l.length
  ·have g2 : ((j : Int) < (l.length : Int)) := by omega
   obtain ⟨off, rfl, y0, y1, y2, y3⟩ := hI.inAt hlt
   clear hI
   have hm : Hid (l[j].1 = (x : Int) → begunI l x = true) := by
    intro h
    unfold begunI
    rw [List.any_eq_true]
    exact ⟨l[j], List.getElem_mem hlt, by simp [h]⟩
   have hnx : Hid (l[j].1 ≠ (x : Int) → begunI (l.take (j + 1)) x = false) := by
    intro h1
    rw [List.take_succ_eq_append_getElem hlt, begun_snoc, hq.out]
    simp [h1]
   generalize l[j] = y at *
   obtain ⟨p, o, n, s⟩ := y
   simp only at y0 y1 y2 y3 hm hnx
   by_cases he : p = (x : Int)
   ·subst he
    have hm' := hid (hm.out rfl)
    clear hnx hm
    go_wp2
    go_ret
    exact ⟨⟨(j : Int), rfl, by rw [hm'.out]; simp⟩, rfl⟩
   ·have g3 : (p == (x : Int)) = false := by simpa using he
    replace hnx := hid (hnx.out he)
    clear hm
    go_wp2
    exact ⟨⟨j + 1, by omega, by go_num, hnx, by first | rfl | trivial⟩, by simp [intOf]; omega⟩
  ·have g2 : ¬ ((j : Int) < (l.length : Int)) := by omega
   have hn : Hid (begunI l x = false) := by
    have := hq.out
    rw [List.take_of_length_le (by omega)] at this
    exact this
   clear hI
   go_wp2
   go_ret
   exact ⟨⟨-1, rfl, by rw [hn.out]; rfl⟩, rfl⟩

/-- Which operations are of which row. -/
theorem row_ops (op : Int) : (rowI op = 3 → op = 1) ∧ (rowI op = 5 → op = 25) ∧ (rowI op = 6 → op = 26 ∨ op = 27 ∨ op = 28 ∨ op = 29) ∧ (rowI op = 7 → op = 30 ∨ op = 36 ∨ op = 37) ∧ (rowI op = 8 → op = 38 ∨ op = 39 ∨ op = 40 ∨ op = 41) ∧
  (rowI op = 0 ∨ rowI op = 1 ∨ rowI op = 2 ∨ rowI op = 4 → op ≠ 1 ∧ op ≠ 25 ∧ op ≠ 26 ∧ op ≠ 27 ∧ op ≠ 28 ∧ op ≠ 29 ∧ op ≠ 30 ∧ op ≠ 36 ∧ op ≠ 37 ∧ op ≠ 38 ∧ op ≠ 39 ∧ op ≠ 40 ∧ op ≠ 41) := by
 unfold rowI
 repeat' split
 all_goals omega

set_option maxHeartbeats 1000000 in
set_option maxRecDepth 100000 in
theorem rentry_in {w : World} {ao : Option Addr} {l : List En} {d cap : Nat} (hE : ES w ao l d) (hl : l.length ≤ 9223372036854775807) (hA : ∀ e ∈ l, e.2.1.length ≤ 1048576) (a op n s : Int) :
  Calls Tryz.prog 220 #[inV (a, op, n, s), .slice ao l.length cap] w fun e w' => e = .returned (.int .i64 (entryI l (a, op, n, s))) ∧ Only [] w w' := by
 have o0 := (Only.refl [] w).alloc (.cells #[.int .i64 a, .int .i64 op, .int .i64 n, .int .i64 s] 250)
 have I0 := hid (inAt_new w a op n s 250)
 have hE0 := hE.only o0 (by simp)
 have H3 := hid (rpnumber_any (cap := cap) hE0 hl hA n)
 have H5 := hid (rpclass_any (cap := cap) hE0 hl hA n)
 have H6 := hid (rpfield_any (cap := cap) hE0 hl hA n)
 have H7 := rptype_any (cap := cap) hE0 hl hA n
 have H8 := rpmethod_any (cap := cap) hE0 hl hA n
 have hdm := typeAt_dims l n
 obtain ⟨_, _, r0, r8⟩ := row_op op
 obtain ⟨q3, q5, q6, q7, q8, qn⟩ := row_ops op
 have ew : entryI l (a, op, n, s) = if rowI op = 3 then (numberR l n).2 else if rowI op = 5 then (classR l n).2 else if rowI op = 6 then (fieldR l n).2 else if rowI op = 7 then typeW l op n else if rowI op = 8 then methodW l op n else 0 := rfl
 rw [ew]
 unfold typeW methodW
 clear ew hE hE0 hA
 simp only [inV]
 generalize rowI op = r at *
 generalize numberR l n = X3 at *
 generalize classR l n = X5 at *
 generalize fieldR l n = X6 at *
 generalize typeAtR l n = X7 at *
 generalize methodR l n = X8 at *
 obtain ⟨x3, e3⟩ := X3
 obtain ⟨x5, e5⟩ := X5
 obtain ⟨⟨x6, y6, z6⟩, e6⟩ := X6
 obtain ⟨⟨td, tn⟩, te⟩ := X7
 obtain ⟨⟨xc, nm, ps, void, sd, sn⟩, er⟩ := X8
 have HN := fun W => dnumber_any (td, tn) W
 simp only [tyV, sigV] at H3 H5 H6 H7 H8 HN hdm ⊢
 replace H7 := hid H7
 replace H8 := hid H8
 rcases (by omega : (r = 0 ∨ r = 1 ∨ r = 2 ∨ r = 4) ∨ r = 3 ∨ r = 5 ∨ r = 6 ∨ r = 7 ∨ r = 8) with hr | rfl | rfl | rfl | rfl | rfl
 ·obtain ⟨n1, n25, n26, n27, n28, n29, n30, n36, n37, n38, n39, n40, n41⟩ := qn hr
  rw [if_neg (by omega), if_neg (by omega), if_neg (by omega), if_neg (by omega), if_neg (by omega)]
  clear H3 H5 H6 H7 H8 HN q3 q5 q6 q7 q8 qn hr r0 r8 hdm
  have b1 : (op == 1) = false := by simpa using n1
  have b25 : (op == 25) = false := by simpa using n25
  have b26 : (op == 26) = false := by simpa using n26
  have b27 : (op == 27) = false := by simpa using n27
  have b28 : (op == 28) = false := by simpa using n28
  have b29 : (op == 29) = false := by simpa using n29
  have b30 : (op == 30) = false := by simpa using n30
  have b36 : (op == 36) = false := by simpa using n36
  have b37 : (op == 37) = false := by simpa using n37
  have b38 : (op == 38) = false := by simpa using n38
  have b39 : (op == 39) = false := by simpa using n39
  have b40 : (op == 40) = false := by simpa using n40
  have b41 : (op == 41) = false := by simpa using n41
  go_enter Tryz.func220, Tryz.ntmps220
  go_wp2
  go_ret
  exact ⟨rfl, o0⟩
 ·obtain rfl := q3 rfl
  clear H5 H6 H7 H8 HN q3 q5 q6 q7 q8 qn hdm
  go_enter Tryz.func220, Tryz.ntmps220
  go_wp2_with (go_at_call 227; refine H3.out.mono ?_; rintro e w2 ⟨rfl, ho2⟩)
  go_ret
  exact ⟨rfl, o0.next ho2 (by simp)⟩
 ·obtain rfl := q5 rfl
  clear H3 H6 H7 H8 HN q3 q5 q6 q7 q8 qn hdm
  go_enter Tryz.func220, Tryz.ntmps220
  go_wp2_with (go_at_call 228; refine H5.out.mono ?_; rintro e w2 ⟨rfl, ho2⟩)
  go_ret
  exact ⟨rfl, o0.next ho2 (by simp)⟩
 ·have hq := q6 rfl
  clear H3 H5 H7 H8 HN q3 q5 q6 q7 q8 qn hdm
  rcases hq with rfl | rfl | rfl | rfl
  all_goals
   go_enter Tryz.func220, Tryz.ntmps220
   go_wp2_with (go_at_call 229; refine H6.out.mono ?_; rintro e w2 ⟨rfl, ho2⟩)
   go_ret
   exact ⟨rfl, o0.next ho2 (by simp)⟩
 ·have hq := q7 rfl
  clear H3 H5 H6 H8 q3 q5 q6 q7 q8 qn
  rw [if_neg (by decide), if_neg (by decide), if_neg (by decide), if_pos rfl]
  by_cases he : te = 0
  ·subst he
   rw [if_pos rfl]
   rcases hq with rfl | rfl | rfl
   ·rw [if_pos rfl]
    clear HN
    by_cases h8 : td = 8
    ·subst h8
     rw [if_pos rfl]
     go_enter Tryz.func220, Tryz.ntmps220
     go_wp2_with (first | (go_at_call 230; refine H7.out.mono ?_; rintro e w1 ⟨rfl, ho1⟩; obtain ⟨c0, c1, c2, c3⟩ := (I0.out.only ho1 (by simp)).alloc (.cells #[.int .i64 8, .string (str tn)] 35); simp only [Nat.zero_add] at c1 c2 c3) | fail)
     go_ret
     exact ⟨rfl, (o0.next ho1 (by simp)).alloc _⟩
    ·rw [if_neg h8]
     have g8 : ¬ (8 ≤ td) := by omega
     clear h8
     go_enter Tryz.func220, Tryz.ntmps220
     go_wp2_with (first | (go_at_call 230; refine H7.out.mono ?_; rintro e w1 ⟨rfl, ho1⟩; obtain ⟨c0, c1, c2, c3⟩ := (I0.out.only ho1 (by simp)).alloc (.cells #[.int .i64 td, .string (str tn)] 35); simp only [Nat.zero_add] at c1 c2 c3) | fail)
     go_ret
     exact ⟨rfl, (o0.next ho1 (by simp)).alloc _⟩
   all_goals
    rw [if_neg (by decide)]
    by_cases hz : ((td, tn) : Ty) = (0, [])
    ·rw [if_pos hz]
     rw [decide_eq_true hz] at HN
     replace HN := hid HN
     clear hz hdm
     go_enter Tryz.func220, Tryz.ntmps220
     go_wp2_with (first | (go_at_call 230; refine H7.out.mono ?_; rintro e w1 ⟨rfl, ho1⟩; obtain ⟨c0, c1, c2, c3⟩ := (I0.out.only ho1 (by simp)).alloc (.cells #[.int .i64 td, .string (str tn)] 35); simp only [Nat.zero_add] at c1 c2 c3) | (go_at_call 231; refine (HN.out _).mono ?_; rintro e w2 ⟨rfl, ho2⟩))
     go_ret
     exact ⟨rfl, ((o0.next ho1 (by simp)).alloc _).next ho2 (by simp)⟩
    ·rw [if_neg hz]
     rw [decide_eq_false hz] at HN
     replace HN := hid HN
     clear hz hdm
     go_enter Tryz.func220, Tryz.ntmps220
     go_wp2_with (first | (go_at_call 230; refine H7.out.mono ?_; rintro e w1 ⟨rfl, ho1⟩; obtain ⟨c0, c1, c2, c3⟩ := (I0.out.only ho1 (by simp)).alloc (.cells #[.int .i64 td, .string (str tn)] 35); simp only [Nat.zero_add] at c1 c2 c3) | (go_at_call 231; refine (HN.out _).mono ?_; rintro e w2 ⟨rfl, ho2⟩))
     go_ret
     exact ⟨rfl, ((o0.next ho1 (by simp)).alloc _).next ho2 (by simp)⟩
  ·have ge : (te == 0) = false := by simpa using he
   rw [if_neg he]
   clear HN hdm
   rcases hq with rfl | rfl | rfl
   all_goals
    go_enter Tryz.func220, Tryz.ntmps220
    go_wp2_with (first | (go_at_call 230; refine H7.out.mono ?_; rintro e w1 ⟨rfl, ho1⟩; obtain ⟨c0, c1, c2, c3⟩ := (I0.out.only ho1 (by simp)).alloc (.cells #[.int .i64 td, .string (str tn)] 35); simp only [Nat.zero_add] at c1 c2 c3) | fail)
    go_ret
    exact ⟨rfl, (o0.next ho1 (by simp)).alloc _⟩
 ·have hq := q8 rfl
  clear H3 H5 H6 H7 HN q3 q5 q6 q7 q8 qn hdm
  rw [if_neg (by decide), if_neg (by decide), if_neg (by decide), if_neg (by decide), if_pos rfl]
  have hst := str_toList nm
  have hci : (⟨#[60, 105, 110, 105, 116, 62]⟩ : ByteArray).toList = initL := str_toList initL
  by_cases he : er = 0
  ·subst he
   rw [if_pos rfl]
   by_cases hn : nm = initL
   ·subst hn
    rw [decide_eq_true rfl]
    have gn : (initL == initL) = true := by decide
    generalize initL = nm at *
    rcases hq with rfl | rfl | rfl | rfl
    ·rw [if_neg (by decide)]
     go_enter Tryz.func220, Tryz.ntmps220
     go_wp2_with (go_at_call 232; refine H8.out.mono ?_; rintro e w1 ⟨vo, vc, rfl, hown, ho1⟩; clear hown; obtain ⟨c0, c1, c2, c3⟩ := (I0.out.only ho1 (by simp)).alloc (.cells #[.slice vo ps.length vc, .bool void, .int .i64 sd, .string (str sn)] 37); simp only [Nat.zero_add] at c1 c2 c3)
     go_ret
     exact ⟨rfl, (o0.next ho1 (by simp)).alloc _⟩
    ·rw [if_neg (by decide)]
     go_enter Tryz.func220, Tryz.ntmps220
     go_wp2_with (go_at_call 232; refine H8.out.mono ?_; rintro e w1 ⟨vo, vc, rfl, hown, ho1⟩; clear hown; obtain ⟨c0, c1, c2, c3⟩ := (I0.out.only ho1 (by simp)).alloc (.cells #[.slice vo ps.length vc, .bool void, .int .i64 sd, .string (str sn)] 37); simp only [Nat.zero_add] at c1 c2 c3)
     go_ret
     exact ⟨rfl, (o0.next ho1 (by simp)).alloc _⟩
    ·rw [if_neg (by decide)]
     go_enter Tryz.func220, Tryz.ntmps220
     go_wp2_with (go_at_call 232; refine H8.out.mono ?_; rintro e w1 ⟨vo, vc, rfl, hown, ho1⟩; clear hown; obtain ⟨c0, c1, c2, c3⟩ := (I0.out.only ho1 (by simp)).alloc (.cells #[.slice vo ps.length vc, .bool void, .int .i64 sd, .string (str sn)] 37); simp only [Nat.zero_add] at c1 c2 c3)
     go_ret
     exact ⟨rfl, (o0.next ho1 (by simp)).alloc _⟩
    ·rw [if_pos (by decide)]
     cases void with
     | true =>
      rw [if_neg (by simp)]
      go_enter Tryz.func220, Tryz.ntmps220
      go_wp2_with (go_at_call 232; refine H8.out.mono ?_; rintro e w1 ⟨vo, vc, rfl, hown, ho1⟩; clear hown; obtain ⟨c0, c1, c2, c3⟩ := (I0.out.only ho1 (by simp)).alloc (.cells #[.slice vo ps.length vc, .bool true, .int .i64 sd, .string (str sn)] 37); simp only [Nat.zero_add] at c1 c2 c3)
      go_ret
      exact ⟨rfl, (o0.next ho1 (by simp)).alloc _⟩
     | false =>
      rw [if_pos (by simp)]
      go_enter Tryz.func220, Tryz.ntmps220
      go_wp2_with (go_at_call 232; refine H8.out.mono ?_; rintro e w1 ⟨vo, vc, rfl, hown, ho1⟩; clear hown; obtain ⟨c0, c1, c2, c3⟩ := (I0.out.only ho1 (by simp)).alloc (.cells #[.slice vo ps.length vc, .bool false, .int .i64 sd, .string (str sn)] 37); simp only [Nat.zero_add] at c1 c2 c3)
      go_ret
      exact ⟨rfl, (o0.next ho1 (by simp)).alloc _⟩
   ·have gn : (nm == initL) = false := by simpa using hn
    rw [decide_eq_false hn]
    rcases hq with rfl | rfl | rfl | rfl
    ·rw [if_pos (by decide), if_neg (by simp)]
     go_enter Tryz.func220, Tryz.ntmps220
     go_wp2_with (go_at_call 232; refine H8.out.mono ?_; rintro e w1 ⟨vo, vc, rfl, hown, ho1⟩; clear hown; obtain ⟨c0, c1, c2, c3⟩ := (I0.out.only ho1 (by simp)).alloc (.cells #[.slice vo ps.length vc, .bool void, .int .i64 sd, .string (str sn)] 37); simp only [Nat.zero_add] at c1 c2 c3)
     go_ret
     exact ⟨rfl, (o0.next ho1 (by simp)).alloc _⟩
    ·rw [if_pos (by decide), if_neg (by simp)]
     go_enter Tryz.func220, Tryz.ntmps220
     go_wp2_with (go_at_call 232; refine H8.out.mono ?_; rintro e w1 ⟨vo, vc, rfl, hown, ho1⟩; clear hown; obtain ⟨c0, c1, c2, c3⟩ := (I0.out.only ho1 (by simp)).alloc (.cells #[.slice vo ps.length vc, .bool void, .int .i64 sd, .string (str sn)] 37); simp only [Nat.zero_add] at c1 c2 c3)
     go_ret
     exact ⟨rfl, (o0.next ho1 (by simp)).alloc _⟩
    ·rw [if_pos (by decide), if_neg (by simp)]
     go_enter Tryz.func220, Tryz.ntmps220
     go_wp2_with (go_at_call 232; refine H8.out.mono ?_; rintro e w1 ⟨vo, vc, rfl, hown, ho1⟩; clear hown; obtain ⟨c0, c1, c2, c3⟩ := (I0.out.only ho1 (by simp)).alloc (.cells #[.slice vo ps.length vc, .bool void, .int .i64 sd, .string (str sn)] 37); simp only [Nat.zero_add] at c1 c2 c3)
     go_ret
     exact ⟨rfl, (o0.next ho1 (by simp)).alloc _⟩
    ·rw [if_neg (by decide)]
     go_enter Tryz.func220, Tryz.ntmps220
     go_wp2_with (go_at_call 232; refine H8.out.mono ?_; rintro e w1 ⟨vo, vc, rfl, hown, ho1⟩; clear hown; obtain ⟨c0, c1, c2, c3⟩ := (I0.out.only ho1 (by simp)).alloc (.cells #[.slice vo ps.length vc, .bool void, .int .i64 sd, .string (str sn)] 37); simp only [Nat.zero_add] at c1 c2 c3)
     go_ret
     exact ⟨rfl, (o0.next ho1 (by simp)).alloc _⟩
  ·have ge : (er == 0) = false := by simpa using he
   rw [if_neg he]
   rcases hq with rfl | rfl | rfl | rfl
   all_goals
    go_enter Tryz.func220, Tryz.ntmps220
    go_wp2_with (go_at_call 232; refine H8.out.mono ?_; rintro e w1 ⟨vo, vc, rfl, hown, ho1⟩; clear hown; obtain ⟨c0, c1, c2, c3⟩ := (I0.out.only ho1 (by simp)).alloc (.cells #[.slice vo ps.length vc, .bool void, .int .i64 sd, .string (str sn)] 37); simp only [Nat.zero_add] at c1 c2 c3)
    go_ret
    exact ⟨rfl, (o0.next ho1 (by simp)).alloc _⟩

theorem row_two (op : Int) : (rowI op = 2 → op = 3 ∨ op = 4) ∧ (rowI op ≠ 2 → op ≠ 3 ∧ op ≠ 4) ∧ (rowI op = 4 → jumpsI op = true) ∧ (rowI op ≠ 4 → jumpsI op = false) := by
 refine ⟨fun h => ?_, fun h => ?_, fun h => ?_, fun h => ?_⟩
 ·unfold rowI at h
  repeat' split at h
  all_goals omega
 ·unfold rowI at h
  repeat' split at h
  all_goals omega
 ·have : 19 ≤ op ∧ op ≤ 24 := by
   unfold rowI at h
   repeat' split at h
   all_goals omega
  simp [jumpsI, this.1, this.2]
 ·have : ¬ (19 ≤ op ∧ op ≤ 24) := by
   unfold rowI at h
   repeat' split at h
   all_goals omega
  unfold jumpsI
  by_cases q : 19 ≤ op
  ·have : ¬ (op ≤ 24) := fun z => this ⟨q, z⟩
   simp [this]
  ·simp [q]

theorem entry_row {l : List En} {i : In} (h : rowI i.2.1 = 2 ∨ rowI i.2.1 = 4) : entryI l i = 0 := by
 unfold entryI
 rw [if_neg (by omega), if_neg (by omega), if_neg (by omega), if_neg (by omega), if_neg (by omega)]

set_option maxHeartbeats 2000000 in
set_option maxRecDepth 100000 in
theorem rcheck4_any {w : World} {ao eo : Option Addr} {code : List UInt8} {l : List En} {d de cap ecap : Nat} (hB : RS w ao (bcs code) d) (hc : code.length ≤ cap) (hcl : cap ≤ 9223372036854775807)
  (hE : ES w eo l de) (hl : l.length ≤ 9223372036854775807) (hA : ∀ e ∈ l, e.2.1.length ≤ 1048576) (locals : Int) :
  Calls Tryz.prog 201 #[.slice ao code.length cap, .slice eo l.length ecap, .int .i64 locals] w fun e w' => e = .returned (.tuple #[.int .i64 (checkI code l locals).1, .int .i64 (checkI code l locals).2]) ∧ Only [] w w' := by
 unfold checkI
 by_cases h0 : code = []
 ·subst h0
  rw [if_pos rfl]
  clear hB hE
  go_enter Tryz.func201, Tryz.ntmps201
  go_wp2
  go_ret2
  exact ⟨rfl, Only.refl _ _⟩
 rw [if_neg h0]
 have hpos := List.length_pos_iff.2 h0
 have g0 : ¬ ((code.length : Int) = 0) := by omega
 have g0' : ((code.length : Int) == 0) = false := by simpa using g0
 clear h0
 by_cases h1 : 1024 < code.length
 ·rw [if_pos h1]
  have g1 : (1024 < (code.length : Int)) := by omega
  clear hB hE
  go_enter Tryz.func201, Tryz.ntmps201
  go_wp2
  go_ret2
  exact ⟨rfl, Only.refl _ _⟩
 rw [if_neg h1]
 have g1 : ¬ (1024 < (code.length : Int)) := by omega
 have HA := hid (rall_any hB hc hcl (by omega))
 have hev := all_each code
 have hln := all_len code
 generalize allR code = X at *
 obtain ⟨al, aa, ae⟩ := X
 simp only at hev hln ⊢
 clear hB
 by_cases hae : ae = 0
 ·subst hae
  rw [if_pos rfl]
  have HE := hid (fun W (hW : Only [] w W) (a op n s : Int) => rentry_in (cap := ecap) (hE.only hW (by simp)) hl hA a op n s)
  clear hE hA
  obtain ⟨x, hx⟩ : ∃ x, x = checkL al l locals al := ⟨_, rfl⟩
  rw [← hx]
  have hr : Hid (x = checkL al l locals (al.drop 0)) := by rw [hx]; rfl
  clear hx
  replace hev := hid hev
  go_enter Tryz.func201, Tryz.ntmps201
  go_wp2_with (go_at_call 217; refine HA.out.mono ?_; rintro e w1 ⟨ao1, cap1, rfl, hown1, ho1⟩)
  obtain ⟨d1, hR1⟩ : ∃ d, RS w1 ao1 (qcs al) d := ⟨_, (RS.of_owns hown1).1⟩
  have R1 := hid hR1
  clear hown1 hR1 HA
  go_loopw [11] (fun i wr => ∃ (j : Nat), j ≤ al.length ∧ i = .int .i64 (j : Int) ∧ Hid (x = checkL al l locals (al.drop j)) ∧ Hid (RS wr ao1 (qcs al) d1) ∧ Hid (Only [] w wr)) (fun i _ => al.length - (intOf i).toNat)
  case atStart => exact ⟨0, by omega, rfl, hr, R1, hid ho1⟩
  case round =>
   obtain ⟨j, hj, rfl, hq, hR, hor⟩ := hrel
   clear hr R1
   by_cases hlt : j < al.length
   ·have g4 : ((j : Int) < (al.length : Int)) := by omega
    have hRI := hid hR.out
    obtain ⟨off, ha1, hy⟩ := hR.out.inAt hlt
    have v6 := (hev.out al[j] (List.getElem_mem hlt)).2.2.2.2.2.2.1
    have hdr := checkL_drop (all := al) (l := l) (locals := locals) hlt
    rw [← hq.out] at hdr
    have her := @entry_row l al[j]
    have ewr : wrongI al l locals al[j] = if rowI al[j].2.1 = 2 then (if locals ≤ al[j].2.2.1 then 43 else 0) else if rowI al[j].2.1 = 4 then (if begunI al al[j].2.2.1.toNat = true then 0 else 18) else entryI l al[j] := rfl
    obtain ⟨k2, k2', k4, k4'⟩ := row_two al[j].2.1
    rw [ewr] at hdr
    clear hq hev ewr
    generalize al[j] = i at *
    obtain ⟨p, o, n, s⟩ := i
    obtain ⟨y0, y1, y2, y3⟩ := hy
    simp only at y0 y1 y2 y3 v6 hdr her k2 k2' k4 k4'
    obtain ⟨n, rfl⟩ : ∃ q : Nat, n = (q : Int) := ⟨n.toNat, by omega⟩
    rw [Int.toNat_natCast] at hdr
    have oo := hid ((Only.refl [] wr).alloc (.cells #[.int .i64 p, .int .i64 o, .int .i64 (n : Int), .int .i64 s] 250))
    have I0 := hid (inAt_new wr p o (n : Int) s 250)
    have HE1 := HE.out _ (hor.out.next oo.out (by simp)) p o (n : Int) s
    have HP1 := hid (rplace_any (cap := cap1) (hRI.out.only0 oo.out) (by omega) n)
    have HJ := rjumps_any o (wr.alloc (.cells #[.int .i64 p, .int .i64 o, .int .i64 (n : Int), .int .i64 s] 250))
    simp only [inV] at HE1
    generalize entryI l (p, o, (n : Int), s) = en at *
    generalize begunI al n = bg at *
    generalize rowI o = r at *
    subst ha1
    by_cases r2 : r = 2
    ·subst r2
     have e0 := her (.inl rfl)
     subst e0
     rw [k4' (by decide)] at HJ
     replace HJ := hid HJ
     replace HE1 := hid HE1
     have ho := k2 rfl
     rw [if_pos rfl] at hdr
     clear her k2 k2' k4 k4' HP1
     by_cases hL : locals ≤ (n : Int)
     ·rw [if_pos hL, if_neg (by decide)] at hdr
      subst hdr
      clear HE1 HJ
      rcases ho with rfl | rfl
      all_goals
       go_wp2
       go_ret2
       exact ⟨rfl, hor.out.next oo.out (by simp)⟩
     ·rw [if_neg hL, if_pos rfl] at hdr
      replace hdr := hid hdr
      rcases ho with rfl | rfl
      all_goals
       go_wp2_with (first | (go_at_call 218; refine HJ.out.mono ?_; rintro e w' ⟨rfl, rfl⟩) | (go_at_call 220; refine HE1.out.mono ?_; rintro e w5 ⟨rfl, ho5⟩))
       exact ⟨⟨j + 1, by omega, by go_num, hdr, hid (hRI.out.only0 (oo.out.next ho5 (by simp))), hid (hor.out.next (oo.out.next ho5 (by simp)) (by simp))⟩, by simp [intOf]; omega⟩
    ·obtain ⟨n3, n4⟩ := k2' r2
     have b3 : (o == 3) = false := by simpa using n3
     have b4 : (o == 4) = false := by simpa using n4
     rw [if_neg r2] at hdr
     by_cases r4 : r = 4
     ·subst r4
      have e0 := her (.inr rfl)
      subst e0
      rw [k4 rfl] at HJ
      replace HJ := hid HJ
      replace HE1 := hid HE1
      rw [if_pos rfl] at hdr
      clear her k2 k2' k4 k4'
      cases bg with
      | true =>
       rw [if_pos rfl, if_pos rfl] at hdr
       replace hdr := hid hdr
       go_wp2_with (first | (go_at_call 218; refine HJ.out.mono ?_; rintro e w' ⟨rfl, rfl⟩) | (go_at_call 219; refine HP1.out.mono ?_; rintro e w' ⟨⟨k, rfl, hk⟩, rfl⟩; have hk' : ¬ (k < 0) := of_decide_eq_false hk; clear hk) | (go_at_call 220; refine HE1.out.mono ?_; rintro e w5 ⟨rfl, ho5⟩))
       exact ⟨⟨j + 1, by omega, by go_num, hdr, hid (hRI.out.only0 (oo.out.next ho5 (by simp))), hid (hor.out.next (oo.out.next ho5 (by simp)) (by simp))⟩, by simp [intOf]; omega⟩
      | false =>
       rw [if_neg (by decide), if_neg (by decide)] at hdr
       subst hdr
       clear HE1
       go_wp2_with (first | (go_at_call 218; refine HJ.out.mono ?_; rintro e w' ⟨rfl, rfl⟩) | (go_at_call 219; refine HP1.out.mono ?_; rintro e w' ⟨⟨k, rfl, hk⟩, rfl⟩; have hk' : k < 0 := of_decide_eq_true hk; clear hk))
       go_ret2
       exact ⟨rfl, hor.out.next oo.out (by simp)⟩
     ·rw [k4' r4] at HJ
      replace HJ := hid HJ
      replace HE1 := hid HE1
      rw [if_neg r4] at hdr
      clear her k2 k2' k4 k4' HP1
      by_cases he : en = 0
      ·subst he
       rw [if_pos rfl] at hdr
       replace hdr := hid hdr
       go_wp2_with (first | (go_at_call 218; refine HJ.out.mono ?_; rintro e w' ⟨rfl, rfl⟩) | (go_at_call 220; refine HE1.out.mono ?_; rintro e w5 ⟨rfl, ho5⟩))
       exact ⟨⟨j + 1, by omega, by go_num, hdr, hid (hRI.out.only0 (oo.out.next ho5 (by simp))), hid (hor.out.next (oo.out.next ho5 (by simp)) (by simp))⟩, by simp [intOf]; omega⟩
      ·have ge : (en == 0) = false := by simpa using he
       rw [if_neg he] at hdr
       subst hdr
       go_wp2_with (first | (go_at_call 218; refine HJ.out.mono ?_; rintro e w' ⟨rfl, rfl⟩) | (go_at_call 220; refine HE1.out.mono ?_; rintro e w5 ⟨rfl, ho5⟩; obtain ⟨c0, c1, c2, c3⟩ := I0.out.only ho5 (by simp)))
       go_ret2
       exact ⟨rfl, hor.out.next (oo.out.next ho5 (by simp)) (by simp)⟩
   ·have g4 : ¬ ((j : Int) < (al.length : Int)) := by omega
    have hxx : x = (0, 0) := by rw [hq.out, List.drop_eq_nil_of_le (by omega)]; rfl
    subst hxx
    clear hq hev HE
    go_wp2
    go_ret2
    exact ⟨rfl, hor.out⟩
 ·have ge : (ae == 0) = false := by simpa using hae
  rw [if_neg hae]
  clear hE hA hev
  go_enter Tryz.func201, Tryz.ntmps201
  go_wp2_with (go_at_call 217; refine HA.out.mono ?_; rintro e w1 ⟨ao1, cap1, rfl, hown1, ho1⟩; clear hown1)
  go_ret2
  exact ⟨rfl, ho1⟩

end Go.Proofs.YtildemmkhndhjaaGreatDoor
