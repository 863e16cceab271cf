/-
  The contracts of member, Field, Method of a list's entries. No conditions.
-/
import Derived.Test.YtemjhlhioeopnabDoorPReads
namespace Go.Proofs.YtemjhlhioeopnabDoor
open Go.RowKit

theorem results_tmp4 {fn : Func} {t u v x : Tmp} (h : fn.results = #[.tmp t, .tmp u, .tmp v, .tmp x]) (tmps : Array Value) (P : Program) (w : World) :
    (results fn tmps).run P w = .ok (.tuple #[tmps.getD t undef, tmps.getD u undef, tmps.getD v undef, tmps.getD x undef]) w := by
  simp only [results, h]
  simp

theorem results_ttct {fn : Func} {p q r u : Tmp} {ty : TypeId} (h : fn.results = #[.tmp p, .tmp q, .cell r ty, .tmp u]) (tmps : Array Value) (P : Program) (w : World) :
    (results fn tmps).run P w =
      ((asAddr (tmps.getD r undef)).run P w).andThen fun a w₁ => ((loadVar ty a).run P w₁).andThen fun v w₂ => .ok (.tuple #[tmps.getD p undef, tmps.getD q undef, v, tmps.getD u undef]) w₂ := by
  simp only [results, h]
  simp [Sem.run_bind, Result.andThen]

theorem wrong_member {l : List En} {e : En} {kind : Int} (hkd : kind = 5 ∨ kind = 6) (h : wrongE l e = 0) (hk : e.1 = kind) : hasE l e.2.2.2.1 3 = true ∧ (∃ s, textAt l e.2.2.2.2.1 = some s) ∧ ∃ s, textAt l e.2.2.2.2.2 = some s := by
  rcases hkd with rfl | rfl
  · obtain ⟨h1, ⟨s, hs, _⟩, t, ht, _⟩ := wrong_field h hk
    exact ⟨h1, ⟨s, hs⟩, t, ht⟩
  · obtain ⟨h1, ⟨s, hs, _⟩, t, ht, _⟩ := wrong_method h hk
    exact ⟨h1, ⟨s, hs⟩, t, ht⟩

set_option maxHeartbeats 400000 in
set_option maxRecDepth 100000 in
theorem member_any {w : World} {ao : Option Addr} {l : List En} {d cap : Nat} (hE : ES w ao l d) (hl : l.length ≤ 9223372036854775807) (hA : ∀ e ∈ l, e.2.1.length ≤ 9223372036854775807) (i kind : Int) (hkd : kind = 5 ∨ kind = 6) :
    Calls Tryd.prog 27 #[.slice ao l.length cap, .int .i64 i, .int .i64 kind] w fun r w' => r = .returned (.tuple #[.string (str (memberR l i kind).1.1), .string (str (memberR l i kind).1.2.1), .string (str (memberR l i kind).1.2.2), .int .i64 (memberR l i kind).2]) ∧ Only [] w w' := by
  have HR := right_any (cap := cap) hE hl hA i kind
  by_cases h0 : (rightE l i kind).2 = 0
  · obtain ⟨e, he, hk, hw, hR⟩ := right_ok h0
    obtain ⟨_, ⟨sb, hsb⟩, sc, hsc⟩ := wrong_member hkd hw hk
    have hm : memberR l i kind = if (classR l e.2.2.2.1).2 = 0 then (((classR l e.2.2.2.1).1, sb, sc), 0) else (([], [], []), (classR l e.2.2.2.1).2) := by
      unfold memberR
      rw [hR]
      simp only [if_true, textAt_textOf hsb, textAt_textOf hsc]
    rw [hm]
    rw [hR] at HR
    have hJb := fun W (hW : Only [] w W) => text_cell (hE.only hW (by simp)) hsb
    have hJc := fun W (hW : Only [] w W) => text_cell (hE.only hW (by simp)) hsc
    have HC := fun W (hW : Only [] w W) => pclass_any (cap := cap) (hE.only hW (by simp)) hl hA e.2.2.2.1
    obtain ⟨k, t, n, a, b, c⟩ := e
    simp only [enV] at HR hJb hJc HC ⊢
    clear hE hA h0 he hk hw hR hsb hsc hm hkd
    generalize classR l a = X at *
    obtain ⟨xs, xe⟩ := X
    simp only at HC ⊢
    replace HR := hid HR
    replace hJb := hid hJb
    replace hJc := hid hJc
    replace HC := hid HC
    by_cases hx : xe = 0
    · subst hx
      simp only [if_true]
      go_enter Tryd.func27, Tryd.ntmps27
      go_wp2_with fail
      refine HR.out.mono ?_
      rintro e w1 ⟨rfl, ho1⟩
      have EN := enAt_new w1 (k, t, n, a, b, c) 67
      have o1 := ho1.alloc (.cells #[.int .i64 k, .string (str t), .int .i64 n, .int .i64 a, .int .i64 b, .int .i64 c] 67)
      replace EN := hid EN
      replace HC := hid (HC.out _ o1)
      go_wp2_with fail
      refine HC.out.mono ?_
      rintro e w2 ⟨rfl, ho2⟩
      have o2 := o1.next ho2 (by simp)
      obtain ⟨e0, e1, e2, e3, e4, e5⟩ := EN.out.only ho2 (by simp)
      simp only [Nat.zero_add] at e0 e1 e2 e3 e4 e5
      obtain ⟨jb, off, rfl, hjb, rfl, hcb, _⟩ := hJb.out w2 o2
      obtain ⟨jc, off', rfl, hjc, ho', hcc, _⟩ := hJc.out w2 o2
      simp at ho'
      subst ho'
      have gb : ((jb : Int) < (l.length : Int)) := by omega
      have gc : ((jc : Int) < (l.length : Int)) := by omega
      go_wp2_with fail
      go_region
      go_wp2
      refine bodyPost_ret (results_tmp4 rfl _ _ _) rfl ⟨rfl, o2.drew⟩
    · have g3 : (xe == 0) = false := by simpa using hx
      simp only [hx, if_false]
      clear hx
      go_enter Tryd.func27, Tryd.ntmps27
      go_wp2_with fail
      refine HR.out.mono ?_
      rintro e w1 ⟨rfl, ho1⟩
      have o1 := ho1.alloc (.cells #[.int .i64 k, .string (str t), .int .i64 n, .int .i64 a, .int .i64 b, .int .i64 c] 67)
      replace HC := hid (HC.out _ o1)
      go_wp2_with fail
      refine HC.out.mono ?_
      rintro e w2 ⟨rfl, ho2⟩
      have o2 := o1.next ho2 (by simp)
      go_wp2
      refine bodyPost_ret (results_tmp4 rfl _ _ _) rfl ⟨rfl, o2⟩
  · have hm : memberR l i kind = (([], [], []), (rightE l i kind).2) := by simp [memberR, h0]
    rw [hm]
    generalize rightE l i kind = X at *
    obtain ⟨⟨k, t, n, a, b, c⟩, er⟩ := X
    simp only [enV] at HR h0 ⊢
    have g3 : (er == 0) = false := by simpa using h0
    clear hE hA h0 hm hkd
    replace HR := hid HR
    go_enter Tryd.func27, Tryd.ntmps27
    go_wp2_with fail
    refine HR.out.mono ?_
    rintro e w1 ⟨rfl, ho1⟩
    go_wp2
    refine bodyPost_ret (results_tmp4 rfl _ _ _) rfl ⟨rfl, ho1.alloc _⟩

end Go.Proofs.YtemjhlhioeopnabDoor
