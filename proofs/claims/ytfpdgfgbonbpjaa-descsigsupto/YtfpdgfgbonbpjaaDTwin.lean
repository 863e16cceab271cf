/-
  The contract of twin: a signature apart. It has at most a million parameters.
-/
import Derived.Test.YtfpdgfgbonbpjaaDMake
namespace Go.Proofs.Ytfpdgfgbonbpjaa
open Go.RowKit

theorem twin_result {w : World} {b : Nat} {v : Value} {void : Bool} {t : Ty} (h : SigAt w b v void t) (tmps : Array Value) (h2 : tmps.getD 2 undef = .pointer (some ⟨b, 0, none⟩)) :
    (results Try.f29 tmps).run Try.prog w = .ok (sigV v void t) w := by
  obtain ⟨c0, c1, c2, c3, _, _, _, _⟩ := h
  simp only [results, Try.results29]
  simp [Sem.run_bind, Result.andThen, -Array.getD_eq_getD_getElem?, h2, go_sem, c0, c1, c2, c3, sigV]

set_option maxHeartbeats 400000 in
set_option maxRecDepth 100000 in
theorem twin_any {w : World} {ao : Option Addr} {l : List Ty} {cap d : Nat} (hb : TS w ao l d) (hn : ao = none → cap = 0) (hsz : l.length ≤ 1000000) (v : Bool) (t : Ty) :
    Calls Try.prog 29 #[sigV (.slice ao l.length cap) v t] w fun e w' => ∃ ao' cap', e = .returned (sigV (.slice ao' l.length cap') v t) ∧ Own w' w.heap.size (.slice ao' l.length cap') l ∧ Only [] w w' := by
  obtain ⟨td, tn⟩ := t
  simp only [sigV]
  have o0 := ((Only.refl [] w).alloc (.cells #[.slice ao l.length cap, .bool v, .int .i64 td, .string (str tn)] 43)).alloc (.cells #[.slice none 0 0, .bool false, .int .i64 0, .string ⟨#[]⟩] 43)
  have hom := own_made ((w.alloc (.cells #[.slice ao l.length cap, .bool v, .int .i64 td, .string (str tn)] 43)).alloc (.cells #[.slice none 0 0, .bool false, .int .i64 0, .string ⟨#[]⟩] 43))
  rw [World.size_alloc, World.size_alloc] at hom
  replace hom := hid hom
  have hT := hid (hb.only (o0.alloc (.cells #[] 23)) (by simp))
  have SG := (sig_new w (.slice ao l.length cap) v td tn).only ((Only.refl [] _).alloc (.cells #[.slice none 0 0, .bool false, .int .i64 0, .string ⟨#[]⟩] 43)) (by simp)
  have SR := sig_new (w.alloc (.cells #[.slice ao l.length cap, .bool v, .int .i64 td, .string (str tn)] 43)) (.slice none 0 0) false 0 []
  rw [World.size_alloc] at SR
  replace SG := hid SG
  replace SR := hid SR
  go_enter Try.func29, Try.ntmps29
  go_wp2_with (at_builtin; refine wpList_append_types rfl (.tmp 3) (.tmp 5) rfl rfl rfl hom.out hT.out hn (by simp; omega) (by simp) ?_)
  intro ao' cap' w1 hown hgrow _ _
  have ho1 : Only [] ((w.alloc (.cells #[.slice ao l.length cap, .bool v, .int .i64 td, .string (str tn)] 43)).alloc (.cells #[.slice none 0 0, .bool false, .int .i64 0, .string ⟨#[]⟩] 43)) w1 := ((Only.refl [] _).alloc _).trans (Only.of_grown hgrow) (by simp [Value.ownBlock])
  have o1 := o0.next ho1 (by simp)
  replace SG := hid (SG.out.only ho1 (by simp))
  replace SR := hid (SR.out.only ho1 (by simp))
  obtain ⟨c0, c1, c2, c3, f0, f1, f2, f3⟩ := SG.out
  obtain ⟨b0, b1, b2, b3, g0, g1, g2, g3⟩ := SR.out
  replace hown := hid hown
  go_wp2
  have hown2 := own_mono (C := w.heap.size) (own_set (own_set (own_set (own_set (own_set hown.out ⟨w.heap.size, 0, none⟩ (by simp; omega) (.slice ao' l.length cap')) ⟨w.heap.size + 1, 0, none⟩ (by simp) (.slice ao' l.length cap')) ⟨w.heap.size + 1, 1, none⟩ (by simp) (.bool v)) ⟨w.heap.size + 1, 2, none⟩ (by simp) (.int .i64 td)) ⟨w.heap.size + 1, 3, none⟩ (by simp) (.string (str tn))) (by omega)
  refine bodyPost_ret (twin_result (((((SR.out.only ((Only.refl [w.heap.size] w1).setCell (.inl (by simp)) _) (by simp)).put0 (.slice ao' l.length cap')).put1 v).put2 td).put3 tn) _ rfl) rfl ⟨ao', cap', rfl, hown2, ?_⟩
  exact ((((o1.setCell (.inr (by simp)) _).setCell (.inr (by simp)) _).setCell (.inr (by simp)) _).setCell (.inr (by simp)) _).setCell (.inr (by simp)) _

end Go.Proofs.Ytfpdgfgbonbpjaa
