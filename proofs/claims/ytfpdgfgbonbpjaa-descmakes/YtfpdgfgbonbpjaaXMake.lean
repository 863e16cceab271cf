/-
  The contract of the second program's Make. No conditions.
-/
import Derived.Test.YtfpdgfgbonbpjaaXSText
import Derived.Deep.RegionLaw
namespace Go.Proofs.Ytfpdgfgbonbpjaa
open Go.RowKit

/-- append, as a step of a region that draws its order. -/
theorem step_append_types {w : World} {ops : Array Oper} {o : Oper} {a : Act} {K : Act → World → Prop} {Q : Exit → Act → World → Prop} {E : Prop} (hg : o.guard = none) (s x : Operand)
    (hop : o.op = .call { callee := .builtin .append, args := #[s, x], argTypes := #[41, 41] })
    {B : Nat} {ao lao : Option Addr} {cap lcap d : Nat} {m l : List Ty} (hs : a.eval s = .slice ao m.length cap) (hx : a.eval x = .slice lao l.length lcap) (hown : Own w B (.slice ao m.length cap) m) (hb : TS w lao l d) (hl : lao = none → lcap = 0)
    (hsz : m.length + l.length ≤ 1000) (hB : B ≤ w.heap.size)
    (h : ∀ ao' cap' w', Own w' B (.slice ao' (m ++ l).length cap') (m ++ l) → w.grownBy w' (Value.ownBlock (.slice ao m.length cap)) → K (a.put o.dst (.slice ao' (m ++ l).length cap')) w') : if Region.wanted o (yielded ops a.tmps) = true then Oper.wp Try.prog o a w K Q else E := by
  have hw : Region.wanted o (yielded ops a.tmps) = true := by simp [Region.wanted, hg]
  rw [if_pos hw]
  obtain ⟨ao', cap', w', hr, h1, h2, h3, h4⟩ := append_run o.type hown hb hl (by omega) hB
  unfold Oper.wp execOp
  simp only [hop, resolve, invoke, builtin, Sem.run_bind, Sem.run_pure, Result.andThen_ok, List.map_toArray, List.map_cons, List.map_nil, hs, hx, hr]
  exact h ao' cap' w' h1 h2

theorem rmake_result {w : World} {b : Nat} {v x : Value} {void : Bool} {t : Ty} (h : SigAt w b v void t) (tmps : Array Value) (h2 : tmps.getD 4 undef = .pointer (some ⟨b, 0, none⟩)) (h3 : tmps.getD 5 undef = x) :
    (results Try.f35 tmps).run Try.prog w = .ok (.tuple #[sigV v void t, x]) w := by
  obtain ⟨c0, c1, c2, c3, _, _, _, _⟩ := h
  rw [results_cell_tmp (p := 4) (u := 5) (ty := 43) Try.results35, h2, h3]
  simp [go_sem, c0, c1, c2, c3, sigV]

/-- How Make ends. -/
def MakePost (void : Bool) (l : List Ty) (w : World) (e : Ending) (w' : World) : Prop := ∃ ao' cap', e = .returned (.tuple #[sigV (.slice ao' (makeR void l).1.length cap') (makeR void l).2.1 (makeR void l).2.2, .int .i64 (makeE void l)]) ∧ Own w' w.heap.size (.slice ao' (makeR void l).1.length cap') (makeR void l).1 ∧ Only [] w w'

theorem rmake_end {w w2 : World} {v0 : Value} {x0 : Bool} {t0 : Ty} {void : Bool} {l : List Ty} {ao : Option Addr} {cap : Nat} {ps : List Ty} {u : Bool} {d : Int} {n : List UInt8} {c : Int} (sr : SigAt w2 w.heap.size v0 x0 t0) (ho : Only [] w w2) (hown : Own w2 (w.heap.size + 2) (.slice ao ps.length cap) ps) (hR : makeR void l = (ps, u, (d, n))) (hE : makeE void l = c) (a : Act) (hd : a.defers = []) (h2 : a.tmps.getD 4 undef = .pointer (some ⟨w.heap.size, 0, none⟩)) (h3 : a.tmps.getD 5 undef = .int .i64 c) :
    bodyPost Try.prog Try.f35 (fun e w' => MakePost void l w e w') Exit.ret a ((((w2.setCell ⟨w.heap.size, 0, none⟩ (.slice ao ps.length cap)).setCell ⟨w.heap.size, 1, none⟩ (.bool u)).setCell ⟨w.heap.size, 2, none⟩ (.int .i64 d)).setCell ⟨w.heap.size, 3, none⟩ (.string (str n))) := by
  refine bodyPost_ret (rmake_result ((((sr.put0 (.slice ao ps.length cap)).put1 u).put2 d).put3 n) _ h2 h3) hd ⟨ao, cap, by rw [hR, hE], ?_, ?_⟩
  · rw [hR]
    exact own_mono (own_set (own_set (own_set (own_set hown _ (by simp) _) _ (by simp) _) _ (by simp) _) _ (by simp) _) (by omega)
  · exact (((ho.setCell (.inr (by simp)) _).setCell (.inr (by simp)) _).setCell (.inr (by simp)) _).setCell (.inr (by simp)) _

/-- Make, behind the append. -/
theorem rmake_row {w W1 w2 : World} {ao2 : Option Addr} {cap2 : Nat} {ps : List Ty} {void : Bool} {d : Int} {n : List UInt8} (ho : Only [] w W1) (sr : SigAt W1 w.heap.size (.slice none 0 0) false (0, [])) (sg : SigAt W1 (w.heap.size + 1) (.slice none 0 0) void (d, n))
    (hown : Own w2 (w.heap.size + 2) (.slice ao2 ps.length cap2) ps) (hg : W1.grownBy w2 none) :
    Only [] w (w2.setCell ⟨w.heap.size + 1, 0, none⟩ (.slice ao2 ps.length cap2)) ∧ SigAt (w2.setCell ⟨w.heap.size + 1, 0, none⟩ (.slice ao2 ps.length cap2)) w.heap.size (.slice none 0 0) false (0, []) ∧
    SigAt (w2.setCell ⟨w.heap.size + 1, 0, none⟩ (.slice ao2 ps.length cap2)) (w.heap.size + 1) (.slice ao2 ps.length cap2) void (d, n) ∧ Own (w2.setCell ⟨w.heap.size + 1, 0, none⟩ (.slice ao2 ps.length cap2)) (w.heap.size + 2) (.slice ao2 ps.length cap2) ps := by
  have q : Only [] W1 w2 := Only.of_grown hg
  refine ⟨(ho.next q (by simp)).setCell (.inr (by simp)) _, (sr.only q (by simp)).only ((Only.refl [w.heap.size + 1] _).setCell (.inl (by simp)) _) (by simp), (sg.only q (by simp)).put0 _, own_set hown _ (by simp) _⟩

set_option maxHeartbeats 400000 in
set_option maxRecDepth 100000 in
theorem rmake_void {w : World} {ao : Option Addr} {l : List Ty} {cap d : Nat} (hb : TS w ao l d) (hl : l.length ≤ 100) (hc : l.length ≤ cap) (hn : ao = none → cap = 0) (hA : ∀ t ∈ l, t.2.length ≤ 9223372036854775807) :
    Calls Try.prog 35 #[.bool true, .slice ao l.length cap] w fun e w' => MakePost true l w e w' := by
  obtain ⟨sr, sg⟩ := sig_new2 w (.slice none 0 0) true 0 []
  have ho := (((Only.refl [] w).alloc (.cells #[.slice none 0 0, .bool false, .int .i64 0, .string ⟨#[]⟩] 43)).alloc (.cells #[.slice none 0 0, .bool true, .int .i64 0, .string ⟨#[]⟩] 43)).drew
  replace sr := hid (sr.only (Only.refl [] _).drew (by simp))
  replace sg := hid (sg.only (Only.refl [] _).drew (by simp))
  have hO := hid (own_nil ((w.alloc (.cells #[.slice none 0 0, .bool false, .int .i64 0, .string ⟨#[]⟩] 43)).alloc (.cells #[.slice none 0 0, .bool true, .int .i64 0, .string ⟨#[]⟩] 43)).drew (w.heap.size + 2))
  have hT := hid (hb.only ho (by simp))
  have eE : makeE true l = sigCheck l true (0, []) := by simp [makeE, makeP, makeT]
  cases ao with
  | none =>
    have hl0 := hb.none_nil
    subst hl0
    have hc0 := hn rfl
    subst hc0
    simp only [List.length_nil]
    go_enter Try.func35, Try.ntmps35
    go_wp2_with fail
    go_region_law (refine step_append_types (m := []) rfl (.tmp 27) (.tmp 30) rfl rfl rfl hO.out hT.out (fun _ => rfl) (by simp) (by simp) ?_; intro ao2 cap2 w2 hown2 hg2; obtain ⟨k0, _, _, _, m0, _, _, _⟩ := sg.out.only (Only.of_grown hg2) (by simp [Value.ownBlock]))
    replace hown2 : Own w2 (w.heap.size + 2) (.slice ao2 ([] : List Ty).length cap2) ([] : List Ty) := hown2
    obtain ⟨o2, SR, SGG, OW⟩ := rmake_row ho sr.out sg.out hown2 hg2
    have HC := rsigText_any (cap := cap2) (TS.of_owns OW).1 (by omega) (by simp) true (0, []) (by simp)
    simp only [sigV] at HC
    simp only [List.length_nil] at HC SGG
    replace o2 := hid o2
    replace SR := hid SR
    replace SGG := hid SGG
    replace OW := hid OW
    obtain ⟨r0, r1, r2, r3, rf0, rf1, rf2, rf3⟩ := SR.out
    obtain ⟨s0, s1, s2, s3, _, _, _, _⟩ := SGG.out
    clear hown2 hg2 k0 m0
    by_cases h : sigCheck ([] : List Ty) true (0, []) = 0
    · have eR : Hid (makeR true [] = (([] : List Ty), true, (0, []))) := by unfold Hid; simp [makeR, eE, h, makeP, makeT]
      have eE2 : Hid (makeE true [] = 0) := by rw [Hid, eE, h]
      rw [h] at HC
      generalize stR ([] : List Ty) true (0, []) = tx at *
      replace HC := hid HC
      clear h eE
      go_wp2_with fail
      refine HC.out.mono ?_
      rintro e w3 ⟨rfl, ho3⟩
      clear r0 r1 r2 r3 rf0 rf1 rf2 rf3 s0 s1 s2 s3
      obtain ⟨r0, r1, r2, r3, rf0, rf1, rf2, rf3⟩ := SR.out.only ho3 (by simp)
      obtain ⟨s0, s1, s2, s3, _, _, _, _⟩ := SGG.out.only ho3 (by simp)
      go_wp2
      exact rmake_end (ps := ([] : List Ty)) (d := 0) (n := []) (SR.out.only ho3 (by simp)) (o2.out.next ho3 (by simp)) (own_only OW.out ho3 (by simp)) eR.out eE2.out _ rfl rfl rfl
    · have eR : Hid (makeR true [] = ([], false, (0, []))) := by unfold Hid; simp [makeR, eE, h]
      have eE2 : Hid (makeE true [] = sigCheck ([] : List Ty) true (0, [])) := by rw [Hid, eE]
      generalize stR ([] : List Ty) true (0, []) = tx at *
      generalize sigCheck ([] : List Ty) true (0, []) = c at *
      replace HC := hid HC
      clear eE
      go_wp2_with fail
      refine HC.out.mono ?_
      rintro e w3 ⟨rfl, ho3⟩
      clear r0 r1 r2 r3 rf0 rf1 rf2 rf3 s0 s1 s2 s3
      obtain ⟨r0, r1, r2, r3, rf0, rf1, rf2, rf3⟩ := SR.out.only ho3 (by simp)
      go_wp2
      exact rmake_end (ps := []) (d := 0) (n := []) (SR.out.only ho3 (by simp)) (o2.out.next ho3 (by simp)) (own_nil _ _) eR.out eE2.out _ rfl rfl rfl
  | some a =>
    go_enter Try.func35, Try.ntmps35
    go_wp2_with fail
    go_region_law (refine step_append_types (m := []) rfl (.tmp 27) (.tmp 30) rfl rfl rfl hO.out hT.out hn (by simp; omega) (by simp) ?_; intro ao2 cap2 w2 hown2 hg2; obtain ⟨k0, _, _, _, m0, _, _, _⟩ := sg.out.only (Only.of_grown hg2) (by simp [Value.ownBlock]))
    replace hown2 : Own w2 (w.heap.size + 2) (.slice ao2 l.length cap2) l := hown2
    obtain ⟨o2, SR, SGG, OW⟩ := rmake_row ho sr.out sg.out hown2 hg2
    have HC := rsigText_any (cap := cap2) (TS.of_owns OW).1 (by omega) hA true (0, []) (by simp)
    simp only [sigV] at HC

    replace o2 := hid o2
    replace SR := hid SR
    replace SGG := hid SGG
    replace OW := hid OW
    obtain ⟨r0, r1, r2, r3, rf0, rf1, rf2, rf3⟩ := SR.out
    obtain ⟨s0, s1, s2, s3, _, _, _, _⟩ := SGG.out
    clear hown2 hg2 k0 m0
    by_cases h : sigCheck l true (0, []) = 0
    · have eR : Hid (makeR true l = (l, true, (0, []))) := by unfold Hid; simp [makeR, eE, h, makeP, makeT]
      have eE2 : Hid (makeE true l = 0) := by rw [Hid, eE, h]
      rw [h] at HC
      generalize stR l true (0, []) = tx at *
      replace HC := hid HC
      clear h eE
      go_wp2_with fail
      refine HC.out.mono ?_
      rintro e w3 ⟨rfl, ho3⟩
      clear r0 r1 r2 r3 rf0 rf1 rf2 rf3 s0 s1 s2 s3
      obtain ⟨r0, r1, r2, r3, rf0, rf1, rf2, rf3⟩ := SR.out.only ho3 (by simp)
      obtain ⟨s0, s1, s2, s3, _, _, _, _⟩ := SGG.out.only ho3 (by simp)
      go_wp2
      exact rmake_end (ps := l) (d := 0) (n := []) (SR.out.only ho3 (by simp)) (o2.out.next ho3 (by simp)) (own_only OW.out ho3 (by simp)) eR.out eE2.out _ rfl rfl rfl
    · have eR : Hid (makeR true l = ([], false, (0, []))) := by unfold Hid; simp [makeR, eE, h]
      have eE2 : Hid (makeE true l = sigCheck l true (0, [])) := by rw [Hid, eE]
      generalize stR l true (0, []) = tx at *
      generalize sigCheck l true (0, []) = c at *
      replace HC := hid HC
      clear eE
      go_wp2_with fail
      refine HC.out.mono ?_
      rintro e w3 ⟨rfl, ho3⟩
      clear r0 r1 r2 r3 rf0 rf1 rf2 rf3 s0 s1 s2 s3
      obtain ⟨r0, r1, r2, r3, rf0, rf1, rf2, rf3⟩ := SR.out.only ho3 (by simp)
      go_wp2
      exact rmake_end (ps := []) (d := 0) (n := []) (SR.out.only ho3 (by simp)) (o2.out.next ho3 (by simp)) (own_nil _ _) eR.out eE2.out _ rfl rfl rfl

set_option maxHeartbeats 400000 in
set_option maxRecDepth 100000 in
theorem rmake_res {w : World} {ao : Option Addr} {l : List Ty} {cap d : Nat} (hb : TS w ao l d) (hl : l.length ≤ 100) (hc : l.length ≤ cap) (hn : ao = none → cap = 0) (hA : ∀ t ∈ l, t.2.length ≤ 9223372036854775807) :
    Calls Try.prog 35 #[.bool false, .slice ao l.length cap] w fun e w' => MakePost false l w e w' := by
  by_cases h0 : l = []
  · subst h0
    have eE : makeE false [] = 2 := by simp [makeE]
    have eR : makeR false [] = ([], false, (0, [])) := by simp [makeR, eE]
    obtain ⟨sr, sg⟩ := sig_new2 w (.slice none 0 0) false 0 []
    have ho := ((Only.refl [] w).alloc (.cells #[.slice none 0 0, .bool false, .int .i64 0, .string ⟨#[]⟩] 43)).alloc (.cells #[.slice none 0 0, .bool false, .int .i64 0, .string ⟨#[]⟩] 43)
    replace sr := hid sr
    replace eE := hid eE
    replace eR := hid eR
    simp only [List.length_nil]
    go_enter Try.func35, Try.ntmps35
    go_wp2
    exact bodyPost_ret (rmake_result sr.out _ rfl rfl) rfl ⟨none, 0, by rw [eR.out, eE.out]; rfl, by rw [eR.out]; exact own_nil _ _, ho⟩
  · obtain ⟨init, t, rfl⟩ : ∃ init t, l = init ++ [t] := ⟨l.dropLast, l.getLast h0, (List.dropLast_concat_getLast h0).symm⟩
    obtain ⟨d0, n0⟩ := t
    have hlen : (init ++ [(d0, n0)]).length = init.length + 1 := by simp
    have eP : makeP false (init ++ [(d0, n0)]) = init := by simp [makeP]
    have eE : makeE false (init ++ [(d0, n0)]) = sigCheck init false (d0, n0) := by simp [makeE, eP, makeT]
    have hb1 : TS w ao init d := by
      have := hb.take init.length
      simpa using this
    rcases hb with q | ⟨off, rfl, hcl⟩
    · exact absurd q h0
    obtain ⟨y0, y1⟩ := hcl init.length (by simp)
    simp only [List.getElem_append_right (Nat.le_refl _), Nat.sub_self, List.getElem_cons_zero] at y0 y1
    clear hcl h0
    have hA1 : ∀ t ∈ init, t.2.length ≤ 9223372036854775807 := fun t ht => hA t (by simp [ht])
    have hA2 : n0.length ≤ 9223372036854775807 := hA (d0, n0) (by simp)
    rw [hlen] at hl hc ⊢
    obtain ⟨sr, sg⟩ := sig_new2 w (.slice none 0 0) false d0 n0
    have ho := (((Only.refl [] w).alloc (.cells #[.slice none 0 0, .bool false, .int .i64 0, .string ⟨#[]⟩] 43)).alloc (.cells #[.slice none 0 0, .bool false, .int .i64 d0, .string (str n0)] 43)).drew
    replace sr := hid (sr.only (Only.refl [] _).drew (by simp))
    replace sg := hid (sg.only (Only.refl [] _).drew (by simp))
    have hO := hid (own_nil ((w.alloc (.cells #[.slice none 0 0, .bool false, .int .i64 0, .string ⟨#[]⟩] 43)).alloc (.cells #[.slice none 0 0, .bool false, .int .i64 d0, .string (str n0)] 43)).drew (w.heap.size + 2))
    have hT := hid (hb1.only ho (by simp))
    have z0 : ∀ o1 o2, ((w.alloc o1).alloc o2).cell? ⟨d, off + init.length * 2, none⟩ = some (.int .i64 d0) := fun o1 o2 => cell_alloc _ (cell_alloc _ y0)
    have z1 : ∀ o1 o2, ((w.alloc o1).alloc o2).cell? ⟨d, off + init.length * 2 + 1, none⟩ = some (.string (str n0)) := fun o1 o2 => cell_alloc _ (cell_alloc _ y1)
    clear hlen y0 y1 hA
    have hi1 : ((init.length + 1 : Nat) : Int) - 1 = (init.length : Int) := by omega
    have hc1 : init.length ≤ cap := by omega
    have hc2 : (init.length : Int) ≤ (cap : Int) := by omega
    go_enter Try.func35, Try.ntmps35
    go_wp2_with fail
    clear z0 z1
    go_region_law (refine step_append_types (m := []) rfl (.tmp 27) (.tmp 30) rfl rfl rfl hO.out hT.out hn (by simp; omega) (by simp) ?_; intro ao2 cap2 w2 hown2 hg2; obtain ⟨k0, _, _, _, m0, _, _, _⟩ := sg.out.only (Only.of_grown hg2) (by simp [Value.ownBlock]))
    replace hown2 : Own w2 (w.heap.size + 2) (.slice ao2 init.length cap2) init := hown2
    obtain ⟨o2, SR, SGG, OW⟩ := rmake_row ho sr.out sg.out hown2 hg2
    have HC := rsigText_any (cap := cap2) (TS.of_owns OW).1 (by omega) hA1 false (d0, n0) hA2
    simp only [sigV] at HC

    replace o2 := hid o2
    replace SR := hid SR
    replace SGG := hid SGG
    replace OW := hid OW
    obtain ⟨r0, r1, r2, r3, rf0, rf1, rf2, rf3⟩ := SR.out
    obtain ⟨s0, s1, s2, s3, _, _, _, _⟩ := SGG.out
    clear hown2 hg2 k0 m0
    by_cases h : sigCheck init false (d0, n0) = 0
    · have eR : Hid (makeR false (init ++ [(d0, n0)]) = (init, false, (d0, n0))) := by unfold Hid; simp [makeR, eE, h, eP, makeT]
      have eE2 : Hid (makeE false (init ++ [(d0, n0)]) = 0) := by rw [Hid, eE, h]
      rw [h] at HC
      generalize stR init false (d0, n0) = tx at *
      replace HC := hid HC
      clear h eE
      go_wp2_with fail
      refine HC.out.mono ?_
      rintro e w3 ⟨rfl, ho3⟩
      clear r0 r1 r2 r3 rf0 rf1 rf2 rf3 s0 s1 s2 s3
      obtain ⟨r0, r1, r2, r3, rf0, rf1, rf2, rf3⟩ := SR.out.only ho3 (by simp)
      obtain ⟨s0, s1, s2, s3, _, _, _, _⟩ := SGG.out.only ho3 (by simp)
      go_wp2
      exact rmake_end (ps := init) (d := d0) (n := n0) (SR.out.only ho3 (by simp)) (o2.out.next ho3 (by simp)) (own_only OW.out ho3 (by simp)) eR.out eE2.out _ rfl rfl rfl
    · have eR : Hid (makeR false (init ++ [(d0, n0)]) = ([], false, (0, []))) := by unfold Hid; simp [makeR, eE, h]
      have eE2 : Hid (makeE false (init ++ [(d0, n0)]) = sigCheck init false (d0, n0)) := by rw [Hid, eE]
      generalize stR init false (d0, n0) = tx at *
      generalize sigCheck init false (d0, n0) = c at *
      replace HC := hid HC
      clear eE
      go_wp2_with fail
      refine HC.out.mono ?_
      rintro e w3 ⟨rfl, ho3⟩
      clear r0 r1 r2 r3 rf0 rf1 rf2 rf3 s0 s1 s2 s3
      obtain ⟨r0, r1, r2, r3, rf0, rf1, rf2, rf3⟩ := SR.out.only ho3 (by simp)
      go_wp2
      exact rmake_end (ps := []) (d := 0) (n := []) (SR.out.only ho3 (by simp)) (o2.out.next ho3 (by simp)) (own_nil _ _) eR.out eE2.out _ rfl rfl rfl

theorem rmake_any {w : World} {ao : Option Addr} {l : List Ty} {cap d : Nat} (hb : TS w ao l d) (hl : l.length ≤ 100) (hc : l.length ≤ cap) (hn : ao = none → cap = 0) (hA : ∀ t ∈ l, t.2.length ≤ 9223372036854775807) (void : Bool) :
    Calls Try.prog 35 #[.bool void, .slice ao l.length cap] w fun e w' => MakePost void l w e w' := by
  cases void with
  | true => exact rmake_void hb hl hc hn hA
  | false => exact rmake_res hb hl hc hn hA

end Go.Proofs.Ytfpdgfgbonbpjaa
