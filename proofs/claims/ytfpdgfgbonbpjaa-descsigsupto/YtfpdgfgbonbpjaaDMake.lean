/-
  The contracts of slices.Clone at rows of types, of twin and of Make. What is copied is at most a million types.
-/
import Derived.Test.YtfpdgfgbonbpjaaDApp
import Derived.Test.YtfpdgfgbonbpjaaDEqual
namespace Go.Proofs.Ytfpdgfgbonbpjaa
open Go.RowKit

theorem eql_nilT (ao : Option Addr) (n c : Nat) (w : World) : (binOp .eql 41 (.slice ao n c) (.slice none 0 0)).run Try.prog w = .ok (.bool ao.isNone) w := Lib.run_eql_slice_nil w 41 23 ao n c 0 0 Try.underlying41

theorem own_made (w : World) : Own (w.alloc (.cells #[] 23)) w.heap.size (.slice (some ⟨w.heap.size, 0, none⟩) ([] : List Ty).length 0) [] := World.ownsRow_made w #[] 0 (Nat.le_refl _) (by decide) rfl

set_option maxHeartbeats 400000 in
theorem clone_any {w : World} {ao : Option Addr} {l : List Ty} {cap d : Nat} (hb : TS w ao l d) (hn : ao = none → cap = 0) (hsz : l.length ≤ 1000000) :
    Calls Try.prog 48 #[.slice ao l.length cap] w fun e w' => ∃ ao' cap', e = .returned (.slice ao' l.length cap') ∧ Own w' w.heap.size (.slice ao' l.length cap') l ∧ Only [] w w' := by
  cases ao with
  | none =>
    have := hb.none_nil
    subst this
    have := hn rfl
    subst this
    have k0 := eql_nilT none 0 0
    go_enter Try.func48, Try.ntmps48
    go_wp2
    go_ret
    exact ⟨none, 0, rfl, World.ownsRow_nil _ _ _ _, Only.refl _ _⟩
  | some a =>
    have k0 := eql_nilT (some a) l.length cap
    go_enter Try.func48, Try.ntmps48
    go_wp2_with (at_builtin; refine wpList_append_types rfl (.tmp 5) (.tmp 6) rfl rfl rfl (own_made w) (hb.only ((Only.refl [] w).alloc _) (by simp)) (by simp) (by simp; omega) (by simp) ?_)
    intro ao' cap' w' hown hgrow _ _
    go_wp2
    go_ret
    exact ⟨ao', cap', rfl, hown, ((Only.refl [] w).alloc _).trans (Only.of_grown hgrow) (by simp [Value.ownBlock])⟩

/-- What Make makes. -/
def makeP (void : Bool) (l : List Ty) : List Ty := if void = true then l else l.dropLast
def makeT (void : Bool) (l : List Ty) : Ty := if void = true then (0, []) else l.getLastD (0, [])
def makeE (void : Bool) (l : List Ty) : Int := if void = false ∧ l = [] then 2 else sigCheck (makeP void l) void (makeT void l)
def makeR (void : Bool) (l : List Ty) : List Ty × Bool × Ty := if makeE void l = 0 then (makeP void l, void, makeT void l) else ([], false, (0, []))

theorem make_result {w : World} {b : Nat} {v x : Value} {void : Bool} {t : Ty} (h : SigAt w b v void t) (tmps : Array Value) (h2 : tmps.getD 4 undef = .pointer (some ⟨b, 0, none⟩)) (h3 : tmps.getD 5 undef = x) :
    (results Try.f34 tmps).run Try.prog w = .ok (.tuple #[sigV v void t, x]) w := by
  obtain ⟨c0, c1, c2, c3, _, _, _, _⟩ := h
  rw [results_cell_tmp (p := 4) (u := 5) (ty := 43) Try.results34, h2, h3]
  simp [go_sem, c0, c1, c2, c3, sigV]

theorem sig_new (w : World) (v : Value) (void : Bool) (d : Int) (n : List UInt8) : SigAt (w.alloc (.cells #[v, .bool void, .int .i64 d, .string (str n)] 43)) w.heap.size v void (d, n) :=
  ⟨by rw [cell_new]; rfl, by rw [cell_new]; rfl, by rw [cell_new]; rfl, by rw [cell_new]; rfl, frozen_new _ _ _ _, frozen_new _ _ _ _, frozen_new _ _ _ _, frozen_new _ _ _ _⟩

/-- Two signatures made. -/
theorem sig_new2 (w : World) (v : Value) (void : Bool) (d : Int) (n : List UInt8) :
    SigAt ((w.alloc (.cells #[.slice none 0 0, .bool false, .int .i64 0, .string ⟨#[]⟩] 43)).alloc (.cells #[v, .bool void, .int .i64 d, .string (str n)] 43)) w.heap.size (.slice none 0 0) false (0, []) ∧
    SigAt ((w.alloc (.cells #[.slice none 0 0, .bool false, .int .i64 0, .string ⟨#[]⟩] 43)).alloc (.cells #[v, .bool void, .int .i64 d, .string (str n)] 43)) (w.heap.size + 1) v void (d, n) := by
  have s1 := sig_new w (.slice none 0 0) false 0 []
  have s2 := sig_new (w.alloc (.cells #[.slice none 0 0, .bool false, .int .i64 0, .string ⟨#[]⟩] 43)) v void d n
  rw [World.size_alloc] at s2
  exact ⟨s1.only ((Only.refl [] _).alloc _) (by simp), s2⟩

/-- Make, once the signature lies in memory. -/
theorem make_tail {w w2 : World} {ao' : Option Addr} {cap' : Nat} {l : List Ty} (hown : Own w2 (w.heap.size + 2) (.slice ao' l.length cap') l) (ho : Only [] w w2) (v : Value) (void : Bool) (d : Int) (n : List UInt8) :
    Own (((((w2.setCell ⟨w.heap.size + 1, 0, none⟩ (.slice ao' l.length cap')).setCell ⟨w.heap.size, 0, none⟩ v).setCell ⟨w.heap.size, 1, none⟩ (.bool void)).setCell ⟨w.heap.size, 2, none⟩ (.int .i64 d)).setCell ⟨w.heap.size, 3, none⟩ (.string (str n))) w.heap.size (.slice ao' l.length cap') l ∧
    Only [] w (((((w2.setCell ⟨w.heap.size + 1, 0, none⟩ (.slice ao' l.length cap')).setCell ⟨w.heap.size, 0, none⟩ v).setCell ⟨w.heap.size, 1, none⟩ (.bool void)).setCell ⟨w.heap.size, 2, none⟩ (.int .i64 d)).setCell ⟨w.heap.size, 3, none⟩ (.string (str n))) := by
  refine ⟨own_mono (own_set (own_set (own_set (own_set (own_set hown _ (by simp) _) _ (by simp) _) _ (by simp) _) _ (by simp) _) _ (by simp) _) (by omega), ?_⟩
  exact ((((ho.setCell (.inr (by simp)) _).setCell (.inr (by simp)) _).setCell (.inr (by simp)) _).setCell (.inr (by simp)) _).setCell (.inr (by simp)) _

/-- Make, where something is wrong. -/
theorem make_wrong {w w2 : World} {v : Value} {void : Bool} {t : Ty} {tmps : Array Value} {c : Int} (sr : SigAt w2 w.heap.size v void t) (ho : Only [] w w2) (a : Act) (ha : a.tmps = tmps) (hd : a.defers = []) (h4 : tmps.getD 4 undef = .pointer (some ⟨w.heap.size, 0, none⟩)) (h5 : tmps.getD 5 undef = .int .i64 c) :
    bodyPost Try.prog Try.f34 (fun e w' => ∃ ao' cap', e = .returned (.tuple #[.agg #[.slice ao' ([] : List Ty).length cap', .bool false, .int .i64 0, .string (str [])], .int .i64 c]) ∧ Own w' w.heap.size (.slice ao' ([] : List Ty).length cap') [] ∧ Only [] w w') Exit.ret a
      ((((w2.setCell ⟨w.heap.size, 0, none⟩ (.slice none 0 0)).setCell ⟨w.heap.size, 1, none⟩ (.bool false)).setCell ⟨w.heap.size, 2, none⟩ (.int .i64 0)).setCell ⟨w.heap.size, 3, none⟩ (.string (str []))) := by
  subst ha
  refine bodyPost_ret (make_result ((((sr.put0 (.slice none 0 0)).put1 false).put2 0).put3 []) _ h4 h5) hd ⟨none, 0, rfl, own_nil _ _, ?_⟩
  exact (((ho.setCell (.inr (by simp)) _).setCell (.inr (by simp)) _).setCell (.inr (by simp)) _).setCell (.inr (by simp)) _

set_option maxHeartbeats 400000 in
set_option maxRecDepth 100000 in
theorem make_any {w : World} {ao : Option Addr} {l : List Ty} {cap d : Nat} (hb : TS w ao l d) (hl : l.length ≤ 9223372036854775807) (hc : l.length ≤ cap) (hn : ao = none → cap = 0) (hA : ∀ t ∈ l, t.2.length ≤ 9223372036854775807) (void : Bool) :
    Calls Try.prog 34 #[.bool void, .slice ao l.length cap] w fun e w' => ∃ ao' cap', e = .returned (.tuple #[sigV (.slice ao' (makeR void l).1.length cap') (makeR void l).2.1 (makeR void l).2.2, .int .i64 (makeE void l)]) ∧ Own w' w.heap.size (.slice ao' (makeR void l).1.length cap') (makeR void l).1 ∧ Only [] w w' := by
  cases void with
  | true =>
    have ho := ((Only.refl [] w).alloc (.cells #[.slice none 0 0, .bool false, .int .i64 0, .string ⟨#[]⟩] 43)).alloc (.cells #[.slice ao l.length cap, .bool true, .int .i64 0, .string ⟨#[]⟩] 43)
    have HC := checkSig_any (cap := cap) (hb.only ho (by simp)) hl hA true (0, []) (by simp)
    have eE : makeE true l = sigCheck l true (0, []) := by simp [makeE, makeP, makeT]
    obtain ⟨sr, sg⟩ := sig_new2 w (.slice ao l.length cap) true 0 []
    by_cases h : sigCheck l true (0, []) = 0
    · have eR : makeR true l = (l, true, (0, [])) := by simp [makeR, eE, h, makeP, makeT]
      obtain ⟨h1, _⟩ := sigCheck_ok h
      rw [eE, eR, h]
      rw [h] at HC
      simp only [sigV] at HC ⊢
      replace HC := hid HC
      clear h eE eR
      replace sr := hid sr
      replace sg := hid sg
      go_enter Try.func34, Try.ntmps34
      go_wp2_with fail
      refine HC.out.mono ?_
      rintro e w1 ⟨rfl, ho1⟩
      have o1 := ho.next ho1 (by simp)
      have c0 := (sg.out.only ho1 (by simp)).c0
      have hz1 := ho1.size
      have HK := hid (clone_any (cap := cap) (hb.only o1 (by simp)) hn (by omega))
      go_wp2_with fail
      refine HK.out.mono ?_
      rintro e w2 ⟨ao', cap', rfl, hown, ho2⟩
      have o2 := o1.next ho2 (by simp)
      have sr := hid ((sr.out.only ho1 (by simp)).only ho2 (by simp))
      have sg := hid ((sg.out.only ho1 (by simp)).only ho2 (by simp))
      obtain ⟨c0, c1, c2, c3, f0, f1, f2, f3⟩ := sg.out
      obtain ⟨b0, b1, b2, b3, g0, g1, g2, g3⟩ := sr.out
      replace hown := hid (own_mono hown (C := w.heap.size + 2) (by simp at hz1; exact hz1))
      go_wp2
      obtain ⟨q1, q2⟩ := make_tail hown.out o2 (.slice ao' l.length cap') true 0 []
      refine bodyPost_ret (make_result (((((sr.out.only ((Only.refl [w.heap.size + 1] w2).setCell (.inl (by simp)) _) (by simp)).put0 (.slice ao' l.length cap')).put1 true).put2 0).put3 []) _ rfl rfl) rfl ⟨ao', cap', rfl, q1, q2⟩
    · have eR : makeR true l = ([], false, (0, [])) := by simp [makeR, eE, h]
      rw [eE, eR]
      simp only [sigV] at HC ⊢
      generalize sigCheck l true (0, []) = c at *
      replace HC := hid HC
      clear eE eR
      replace sr := hid sr
      replace sg := hid sg
      go_enter Try.func34, Try.ntmps34
      go_wp2_with fail
      refine HC.out.mono ?_
      rintro e w1 ⟨rfl, ho1⟩
      have o1 := ho.next ho1 (by simp)
      have sr := hid (sr.out.only ho1 (by simp))
      obtain ⟨b0, b1, b2, b3, g0, g1, g2, g3⟩ := sr.out
      go_wp2
      exact make_wrong sr.out o1 _ rfl rfl rfl rfl
  | false =>
    by_cases h0 : l = []
    · subst h0
      have eE : makeE false [] = 2 := by simp [makeE]
      have eR : makeR false [] = ([], false, (0, [])) := by simp [makeR, eE]
      rw [eE, eR]
      simp only [sigV, List.length_nil]
      obtain ⟨sr, sg⟩ := sig_new2 w (.slice ao 0 cap) false 0 []
      have ho := ((Only.refl [] w).alloc (.cells #[.slice none 0 0, .bool false, .int .i64 0, .string ⟨#[]⟩] 43)).alloc (.cells #[.slice ao 0 cap, .bool false, .int .i64 0, .string ⟨#[]⟩] 43)
      replace sr := hid sr
      replace sg := hid sg
      clear eE eR
      go_enter Try.func34, Try.ntmps34
      go_wp2
      exact bodyPost_ret (make_result sr.out _ rfl rfl) rfl ⟨none, 0, rfl, own_nil _ _, ho⟩
    · obtain ⟨init, t, rfl⟩ : ∃ init t, l = init ++ [t] := ⟨l.dropLast, l.getLast h0, (List.dropLast_concat_getLast h0).symm⟩
      obtain ⟨d0, n0⟩ := t
      have hlen : (init ++ [(d0, n0)]).length = init.length + 1 := by simp
      have eP : makeP false (init ++ [(d0, n0)]) = init := by simp [makeP]
      have eT : makeT false (init ++ [(d0, n0)]) = (d0, n0) := by simp [makeT]
      have eE : makeE false (init ++ [(d0, n0)]) = sigCheck init false (d0, n0) := by simp [makeE, eP, eT]
      have hb1 : TS w ao init d := by
        have := hb.take init.length
        simpa using this
      rcases hb with q | ⟨off, rfl, hcl⟩
      · exact absurd q h0
      obtain ⟨y0, y1⟩ := hcl init.length (by simp)
      simp only [List.getElem_append_right (Nat.le_refl _), Nat.sub_self, List.getElem_cons_zero] at y0 y1
      clear hcl h0
      have hA1 : ∀ t ∈ init, t.2.length ≤ 9223372036854775807 := fun t ht => hA t (by simp [ht])
      have hA2 : n0.length ≤ 9223372036854775807 := hA (d0, n0) (by simp)
      rw [hlen] at hl hc ⊢
      obtain ⟨sr, sg⟩ := sig_new2 w (.slice (some ⟨d, off, none⟩) init.length cap) false d0 n0
      have ho := (((Only.refl [] w).alloc (.cells #[.slice none 0 0, .bool false, .int .i64 0, .string ⟨#[]⟩] 43)).alloc (.cells #[.slice (some ⟨d, off, none⟩) init.length cap, .bool false, .int .i64 d0, .string (str n0)] 43)).drew
      replace sr := hid (sr.only (Only.refl [] _).drew (by simp))
      replace sg := hid (sg.only (Only.refl [] _).drew (by simp))
      have z0 : ∀ o1 o2, ((w.alloc o1).alloc o2).cell? ⟨d, off + init.length * 2, none⟩ = some (.int .i64 d0) := fun o1 o2 => cell_alloc _ (cell_alloc _ y0)
      have z1 : ∀ o1 o2, ((w.alloc o1).alloc o2).cell? ⟨d, off + init.length * 2 + 1, none⟩ = some (.string (str n0)) := fun o1 o2 => cell_alloc _ (cell_alloc _ y1)
      have HC := checkSig_any (cap := cap) (hb1.only ho (by simp)) (by omega) hA1 false (d0, n0) hA2
      clear eT hlen y0 y1 hA
      have hi1 : ((init.length + 1 : Nat) : Int) - 1 = (init.length : Int) := by omega
      by_cases h : sigCheck init false (d0, n0) = 0
      · have eR : makeR false (init ++ [(d0, n0)]) = (init, false, (d0, n0)) := by simp [makeR, eE, h, eP, makeT]
        obtain ⟨h1, _⟩ := sigCheck_ok h
        rw [eE, eR, h]
        rw [h] at HC
        simp only [sigV] at HC ⊢
        replace HC := hid HC
        clear h eE eR eP
        go_enter Try.func34, Try.ntmps34
        go_wp2_with fail
        go_region
        go_wp2_with fail
        refine HC.out.mono ?_
        rintro e w1 ⟨rfl, ho1⟩
        clear z0 z1
        have o1 := ho.next ho1 (by simp)
        have c0 := (sg.out.only ho1 (by simp)).c0
        have hz1 := ho1.size
        have HK := hid (clone_any (cap := cap) (hb1.only o1 (by simp)) (by simp) (by omega))
        go_wp2_with fail
        refine HK.out.mono ?_
        rintro e w2 ⟨ao', cap', rfl, hown, ho2⟩
        have o2 := o1.next ho2 (by simp)
        have sr := hid ((sr.out.only ho1 (by simp)).only ho2 (by simp))
        have sg := hid ((sg.out.only ho1 (by simp)).only ho2 (by simp))
        obtain ⟨c0, c1, c2, c3, f0, f1, f2, f3⟩ := sg.out
        obtain ⟨b0, b1, b2, b3, g0, g1, g2, g3⟩ := sr.out
        replace hown := hid (own_mono hown (C := w.heap.size + 2) (by simp at hz1; exact hz1))
        go_wp2
        obtain ⟨q1, q2⟩ := make_tail hown.out o2 (.slice ao' init.length cap') false d0 n0
        refine bodyPost_ret (make_result (((((sr.out.only ((Only.refl [w.heap.size + 1] w2).setCell (.inl (by simp)) _) (by simp)).put0 (.slice ao' init.length cap')).put1 false).put2 d0).put3 n0) _ rfl rfl) rfl ⟨ao', cap', rfl, q1, q2⟩
      · have eR : makeR false (init ++ [(d0, n0)]) = ([], false, (0, [])) := by simp [makeR, eE, h]
        rw [eE, eR]
        simp only [sigV] at HC ⊢
        generalize sigCheck init false (d0, n0) = c at *
        replace HC := hid HC
        clear eE eR eP
        go_enter Try.func34, Try.ntmps34
        go_wp2_with fail
        go_region
        go_wp2_with fail
        refine HC.out.mono ?_
        rintro e w1 ⟨rfl, ho1⟩
        clear z0 z1
        have o1 := ho.next ho1 (by simp)
        have sr := hid (sr.out.only ho1 (by simp))
        obtain ⟨b0, b1, b2, b3, g0, g1, g2, g3⟩ := sr.out
        go_wp2
        exact make_wrong sr.out o1 _ rfl rfl rfl rfl

end Go.Proofs.Ytfpdgfgbonbpjaa
