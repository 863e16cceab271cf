/-
  The contracts of Check and right. No conditions.
-/
import Derived.Test.YtcdjddakdlflmabPWrong
import Derived.Test.YtcdjddakdlflmabPLaws
namespace Go.Proofs.Ytcdjddakdlflmab
open Go.RowKit

set_option maxHeartbeats 400000 in
set_option maxRecDepth 100000 in
theorem pcheck_any {w : World} {ao : Option Addr} {l : List En} {d cap : Nat} (hE : ES w ao l d) (hl : l.length ≤ 9223372036854775807) (hA : ∀ e ∈ l, e.2.1.length ≤ 9223372036854775807) :
    Calls Try.prog 9 #[.slice ao l.length cap] w fun r w' => r = .returned (.tuple #[.int .i64 (checkE l).1, .int .i64 (checkE l).2]) ∧ Only [] w w' := by
  have hx : ∃ x, x = checkE l := ⟨_, rfl⟩
  obtain ⟨x, hx⟩ := hx
  rw [← hx]
  by_cases h : 4096 < l.length
  · have g1 : (4096 < (l.length : Int)) := by omega
    have e1 : x = (4096, 4) := by rw [hx]; simp [checkE, h]
    subst e1
    clear hx h
    go_enter Try.func9, Try.ntmps9
    go_wp2
    go_ret2
    exact ⟨rfl, Only.refl _ _⟩
  · have g1 : ¬ (4096 < (l.length : Int)) := by omega
    have e1 : x = firstWrong l l 0 := by rw [hx]; simp [checkE, h]
    clear hx
    replace e1 := hid e1
    go_enter Try.func9, Try.ntmps9
    go_wp2
    go_loopw [11] (fun i wr => ∃ k : Nat, k ≤ l.length ∧ i = .int .i64 (k : Int) ∧ (∀ j (hj : j < l.length), j < k → wrongE l l[j] = 0) ∧ Only [] w wr) (fun i _ => l.length - (intOf i).toNat)
    case atStart => exact ⟨0, by omega, rfl, fun j _ h => by omega, Only.refl _ _⟩
    case round =>
      obtain ⟨k, hk, rfl, hok, hor⟩ := hrel
      by_cases hlt : k < l.length
      · have g2 : ((k : Int) < (l.length : Int)) := by omega
        have HW := wrong_any (cap := cap) (hE.only hor (by simp)) hl hA k hlt
        by_cases hz : wrongE l l[k] = 0
        · rw [hz] at HW
          have hnx : ∀ j (hj : j < l.length), j < k + 1 → wrongE l l[j] = 0 := by
            intro j hj hjk
            by_cases e : j = k
            · subst e
              exact hz
            · exact hok j hj (by omega)
          clear hok hz
          replace hnx := hid hnx
          replace HW := hid HW
          go_wp2_with (go_at_call 20; refine HW.out.mono ?_; rintro e w2 ⟨rfl, ho2⟩)
          exact ⟨⟨k + 1, by omega, by go_num, hnx.out, hor.next ho2 (by simp)⟩, by simp [intOf]; omega⟩
        · have hat := firstWrong_at (l := l) (r := l) (i := 0) hlt (fun j hj => hok j (by omega) hj) hz
          rw [← e1.out] at hat
          generalize wrongE l l[k] = c at *
          have g3 : (c == 0) = false := by simpa using hz
          replace hat := hid hat
          clear hok hz
          replace HW := hid HW
          go_wp2_with (go_at_call 20; refine HW.out.mono ?_; rintro e w2 ⟨rfl, ho2⟩)
          go_ret2
          exact ⟨by rw [hat.out]; simp, hor.next ho2 (by simp)⟩
      · have g2 : ¬ ((k : Int) < (l.length : Int)) := by omega
        obtain rfl : k = l.length := by omega
        have hall := firstWrong_ok (l := l) (r := l) (i := 0) fun e he => by
          obtain ⟨j, hj, rfl⟩ := List.getElem_of_mem he
          exact hok j hj hj
        rw [← e1.out] at hall
        clear hok
        replace hall := hid hall
        go_wp2
        go_ret2
        exact ⟨by rw [hall.out]; rfl, hor⟩

/-- An entry of one's own in a block. -/
structure EnW (w : World) (b : Nat) (e : En) : Prop where
  c : EnAt w b 0 e
  f : ∀ i, i < 6 → w.frozen? ⟨b, i, none⟩ = false

theorem enW_new (w : World) (e : En) (t : TypeId) : EnW (w.alloc (.cells #[.int .i64 e.1, .string (str e.2.1), .int .i64 e.2.2.1, .int .i64 e.2.2.2.1, .int .i64 e.2.2.2.2.1, .int .i64 e.2.2.2.2.2] t)) w.heap.size e :=
  ⟨enAt_new w e t, fun _ _ => frozen_new _ _ _ _⟩

theorem EnW.only {w w' : World} {S : List Nat} {b : Nat} {e : En} (h : EnW w b e) (ho : Only S w w') (hb : b ∉ S) : EnW w' b e :=
  ⟨h.c.only ho hb, fun i hi => by rw [ho.frozen h.c.lt hb]; exact h.f i hi⟩

theorem right_result {w : World} {b : Nat} {e : En} {x : Value} (h : EnAt w b 0 e) (tmps : Array Value) (h2 : tmps.getD 6 undef = .pointer (some ⟨b, 0, none⟩)) (h3 : tmps.getD 7 undef = x) :
    (results Try.f44 tmps).run Try.prog w = .ok (.tuple #[enV e, x]) w := by
  obtain ⟨c0, c1, c2, c3, c4, c5⟩ := h
  simp only [Nat.zero_add] at c0 c1 c2 c3 c4 c5
  rw [results_cell_tmp (p := 6) (u := 7) (ty := 43) Try.results44, h2, h3]
  simp [go_sem, c0, c1, c2, c3, c4, c5, enV]

set_option maxHeartbeats 400000 in
set_option maxRecDepth 100000 in
theorem right_any {w : World} {ao : Option Addr} {l : List En} {d cap : Nat} (hE : ES w ao l d) (hl : l.length ≤ 9223372036854775807) (hA : ∀ e ∈ l, e.2.1.length ≤ 9223372036854775807) (i kind : Int) :
    Calls Try.prog 44 #[.slice ao l.length cap, .int .i64 i, .int .i64 kind] w fun r w' => r = .returned (.tuple #[enV (rightE l i kind).1, .int .i64 (rightE l i kind).2]) ∧ Only [] w w' := by
  have o0 := (Only.refl [] w).alloc (.cells #[.int .i64 0, .string ⟨#[]⟩, .int .i64 0, .int .i64 0, .int .i64 0, .int .i64 0] 43)
  have HH := has_any' (cap := cap) (hE.only o0 (by simp)) hl i kind
  have E0 := enW_new w en0 43
  simp only [en0] at E0
  cases h : hasE l i kind with
  | false =>
    have e1 : rightE l i kind = (en0, 16) := by
      unfold rightE
      unfold hasE at h
      cases he : enAt l i with
      | none => rfl
      | some e =>
        rw [he] at h
        simp at h
        simp [h]
    rw [e1]
    rw [h] at HH
    simp only [enV, en0]
    clear h e1 hE
    replace HH := hid HH
    replace E0 := hid E0
    go_enter Try.func44, Try.ntmps44
    go_wp2_with (go_at_call 54; refine HH.out.mono ?_; rintro e w' ⟨rfl, rfl⟩)
    exact bodyPost_ret (right_result E0.out.c _ rfl rfl) rfl ⟨rfl, o0⟩
  | true =>
    obtain ⟨e, he, hk⟩ := hasE_kind h
    obtain ⟨j, hj, rfl, rfl⟩ := enAt_some he
    have e1 : rightE l (j : Int) kind = if wrongE l l[j] = 0 then (l[j], 0) else (en0, wrongE l l[j]) := by
      unfold rightE
      rw [he]
      simp only [hk, if_true]
    rw [e1]
    rw [h] at HH
    clear e1 h hk he
    have HW := wrong_any (cap := cap) (hE.only o0 (by simp)) hl hA j hj
    have hJ := fun W (hW : Only [] w W) => (hE.only hW (by simp)).at hj
    have g2 : ((j : Int) < (l.length : Int)) := by omega
    generalize wrongE l l[j] = c at *
    generalize l[j] = e at *
    clear hE
    obtain ⟨k, t, n, a, b, z⟩ := e
    replace HH := hid HH
    replace E0 := hid E0
    replace HW := hid HW
    replace hJ := hid hJ
    by_cases hc : c = 0
    · subst hc
      simp only [if_true, enV]
      go_enter Try.func44, Try.ntmps44
      go_wp2_with (first | (go_at_call 54; refine HH.out.mono ?_; rintro e w' ⟨rfl, rfl⟩) | fail)
      refine HW.out.mono ?_
      rintro e w1 ⟨rfl, ho1⟩
      have o1 := o0.next ho1 (by simp)
      obtain ⟨off, rfl, y0, y1, y2, y3, y4, y5⟩ := hJ.out w1 o1
      have E1 := E0.out.only ho1 (by simp)
      have f0 := E1.f 0 (by omega)
      have f1 := E1.f 1 (by omega)
      have f2 := E1.f 2 (by omega)
      have f3 := E1.f 3 (by omega)
      have f4 := E1.f 4 (by omega)
      have f5 := E1.f 5 (by omega)
      obtain ⟨⟨e0, e1, e2, e3, e4, e5⟩, _⟩ := E1
      simp only [Nat.zero_add] at e0 e1 e2 e3 e4 e5
      have K1 := hid (E0.out.only ho1 (by simp))
      go_wp2
      exact bodyPost_ret (right_result (K1.out.c.put (k, t, n, a, b, z)) _ rfl rfl) rfl ⟨rfl, put6_only o1 (.inr (by simp)) _ _ _ _ _ _⟩
    · have g3 : (c == 0) = false := by simpa using hc
      simp only [hc, if_false, enV, en0]
      clear hc
      go_enter Try.func44, Try.ntmps44
      go_wp2_with (first | (go_at_call 54; refine HH.out.mono ?_; rintro e w' ⟨rfl, rfl⟩) | fail)
      refine HW.out.mono ?_
      rintro e w1 ⟨rfl, ho1⟩
      have o1 := o0.next ho1 (by simp)
      have E1 := E0.out.only ho1 (by simp)
      have f0 := E1.f 0 (by omega)
      have f1 := E1.f 1 (by omega)
      have f2 := E1.f 2 (by omega)
      have f3 := E1.f 3 (by omega)
      have f4 := E1.f 4 (by omega)
      have f5 := E1.f 5 (by omega)
      obtain ⟨⟨e0, e1, e2, e3, e4, e5⟩, _⟩ := E1
      simp only [Nat.zero_add] at e0 e1 e2 e3 e4 e5
      have K1 := hid (E0.out.only ho1 (by simp))
      go_wp2
      exact bodyPost_ret (right_result (K1.out.c.put (0, [], 0, 0, 0, 0)) _ rfl rfl) rfl ⟨rfl, put6_only o1 (.inr (by simp)) _ _ _ _ _ _⟩

end Go.Proofs.Ytcdjddakdlflmab
