/-
  What the proof leans on, part 4 of 23. The conditions stand in each theorem.
-/
import Derived.Test.YtildemmkhndhjaaGreatDoorB02
import Derived.Test.YtildemmkhndhjaaGreatDoorB03
import Derived.Deep.RegionHeld3
namespace Go.Proofs.YtildemmkhndhjaaGreatDoor

/-- The entry of a number. -/
def enAt (l : List En) (i : Int) : Option En := if 0 ≤ i then l[i.toNat]? else none
def hasE (l : List En) (i kind : Int) : Bool := match enAt l i with
  | some e => decide (e.1 = kind)
  | none => false
/-- The text of a number. -/
def textAt (l : List En) (i : Int) : Option (List UInt8) := match enAt l i with
  | some e => if e.1 = 1 then some e.2.1 else none
  | none => none
/-- An entry without what its kind does not use. -/
def usedE (e : En) : En := if e.1 = 1 then (1, e.2.1, 0, 0, 0, 0) else if e.1 = 2 then (2, [], e.2.2.1, 0, 0, 0) else if e.1 = 3 ∨ e.1 = 4 then (e.1, [], 0, e.2.2.2.1, 0, 0) else (e.1, [], 0, e.2.2.2.1, e.2.2.2.2.1, e.2.2.2.2.2)
def longE (s : List UInt8) : Int := if 255 < s.length then 5 else 0
def wClass (l : List En) (i : Int) : Int := if hasE l i 3 = true then 0 else 16
/-- What is wrong with the text of a number. -/
def wText (l : List En) (i : Int) (f : List UInt8 → Int) : Int := match textAt l i with
  | some s => f s
  | none => 16
def fName (s : List UInt8) : Int := if nameOK s = true then 0 else 14
def fMethod (s : List UInt8) : Int := if methodOK s = true then 0 else 14
def fType (s : List UInt8) : Int := (typeR s).2
def fSig (s : List UInt8) : Int := (sigR s).2
def or3 (x y z : Int) : Int := if x = 0 then (if y = 0 then z else y) else x
/-- What is wrong with an entry. -/
def wrongE (l : List En) (e : En) : Int :=
  if e.1 < 1 ∨ 6 < e.1 then 3 else if e ≠ usedE e then 1 else
  if e.1 = 1 then longE e.2.1 else if e.1 = 2 then 0 else
  if e.1 = 3 then wText l e.2.2.2.1 fName else
  if e.1 = 4 then wText l e.2.2.2.1 fType else
  if e.1 = 5 then or3 (wClass l e.2.2.2.1) (wText l e.2.2.2.2.1 fName) (wText l e.2.2.2.2.2 fType) else
  or3 (wClass l e.2.2.2.1) (wText l e.2.2.2.2.1 fMethod) (wText l e.2.2.2.2.2 fSig)
/-- The first that is wrong. -/
def firstWrong (l : List En) : List En → Nat → Int × Int
  | [], _ => (0, 0)
  | e :: r, i => if wrongE l e = 0 then firstWrong l r (i + 1) else ((i : Int), wrongE l e)
def checkE (l : List En) : Int × Int := if 4096 < l.length then (4096, 4) else firstWrong l l 0
/-- The entry of that number and kind, if it is right. -/
def rightE (l : List En) (i kind : Int) : En × Int := match enAt l i with
  | some e => if e.1 = kind then (if wrongE l e = 0 then (e, 0) else (en0, wrongE l e)) else (en0, 16)
  | none => (en0, 16)
def textR (l : List En) (i : Int) : List UInt8 × Int := ((rightE l i 1).1.2.1, (rightE l i 1).2)
def numberR (l : List En) (i : Int) : Int × Int := ((rightE l i 2).1.2.2.1, (rightE l i 2).2)
def textOf (l : List En) (i : Int) : List UInt8 := match enAt l i with
  | some e => e.2.1
  | none => []
def classR (l : List En) (i : Int) : List UInt8 × Int := if (rightE l i 3).2 = 0 then (textOf l (rightE l i 3).1.2.2.2.1, 0) else ([], (rightE l i 3).2)
def typeAtR (l : List En) (i : Int) : Ty × Int := if (rightE l i 4).2 = 0 then typeR (textOf l (rightE l i 4).1.2.2.2.1) else ((0, []), (rightE l i 4).2)
def memberR (l : List En) (i kind : Int) : (List UInt8 × List UInt8 × List UInt8) × Int :=
  if (rightE l i kind).2 = 0 then
    (if (classR l (rightE l i kind).1.2.2.2.1).2 = 0 then (((classR l (rightE l i kind).1.2.2.2.1).1, textOf l (rightE l i kind).1.2.2.2.2.1, textOf l (rightE l i kind).1.2.2.2.2.2), 0)
     else (([], [], []), (classR l (rightE l i kind).1.2.2.2.1).2))
  else (([], [], []), (rightE l i kind).2)
def fieldR (l : List En) (i : Int) : (List UInt8 × List UInt8 × Ty) × Int :=
  if (memberR l i 5).2 = 0 then (((memberR l i 5).1.1, (memberR l i 5).1.2.1, (typeR (memberR l i 5).1.2.2).1), (typeR (memberR l i 5).1.2.2).2) else (([], [], (0, [])), (memberR l i 5).2)
def methodR (l : List En) (i : Int) : (List UInt8 × List UInt8 × (List Ty × Bool × Ty)) × Int :=
  if (memberR l i 6).2 = 0 then (((memberR l i 6).1.1, (memberR l i 6).1.2.1, (sigR (memberR l i 6).1.2.2).1), (sigR (memberR l i 6).1.2.2).2) else (([], [], ([], false, (0, []))), (memberR l i 6).2)

theorem enAt_some {l : List En} {i : Int} {e : En} (h : enAt l i = some e) : ∃ (j : Nat) (hj : j < l.length), i = (j : Int) ∧ l[j] = e := by
  unfold enAt at h
  split at h
  · rename_i h0
    obtain ⟨hj, he⟩ := List.getElem?_eq_some_iff.1 h
    exact ⟨i.toNat, hj, by omega, he⟩
  · cases h

theorem enAt_none {l : List En} {i : Int} (h : enAt l i = none) : i < 0 ∨ (l.length : Int) ≤ i := by
  unfold enAt at h
  split at h
  · rename_i h0
    have := List.getElem?_eq_none_iff.1 h
    right
    omega
  · left
    omega

theorem enAt_nat {l : List En} (j : Nat) (hj : j < l.length) : enAt l (j : Int) = some l[j] := by
  unfold enAt
  rw [if_pos (by omega)]
  simp [hj]

theorem hasE_kind {l : List En} {i kind : Int} (h : hasE l i kind = true) : ∃ e, enAt l i = some e ∧ e.1 = kind := by
  unfold hasE at h
  split at h
  · rename_i e he
    exact ⟨e, he, of_decide_eq_true h⟩
  · cases h

theorem firstWrong_ok {l : List En} {r : List En} {i : Nat} (h : ∀ e ∈ r, wrongE l e = 0) : firstWrong l r i = (0, 0) := by
  induction r generalizing i with
  | nil => rfl
  | cons e r ih =>
    unfold firstWrong
    rw [if_pos (h e (by simp))]
    exact ih fun e he => h e (by simp [he])

theorem firstWrong_at {l : List En} {r : List En} {i k : Nat} (hk : k < r.length) (h0 : ∀ j (hj : j < k), wrongE l (r[j]'(by omega)) = 0) (h1 : wrongE l r[k] ≠ 0) : firstWrong l r i = (((i + k : Nat) : Int), wrongE l r[k]) := by
  induction r generalizing i k with
  | nil => simp at hk
  | cons e r ih =>
    unfold firstWrong
    cases k with
    | zero =>
      rw [if_neg (by simpa using h1)]
      rfl
    | succ k =>
      have := h0 0 (by omega)
      simp at this
      rw [if_pos this]
      have := ih (i := i + 1) (k := k) (by simpa using hk) (fun j hj => by simpa using h0 (j + 1) (by omega)) (by simpa using h1)
      rw [this]
      simp
      omega

end Go.Proofs.YtildemmkhndhjaaGreatDoor
namespace Go.Proofs.YtildemmkhndhjaaGreatDoor
open Go.RowKit

theorem ES.at {w : World} {ao : Option Addr} {l : List En} {d : Nat} (h : ES w ao l d) {j : Nat} (hj : j < l.length) : ∃ off, ao = some ⟨d, off, none⟩ ∧ EnAt w d (off + j * 6) l[j] := by
  rcases h with h | ⟨off, rfl, hc⟩
  · rw [h] at hj
    simp at hj
  · exact ⟨off, rfl, hc j hj⟩

theorem has_any' {w : World} {ao : Option Addr} {l : List En} {d cap : Nat} (hE : ES w ao l d) (hl : l.length ≤ 9223372036854775807) (i kind : Int) :
    Calls Tryz.prog 158 #[.slice ao l.length cap, .int .i64 i, .int .i64 kind] w fun e w' => e = .returned (.bool (hasE l i kind)) ∧ w' = w := by
  cases hi : enAt l i with
  | none =>
    have hr : hasE l i kind = false := by simp [hasE, hi]
    rw [hr]
    rcases enAt_none hi with h | h
    · have g1 : ¬ (0 ≤ i) := by omega
      clear hi hr hE
      go_enter Tryz.func158, Tryz.ntmps158
      go_wp2
      go_ret
      exact ⟨rfl, rfl⟩
    · have g1 : 0 ≤ i := by omega
      have g2 : ¬ (i < (l.length : Int)) := by omega
      clear hi hr hE
      go_enter Tryz.func158, Tryz.ntmps158
      go_wp2
      go_ret
      exact ⟨rfl, rfl⟩
  | some e =>
    have hr : hasE l i kind = decide (e.1 = kind) := by simp [hasE, hi]
    rw [hr]
    obtain ⟨j, hj, rfl, rfl⟩ := enAt_some hi
    clear hi hr
    obtain ⟨off, rfl, hc⟩ := hE.at hj
    obtain ⟨y0, _, _, _, _, _⟩ := hc
    generalize l[j] = e at *
    obtain ⟨k, t, n, a, b, c⟩ := e
    clear hE
    simp only at y0
    have g1 : (0 : Int) ≤ (j : Int) := by omega
    have g2 : ((j : Int) < (l.length : Int)) := by omega
    go_enter Tryz.func158, Tryz.ntmps158
    go_wp2
    go_ret
    refine ⟨?_, rfl⟩
    by_cases hk : k = kind <;> simp [hk]

theorem tooLong_any (s : List UInt8) (hs : s.length ≤ 9223372036854775807) (w : World) : Calls Tryz.prog 107 #[.string (str s)] w fun e w' => e = .returned (.int .i64 (longE s)) ∧ w' = w := by
  have hz := str_size s
  by_cases h : 255 < s.length
  · have g1 : (255 < (s.length : Int)) := by omega
    have e1 : longE s = 5 := by simp [longE, h]
    rw [e1]
    clear h e1
    go_enter Tryz.func107, Tryz.ntmps107
    go_wp2
    go_ret
    exact ⟨rfl, rfl⟩
  · have g1 : ¬ (255 < (s.length : Int)) := by omega
    have e1 : longE s = 0 := by simp [longE, h]
    rw [e1]
    clear h e1
    go_enter Tryz.func107, Tryz.ntmps107
    go_wp2
    go_ret
    exact ⟨rfl, rfl⟩

theorem wrongClass_any {w : World} {ao : Option Addr} {l : List En} {d cap : Nat} (hE : ES w ao l d) (hl : l.length ≤ 9223372036854775807) (i : Int) :
    Calls Tryz.prog 112 #[.slice ao l.length cap, .int .i64 i] w fun e w' => e = .returned (.int .i64 (wClass l i)) ∧ w' = w := by
  have HH := has_any' (cap := cap) hE hl i 3
  cases h : hasE l i 3 with
  | true =>
    rw [h] at HH
    have e1 : wClass l i = 0 := by simp [wClass, h]
    rw [e1]
    clear h e1 hE
    replace HH := hid HH
    go_enter Tryz.func112, Tryz.ntmps112
    go_wp2_with (go_at_call 158; refine HH.out.mono ?_; rintro e w' ⟨rfl, rfl⟩)
    go_ret
    exact ⟨rfl, rfl⟩
  | false =>
    rw [h] at HH
    have e1 : wClass l i = 16 := by simp [wClass, h]
    rw [e1]
    clear h e1 hE
    replace HH := hid HH
    go_enter Tryz.func112, Tryz.ntmps112
    go_wp2_with (go_at_call 158; refine HH.out.mono ?_; rintro e w' ⟨rfl, rfl⟩)
    go_ret
    exact ⟨rfl, rfl⟩

theorem used_result {w : World} {b : Nat} {e : En} (h : EnAt w b 0 e) (tmps : Array Value) (h2 : tmps.getD 2 undef = .pointer (some ⟨b, 0, none⟩)) :
    (results Tryz.f106 tmps).run Tryz.prog w = .ok (enV e) w := by
  obtain ⟨c0, c1, c2, c3, c4, c5⟩ := h
  simp only [results, Tryz.results106]
  simp [Sem.run_bind, Result.andThen, -Array.getD_eq_getD_getElem?, h2, go_sem, c0, c1, c2, c3, c4, c5, enV]

end Go.Proofs.YtildemmkhndhjaaGreatDoor
namespace Go.Proofs.YtildemmkhndhjaaGreatDoor
open Go.RowKit

/-- What is laid into a new entry. -/
theorem EnAt.put {w : World} {b : Nat} {e0 : En} (h : EnAt w b 0 e0) (e : En) :
    EnAt ((((((w.setCell ⟨b, 0, none⟩ (.int .i64 e.1)).setCell ⟨b, 1, none⟩ (.string (str e.2.1))).setCell ⟨b, 2, none⟩ (.int .i64 e.2.2.1)).setCell ⟨b, 3, none⟩ (.int .i64 e.2.2.2.1)).setCell ⟨b, 4, none⟩ (.int .i64 e.2.2.2.2.1)).setCell ⟨b, 5, none⟩ (.int .i64 e.2.2.2.2.2)) b 0 e := by
  obtain ⟨c0, c1, c2, c3, c4, c5⟩ := h
  simp only [Nat.zero_add] at c0 c1 c2 c3 c4 c5
  have n1 : ∀ {i j : Nat}, i ≠ j → (⟨b, i, none⟩ : Addr) ≠ ⟨b, j, none⟩ := fun h e => h (by injection e)
  refine ⟨?_, ?_, ?_, ?_, ?_, ?_⟩
  · rw [cell_setCell_ne _ _ (n1 (by decide)), cell_setCell_ne _ _ (n1 (by decide)), cell_setCell_ne _ _ (n1 (by decide)), cell_setCell_ne _ _ (n1 (by decide)), cell_setCell_ne _ _ (n1 (by decide))]
    exact cell_setCell_same _ _ c0
  · rw [cell_setCell_ne _ _ (n1 (by decide)), cell_setCell_ne _ _ (n1 (by decide)), cell_setCell_ne _ _ (n1 (by decide)), cell_setCell_ne _ _ (n1 (by decide))]
    exact cell_setCell_same _ _ (by rw [cell_setCell_ne _ _ (n1 (by decide))]; exact c1)
  · rw [cell_setCell_ne _ _ (n1 (by decide)), cell_setCell_ne _ _ (n1 (by decide)), cell_setCell_ne _ _ (n1 (by decide))]
    exact cell_setCell_same _ _ (by rw [cell_setCell_ne _ _ (n1 (by decide)), cell_setCell_ne _ _ (n1 (by decide))]; exact c2)
  · rw [cell_setCell_ne _ _ (n1 (by decide)), cell_setCell_ne _ _ (n1 (by decide))]
    exact cell_setCell_same _ _ (by rw [cell_setCell_ne _ _ (n1 (by decide)), cell_setCell_ne _ _ (n1 (by decide)), cell_setCell_ne _ _ (n1 (by decide))]; exact c3)
  · rw [cell_setCell_ne _ _ (n1 (by decide))]
    exact cell_setCell_same _ _ (by rw [cell_setCell_ne _ _ (n1 (by decide)), cell_setCell_ne _ _ (n1 (by decide)), cell_setCell_ne _ _ (n1 (by decide)), cell_setCell_ne _ _ (n1 (by decide))]; exact c4)
  · exact cell_setCell_same _ _ (by rw [cell_setCell_ne _ _ (n1 (by decide)), cell_setCell_ne _ _ (n1 (by decide)), cell_setCell_ne _ _ (n1 (by decide)), cell_setCell_ne _ _ (n1 (by decide)), cell_setCell_ne _ _ (n1 (by decide))]; exact c5)

theorem put6_only {w : World} {S : List Nat} {a : World} (h : Only S a w) {b : Nat} (hb : b ∈ S ∨ a.heap.size ≤ b) (v0 v1 v2 v3 v4 v5 : Value) :
    Only S a ((((((w.setCell ⟨b, 0, none⟩ v0).setCell ⟨b, 1, none⟩ v1).setCell ⟨b, 2, none⟩ v2).setCell ⟨b, 3, none⟩ v3).setCell ⟨b, 4, none⟩ v4).setCell ⟨b, 5, none⟩ v5) :=
  (((((h.setCell hb _).setCell hb _).setCell hb _).setCell hb _).setCell hb _).setCell hb _

theorem enAt_new2 (w : World) (o : Obj) (e : En) : EnAt ((w.alloc o).alloc (.cells #[.int .i64 e.1, .string (str e.2.1), .int .i64 e.2.2.1, .int .i64 e.2.2.2.1, .int .i64 e.2.2.2.2.1, .int .i64 e.2.2.2.2.2] 90)) (w.heap.size + 1) 0 e := by
  have E1 := enAt_new (w.alloc o) e 90
  rw [World.size_alloc] at E1
  exact E1

set_option maxHeartbeats 400000 in
set_option maxRecDepth 100000 in
theorem used_any (e : En) (w : World) : Calls Tryz.prog 106 #[enV e] w fun r w' => r = .returned (enV (usedE e)) ∧ Only [] w w' := by
  have hu : ∃ u, u = usedE e := ⟨_, rfl⟩
  obtain ⟨u, hu⟩ := hu
  rw [← hu]
  obtain ⟨k, t, n, a, b, c⟩ := e
  simp only [enV]
  by_cases h1 : k = 1
  · subst h1
    have e1 : u = (1, t, 0, 0, 0, 0) := by rw [hu]; simp [usedE]
    subst e1
    clear hu
    go_enter Tryz.func106, Tryz.ntmps106
    go_wp2
    exact bodyPost_ret (used_result (enAt_new2 w _ (1, t, 0, 0, 0, 0)) _ rfl) rfl ⟨rfl, ((Only.refl [] w).alloc _).alloc _⟩
  have g1 : (k == 1) = false := by simpa using h1
  by_cases h2 : k = 2
  · subst h2
    have e1 : u = (2, [], n, 0, 0, 0) := by rw [hu]; simp [usedE]
    subst e1
    clear hu h1 g1
    go_enter Tryz.func106, Tryz.ntmps106
    go_wp2
    exact bodyPost_ret (used_result (enAt_new2 w _ (2, [], n, 0, 0, 0)) _ rfl) rfl ⟨rfl, ((Only.refl [] w).alloc _).alloc _⟩
  have g2 : (k == 2) = false := by simpa using h2
  by_cases h3 : k = 3
  · subst h3
    have e1 : u = (3, [], 0, a, 0, 0) := by rw [hu]; simp [usedE]
    subst e1
    clear hu h1 g1 h2 g2
    go_enter Tryz.func106, Tryz.ntmps106
    go_wp2
    exact bodyPost_ret (used_result (enAt_new2 w _ (3, [], 0, a, 0, 0)) _ rfl) rfl ⟨rfl, ((Only.refl [] w).alloc _).alloc _⟩
  have g3 : (k == 3) = false := by simpa using h3
  by_cases h4 : k = 4
  · subst h4
    have e1 : u = (4, [], 0, a, 0, 0) := by rw [hu]; simp [usedE]
    subst e1
    clear hu h1 g1 h2 g2 h3 g3
    go_enter Tryz.func106, Tryz.ntmps106
    go_wp2
    exact bodyPost_ret (used_result (enAt_new2 w _ (4, [], 0, a, 0, 0)) _ rfl) rfl ⟨rfl, ((Only.refl [] w).alloc _).alloc _⟩
  have g4 : (k == 4) = false := by simpa using h4
  have e1 : u = (k, [], 0, a, b, c) := by rw [hu]; simp [usedE, h1, h2, h3, h4]
  subst e1
  clear hu h1 h2 h3 h4
  go_enter Tryz.func106, Tryz.ntmps106
  go_wp2
  exact bodyPost_ret (used_result (enAt_new2 w _ (k, [], 0, a, b, c)) _ rfl) rfl ⟨rfl, ((Only.refl [] w).alloc _).alloc _⟩

/-- The text of a number lies in memory. -/
theorem text_cell {w : World} {ao : Option Addr} {l : List En} {d : Nat} (hE : ES w ao l d) {i : Int} {s : List UInt8} (h : textAt l i = some s) :
    ∃ (j off : Nat), i = (j : Int) ∧ j < l.length ∧ ao = some ⟨d, off, none⟩ ∧ w.cell? ⟨d, off + j * 6 + 1, none⟩ = some (.string (str s)) ∧ ∃ e ∈ l, e.2.1 = s := by
  unfold textAt at h
  split at h
  · rename_i e he
    split at h
    · obtain ⟨j, hj, rfl, rfl⟩ := enAt_some he
      simp at h
      obtain ⟨off, ha, hc⟩ := hE.at hj
      exact ⟨j, off, rfl, hj, ha, by rw [← h]; exact hc.c1, l[j], List.getElem_mem hj, h⟩
    · cases h
  · cases h

theorem hasE_text (l : List En) (i : Int) : hasE l i 1 = (textAt l i).isSome := by
  unfold hasE textAt
  split
  · rename_i e he
    by_cases h : e.1 = 1 <;> simp [h]
  · rfl

end Go.Proofs.YtildemmkhndhjaaGreatDoor
namespace Go.Proofs.YtildemmkhndhjaaGreatDoor
open Go.RowKit

theorem byte_text {l : List En} {s : List UInt8} (hA : ∀ e ∈ l, e.2.1.length ≤ 9223372036854775807) (h : ∃ e ∈ l, e.2.1 = s) : s.length ≤ 9223372036854775807 := by
  obtain ⟨e, he, rfl⟩ := h
  exact hA e he

set_option maxHeartbeats 400000 in
set_option maxRecDepth 100000 in
theorem wrongName_any {w : World} {ao : Option Addr} {l : List En} {d cap : Nat} (hE : ES w ao l d) (hl : l.length ≤ 9223372036854775807) (hA : ∀ e ∈ l, e.2.1.length ≤ 9223372036854775807) (i : Int) :
    Calls Tryz.prog 108 #[.slice ao l.length cap, .int .i64 i, .func (.func 109) #[] #[]] w fun e w' => e = .returned (.int .i64 (wText l i fName)) ∧ w' = w := by
  have HH := has_any' (cap := cap) hE hl i 1
  rw [hasE_text] at HH
  cases h : textAt l i with
  | none =>
    have e1 : wText l i fName = 16 := by simp [wText, h]
    rw [e1]
    rw [h] at HH
    simp only [Option.isSome_none] at HH
    clear h e1 hE
    replace HH := hid HH
    go_enter Tryz.func108, Tryz.ntmps108
    go_wp2_with (go_at_call 158; refine HH.out.mono ?_; rintro e w' ⟨rfl, rfl⟩)
    go_ret
    exact ⟨rfl, rfl⟩
  | some s =>
    have e1 : wText l i fName = fName s := by simp [wText, h]
    rw [e1]
    rw [h] at HH
    simp only [Option.isSome_some] at HH
    obtain ⟨j, off, rfl, hj, rfl, hc, hm⟩ := text_cell hE h
    have HN := name_any s (byte_text hA hm) w
    clear h e1 hE hm
    have g2 : ((j : Int) < (l.length : Int)) := by omega
    replace HH := hid HH
    cases hn : nameOK s with
    | true =>
      have e2 : fName s = 0 := by simp [fName, hn]
      rw [e2]
      rw [hn] at HN
      clear hn e2
      replace HN := hid HN
      go_enter Tryz.func108, Tryz.ntmps108
      go_wp2_with (first | (go_at_call 158; refine HH.out.mono ?_; rintro e w' ⟨rfl, rfl⟩) | (go_at_call 109; refine HN.out.mono ?_; rintro e w' ⟨rfl, rfl⟩))
      go_ret
      exact ⟨rfl, rfl⟩
    | false =>
      have e2 : fName s = 14 := by simp [fName, hn]
      rw [e2]
      rw [hn] at HN
      clear hn e2
      replace HN := hid HN
      go_enter Tryz.func108, Tryz.ntmps108
      go_wp2_with (first | (go_at_call 158; refine HH.out.mono ?_; rintro e w' ⟨rfl, rfl⟩) | (go_at_call 109; refine HN.out.mono ?_; rintro e w' ⟨rfl, rfl⟩))
      go_ret
      exact ⟨rfl, rfl⟩

set_option maxHeartbeats 400000 in
set_option maxRecDepth 100000 in
theorem wrongMeth_any {w : World} {ao : Option Addr} {l : List En} {d cap : Nat} (hE : ES w ao l d) (hl : l.length ≤ 9223372036854775807) (hA : ∀ e ∈ l, e.2.1.length ≤ 9223372036854775807) (i : Int) :
    Calls Tryz.prog 108 #[.slice ao l.length cap, .int .i64 i, .func (.func 113) #[] #[]] w fun e w' => e = .returned (.int .i64 (wText l i fMethod)) ∧ w' = w := by
  have HH := has_any' (cap := cap) hE hl i 1
  rw [hasE_text] at HH
  cases h : textAt l i with
  | none =>
    have e1 : wText l i fMethod = 16 := by simp [wText, h]
    rw [e1]
    rw [h] at HH
    simp only [Option.isSome_none] at HH
    clear h e1 hE
    replace HH := hid HH
    go_enter Tryz.func108, Tryz.ntmps108
    go_wp2_with (go_at_call 158; refine HH.out.mono ?_; rintro e w' ⟨rfl, rfl⟩)
    go_ret
    exact ⟨rfl, rfl⟩
  | some s =>
    have e1 : wText l i fMethod = fMethod s := by simp [wText, h]
    rw [e1]
    rw [h] at HH
    simp only [Option.isSome_some] at HH
    obtain ⟨j, off, rfl, hj, rfl, hc, hm⟩ := text_cell hE h
    have HN := method_any s (byte_text hA hm) w
    clear h e1 hE hm
    have g2 : ((j : Int) < (l.length : Int)) := by omega
    replace HH := hid HH
    cases hn : methodOK s with
    | true =>
      have e2 : fMethod s = 0 := by simp [fMethod, hn]
      rw [e2]
      rw [hn] at HN
      clear hn e2
      replace HN := hid HN
      go_enter Tryz.func108, Tryz.ntmps108
      go_wp2_with (first | (go_at_call 158; refine HH.out.mono ?_; rintro e w' ⟨rfl, rfl⟩) | (go_at_call 113; refine HN.out.mono ?_; rintro e w' ⟨rfl, rfl⟩))
      go_ret
      exact ⟨rfl, rfl⟩
    | false =>
      have e2 : fMethod s = 14 := by simp [fMethod, hn]
      rw [e2]
      rw [hn] at HN
      clear hn e2
      replace HN := hid HN
      go_enter Tryz.func108, Tryz.ntmps108
      go_wp2_with (first | (go_at_call 158; refine HH.out.mono ?_; rintro e w' ⟨rfl, rfl⟩) | (go_at_call 113; refine HN.out.mono ?_; rintro e w' ⟨rfl, rfl⟩))
      go_ret
      exact ⟨rfl, rfl⟩

set_option maxHeartbeats 400000 in
set_option maxRecDepth 100000 in
theorem wrongType_any {w : World} {ao : Option Addr} {l : List En} {d cap : Nat} (hE : ES w ao l d) (hl : l.length ≤ 9223372036854775807) (hA : ∀ e ∈ l, e.2.1.length ≤ 9223372036854775807) (i : Int) :
    Calls Tryz.prog 110 #[.slice ao l.length cap, .int .i64 i] w fun e w' => e = .returned (.int .i64 (wText l i fType)) ∧ Only [] w w' := by
  have HH := has_any' (cap := cap) hE hl i 1
  rw [hasE_text] at HH
  cases h : textAt l i with
  | none =>
    have e1 : wText l i fType = 16 := by simp [wText, h]
    rw [e1]
    rw [h] at HH
    simp only [Option.isSome_none] at HH
    clear h e1 hE
    replace HH := hid HH
    go_enter Tryz.func110, Tryz.ntmps110
    go_wp2_with (go_at_call 158; refine HH.out.mono ?_; rintro e w' ⟨rfl, rfl⟩)
    go_ret
    exact ⟨rfl, Only.refl _ _⟩
  | some s =>
    have e1 : wText l i fType = fType s := by simp [wText, h]
    rw [e1]
    rw [h] at HH
    simp only [Option.isSome_some] at HH
    obtain ⟨j, off, rfl, hj, rfl, hc, hm⟩ := text_cell hE h
    have HN := type_any s (byte_text hA hm) w
    unfold fType
    clear h e1 hE hm
    have g2 : ((j : Int) < (l.length : Int)) := by omega
    replace HH := hid HH
    generalize typeR s = X at *
    obtain ⟨⟨xd, xn⟩, xe⟩ := X
    simp only [tyV] at HN ⊢
    replace HN := hid HN
    go_enter Tryz.func110, Tryz.ntmps110
    go_wp2_with (first | (go_at_call 158; refine HH.out.mono ?_; rintro e w' ⟨rfl, rfl⟩) | (go_at_call 161; refine HN.out.mono ?_; rintro e w1 ⟨rfl, ho1⟩))
    go_ret
    exact ⟨rfl, ho1.alloc _⟩

set_option maxHeartbeats 400000 in
set_option maxRecDepth 100000 in
theorem wrongSig_any {w : World} {ao : Option Addr} {l : List En} {d cap : Nat} (hE : ES w ao l d) (hl : l.length ≤ 9223372036854775807) (hA : ∀ e ∈ l, e.2.1.length ≤ 9223372036854775807) (i : Int) :
    Calls Tryz.prog 114 #[.slice ao l.length cap, .int .i64 i] w fun e w' => e = .returned (.int .i64 (wText l i fSig)) ∧ Only [] w w' := by
  have HH := has_any' (cap := cap) hE hl i 1
  rw [hasE_text] at HH
  cases h : textAt l i with
  | none =>
    have e1 : wText l i fSig = 16 := by simp [wText, h]
    rw [e1]
    rw [h] at HH
    simp only [Option.isSome_none] at HH
    clear h e1 hE
    replace HH := hid HH
    go_enter Tryz.func114, Tryz.ntmps114
    go_wp2_with (go_at_call 158; refine HH.out.mono ?_; rintro e w' ⟨rfl, rfl⟩)
    go_ret
    exact ⟨rfl, Only.refl _ _⟩
  | some s =>
    have e1 : wText l i fSig = fSig s := by simp [wText, h]
    rw [e1]
    rw [h] at HH
    simp only [Option.isSome_some] at HH
    obtain ⟨j, off, rfl, hj, rfl, hc, hm⟩ := text_cell hE h
    have HN := sig_any s (byte_text hA hm) w
    unfold fSig
    clear h e1 hE hm
    have g2 : ((j : Int) < (l.length : Int)) := by omega
    replace HH := hid HH
    generalize sigR s = X at *
    obtain ⟨⟨xl, xv, xd, xn⟩, xe⟩ := X
    simp only [sigV] at HN ⊢
    replace HN := hid HN
    go_enter Tryz.func114, Tryz.ntmps114
    go_wp2_with (first | (go_at_call 158; refine HH.out.mono ?_; rintro e w' ⟨rfl, rfl⟩) | (go_at_call 162; refine HN.out.mono ?_; rintro e w1 ⟨v, rfl, hw, ho1⟩; obtain ⟨vo, vc, rfl⟩ := own_slice hw))
    go_ret
    exact ⟨rfl, ho1.alloc _⟩

set_option maxHeartbeats 400000 in
set_option maxRecDepth 100000 in
/-- What cmp.Or answers of three. -/
theorem or_any (x y z : Int) (w : World) : Calls Tryz.prog 111 #[.slice (some ⟨w.heap.size, 0, none⟩) 3 3] (w.alloc (.cells #[.int .i64 x, .int .i64 y, .int .i64 z] 63)) fun e w' => e = .returned (.int .i64 (or3 x y z)) ∧ w' = w.alloc (.cells #[.int .i64 x, .int .i64 y, .int .i64 z] 63) := by
  go_enter Tryz.func111, Tryz.ntmps111
  go_wp2
  go_loopw [8] (fun i wr => ∃ k : Int, 0 ≤ k ∧ k ≤ 3 ∧ i = .int .i64 k ∧ (0 < k → x = 0) ∧ (1 < k → y = 0) ∧ (2 < k → z = 0) ∧ wr = w.alloc (.cells #[.int .i64 x, .int .i64 y, .int .i64 z] 63)) (fun i _ => (3 - intOf i).toNat)
  case atStart => exact ⟨0, by omega, by omega, rfl, by omega, by omega, by omega, rfl⟩
  case round =>
    obtain ⟨k, hk0, hk, rfl, h0, h1, h2, rfl⟩ := hrel
    rcases (by omega : k = 0 ∨ k = 1 ∨ k = 2 ∨ k = 3) with rfl | rfl | rfl | rfl
    · by_cases hx : x = 0
      · subst hx
        go_wp2
        exact ⟨⟨1, by omega, by omega, by go_num, by first | trivial | omega, by first | trivial | omega, by first | trivial | omega, by first | trivial | rfl⟩, by simp [intOf]⟩
      · have g : (x == 0) = false := by simpa using hx
        have e1 : Hid (or3 x y z = x) := by simp [Hid, or3, hx]
        clear hx
        go_wp2
        go_ret
        exact ⟨by rw [e1.out]; rfl, rfl⟩
    · obtain rfl := h0 (by omega)
      by_cases hx : y = 0
      · subst hx
        go_wp2
        exact ⟨⟨2, by omega, by omega, by go_num, by first | trivial | omega, by first | trivial | omega, by first | trivial | omega, by first | trivial | rfl⟩, by simp [intOf]⟩
      · have g : (y == 0) = false := by simpa using hx
        have e1 : Hid (or3 0 y z = y) := by simp [Hid, or3, hx]
        clear hx
        go_wp2
        go_ret
        exact ⟨by rw [e1.out]; rfl, rfl⟩
    · obtain rfl := h0 (by omega)
      obtain rfl := h1 (by omega)
      by_cases hx : z = 0
      · subst hx
        go_wp2
        exact ⟨⟨3, by omega, by omega, by go_num, by first | trivial | omega, by first | trivial | omega, by first | trivial | omega, by first | trivial | rfl⟩, by simp [intOf]⟩
      · have g : (z == 0) = false := by simpa using hx
        have e1 : Hid (or3 0 0 z = z) := by simp [Hid, or3]
        clear hx
        go_wp2
        go_ret
        exact ⟨by rw [e1.out]; rfl, rfl⟩
    · obtain rfl := h0 (by omega)
      obtain rfl := h1 (by omega)
      obtain rfl := h2 (by omega)
      go_wp2
      go_ret
      exact ⟨by simp [or3], rfl⟩

end Go.Proofs.YtildemmkhndhjaaGreatDoor
namespace Go.Proofs.YtildemmkhndhjaaGreatDoor
open Go.RowKit

/-- An entry in a block, and what was there is as it was. -/
def EnS (w0 : World) (p : Nat) (e : En) (w : World) : Prop := w.cell? ⟨p, 0, none⟩ = some (.int .i64 e.1) ∧ w.cell? ⟨p, 1, none⟩ = some (.string (str e.2.1)) ∧ w.cell? ⟨p, 2, none⟩ = some (.int .i64 e.2.2.1) ∧ w.cell? ⟨p, 3, none⟩ = some (.int .i64 e.2.2.2.1) ∧ w.cell? ⟨p, 4, none⟩ = some (.int .i64 e.2.2.2.2.1) ∧ w.cell? ⟨p, 5, none⟩ = some (.int .i64 e.2.2.2.2.2) ∧ Only [] w0 w

theorem keep_en {a b z : World} {p : Nat} {x0 x1 x2 x3 x4 x5 : Value} (ho : Only [] a b)
    (h : a.cell? ⟨p, 0, none⟩ = some x0 ∧ a.cell? ⟨p, 1, none⟩ = some x1 ∧ a.cell? ⟨p, 2, none⟩ = some x2 ∧ a.cell? ⟨p, 3, none⟩ = some x3 ∧ a.cell? ⟨p, 4, none⟩ = some x4 ∧ a.cell? ⟨p, 5, none⟩ = some x5 ∧ Only [] z a) :
    b.cell? ⟨p, 0, none⟩ = some x0 ∧ b.cell? ⟨p, 1, none⟩ = some x1 ∧ b.cell? ⟨p, 2, none⟩ = some x2 ∧ b.cell? ⟨p, 3, none⟩ = some x3 ∧ b.cell? ⟨p, 4, none⟩ = some x4 ∧ b.cell? ⟨p, 5, none⟩ = some x5 ∧ Only [] z b := by
  obtain ⟨h0, h1, h2, h3, h4, h5, hz⟩ := h
  have hl := World.block_lt_of_cell? _ _ h0
  exact ⟨(ho.cell (p := ⟨p, 0, none⟩) hl (by simp)).trans h0, (ho.cell (p := ⟨p, 1, none⟩) hl (by simp)).trans h1, (ho.cell (p := ⟨p, 2, none⟩) hl (by simp)).trans h2, (ho.cell (p := ⟨p, 3, none⟩) hl (by simp)).trans h3, (ho.cell (p := ⟨p, 4, none⟩) hl (by simp)).trans h4, (ho.cell (p := ⟨p, 5, none⟩) hl (by simp)).trans h5, hz.next ho (by simp)⟩

set_option maxHeartbeats 400000 in
set_option maxRecDepth 100000 in
theorem wrong_any {w : World} {ao : Option Addr} {l : List En} {d cap : Nat} (hE : ES w ao l d) (hl : l.length ≤ 9223372036854775807) (hA : ∀ e ∈ l, e.2.1.length ≤ 9223372036854775807) (j : Nat) (hj : j < l.length) :
    Calls Tryz.prog 45 #[.slice ao l.length cap, .int .i64 (j : Int)] w fun r w' => r = .returned (.int .i64 (wrongE l l[j])) ∧ Only [] w w' := by
  have g2 : ((j : Int) < (l.length : Int)) := by omega
  have ht := hA l[j] (List.getElem_mem hj)
  obtain ⟨off, hao, hc⟩ := hE.at hj
  have HU := fun W => used_any l[j] W
  have hq := neq_entry l[j] (usedE l[j])
  have o0 := (Only.refl [] w).alloc (.cells #[.int .i64 l[j].1, .string (str l[j].2.1), .int .i64 l[j].2.2.1, .int .i64 l[j].2.2.2.1, .int .i64 l[j].2.2.2.2.1, .int .i64 l[j].2.2.2.2.2] 90)
  have E0 := enAt_new w l[j] 90
  have hw : ∃ r, r = wrongE l l[j] := ⟨_, rfl⟩
  obtain ⟨r, hr⟩ := hw
  rw [← hr]
  have HWC := fun W (hW : Only [] w W) (i : Int) => wrongClass_any (cap := cap) (hE.only hW (by simp)) hl i
  have HWN := fun W (hW : Only [] w W) (i : Int) => wrongName_any (cap := cap) (hE.only hW (by simp)) hl hA i
  have HWM := fun W (hW : Only [] w W) (i : Int) => wrongMeth_any (cap := cap) (hE.only hW (by simp)) hl hA i
  have HWT := fun W (hW : Only [] w W) (i : Int) => wrongType_any (cap := cap) (hE.only hW (by simp)) hl hA i
  have HWS := fun W (hW : Only [] w W) (i : Int) => wrongSig_any (cap := cap) (hE.only hW (by simp)) hl hA i
  generalize l[j] = e at *
  generalize hug : usedE e = u at *
  obtain ⟨k, t, n, a, b, c⟩ := e
  obtain ⟨uk, ut, un, ua, ub, uc⟩ := u
  obtain ⟨y0, y1, y2, y3, y4, y5⟩ := hc
  obtain ⟨e0, e1, e2, e3, e4, e5⟩ := E0
  simp only [Nat.zero_add] at e0 e1 e2 e3 e4 e5
  simp only [enV] at *
  replace HU := hid HU
  replace HWC := hid HWC
  replace HWN := hid HWN
  replace HWM := hid HWM
  replace HWT := hid HWT
  replace HWS := hid HWS
  replace hug := hid hug
  replace hE := hid hE
  clear hA
  replace hr := hid hr
  have hb : k < 1 ∨ 6 < k ∨ (1 ≤ k ∧ k ≤ 6) := by omega
  rcases hb with hk | hk | ⟨hk1, hk2⟩
  · have er : r = 3 := by rw [hr.out]; simp [wrongE, hk]
    subst er
    subst hao
    go_enter Tryz.func45, Tryz.ntmps45
    go_wp2
    go_ret
    exact ⟨rfl, o0⟩
  · have er : r = 3 := by rw [hr.out]; simp [wrongE, hk]
    subst er
    subst hao
    have hk' : ¬ (k < 1) := by omega
    go_enter Tryz.func45, Tryz.ntmps45
    go_wp2
    go_ret
    exact ⟨rfl, o0⟩
  have hk' : ¬ (k < 1) := by omega
  have hk6 : ¬ (6 < k) := by omega
  by_cases hne : ((k, t, n, a, b, c) : En) = (uk, ut, un, ua, ub, uc)
  · have hw : r = if k = 1 then longE t else if k = 2 then 0 else if k = 3 then wText l a fName else if k = 4 then wText l a fType else if k = 5 then or3 (wClass l a) (wText l b fName) (wText l c fType) else or3 (wClass l a) (wText l b fMethod) (wText l c fSig) := by
      rw [hr.out]
      unfold wrongE
      rw [hug.out, if_neg (by simp; omega), if_neg (fun h => h hne)]
    rw [decide_eq_true hne] at hq
    simp only [Bool.not_true] at hq
    clear hne hug hr hk' hk6
    subst hao
    replace o0 := hid o0
    replace hw := hid hw
    rcases (by omega : k = 1 ∨ k = 2 ∨ k = 3 ∨ k = 4 ∨ k = 5 ∨ k = 6) with rfl | rfl | rfl | rfl | rfl | rfl
    · go_enter Tryz.func45, Tryz.ntmps45
      go_wp2_with fail
      go_region_held3 (fun w' => w'.cell? ⟨w.heap.size, 0, none⟩ = some (.int .i64 1) ∧ w'.cell? ⟨w.heap.size, 1, none⟩ = some (.string (str t)) ∧ w'.cell? ⟨w.heap.size, 2, none⟩ = some (.int .i64 n) ∧ w'.cell? ⟨w.heap.size, 3, none⟩ = some (.int .i64 a) ∧ w'.cell? ⟨w.heap.size, 4, none⟩ = some (.int .i64 b) ∧ w'.cell? ⟨w.heap.size, 5, none⟩ = some (.int .i64 c) ∧ Only [] w w') (first | exact keep_en (by assumption) (by assumption) | exact keep_en ((Only.refl [] _).alloc _) (by assumption) | exact ⟨e0, e1, e2, e3, e4, e5, o0.out.drew⟩ | exact ⟨e0, e1, e2, e3, e4, e5, o0.out⟩ | assumption) (first | (go_at_call 106; with_reducible refine (HU.out _).mono ?_; rintro e w6 ⟨rfl, ho6⟩))
      rename_i hS
      clear e0 e1 e2 e3 e4 e5
      obtain ⟨e0, e1, e2, e3, e4, e5, o1⟩ := hS
      replace o1 := hid o1
      go_wp2_with (go_at_call 107; refine (tooLong_any t ht _).mono ?_; rintro e w7 ⟨rfl, rfl⟩)
      go_ret
      exact ⟨by rw [hw.out]; rfl, o1.out⟩
    · go_enter Tryz.func45, Tryz.ntmps45
      go_wp2_with fail
      go_region_held3 (fun w' => w'.cell? ⟨w.heap.size, 0, none⟩ = some (.int .i64 2) ∧ w'.cell? ⟨w.heap.size, 1, none⟩ = some (.string (str t)) ∧ w'.cell? ⟨w.heap.size, 2, none⟩ = some (.int .i64 n) ∧ w'.cell? ⟨w.heap.size, 3, none⟩ = some (.int .i64 a) ∧ w'.cell? ⟨w.heap.size, 4, none⟩ = some (.int .i64 b) ∧ w'.cell? ⟨w.heap.size, 5, none⟩ = some (.int .i64 c) ∧ Only [] w w') (first | exact keep_en (by assumption) (by assumption) | exact keep_en ((Only.refl [] _).alloc _) (by assumption) | exact ⟨e0, e1, e2, e3, e4, e5, o0.out.drew⟩ | exact ⟨e0, e1, e2, e3, e4, e5, o0.out⟩ | assumption) (first | (go_at_call 106; with_reducible refine (HU.out _).mono ?_; rintro e w6 ⟨rfl, ho6⟩))
      rename_i hS
      clear e0 e1 e2 e3 e4 e5
      obtain ⟨e0, e1, e2, e3, e4, e5, o1⟩ := hS
      replace o1 := hid o1
      go_wp2
      go_ret
      exact ⟨by rw [hw.out]; rfl, o1.out⟩
    · go_enter Tryz.func45, Tryz.ntmps45
      go_wp2_with fail
      go_region_held3 (fun w' => w'.cell? ⟨w.heap.size, 0, none⟩ = some (.int .i64 3) ∧ w'.cell? ⟨w.heap.size, 1, none⟩ = some (.string (str t)) ∧ w'.cell? ⟨w.heap.size, 2, none⟩ = some (.int .i64 n) ∧ w'.cell? ⟨w.heap.size, 3, none⟩ = some (.int .i64 a) ∧ w'.cell? ⟨w.heap.size, 4, none⟩ = some (.int .i64 b) ∧ w'.cell? ⟨w.heap.size, 5, none⟩ = some (.int .i64 c) ∧ Only [] w w') (first | exact keep_en (by assumption) (by assumption) | exact keep_en ((Only.refl [] _).alloc _) (by assumption) | exact ⟨e0, e1, e2, e3, e4, e5, o0.out.drew⟩ | exact ⟨e0, e1, e2, e3, e4, e5, o0.out⟩ | assumption) (first | (go_at_call 106; with_reducible refine (HU.out _).mono ?_; rintro e w6 ⟨rfl, ho6⟩))
      rename_i hS
      clear e0 e1 e2 e3 e4 e5
      obtain ⟨e0, e1, e2, e3, e4, e5, o1⟩ := hS
      replace o1 := hid o1
      go_wp2_with (go_at_call 108; refine (HWN.out _ o1.out a).mono ?_; rintro e w7 ⟨rfl, rfl⟩)
      go_ret
      exact ⟨by rw [hw.out]; rfl, o1.out⟩
    · go_enter Tryz.func45, Tryz.ntmps45
      go_wp2_with fail
      go_region_held3 (fun w' => w'.cell? ⟨w.heap.size, 0, none⟩ = some (.int .i64 4) ∧ w'.cell? ⟨w.heap.size, 1, none⟩ = some (.string (str t)) ∧ w'.cell? ⟨w.heap.size, 2, none⟩ = some (.int .i64 n) ∧ w'.cell? ⟨w.heap.size, 3, none⟩ = some (.int .i64 a) ∧ w'.cell? ⟨w.heap.size, 4, none⟩ = some (.int .i64 b) ∧ w'.cell? ⟨w.heap.size, 5, none⟩ = some (.int .i64 c) ∧ Only [] w w') (first | exact keep_en (by assumption) (by assumption) | exact keep_en ((Only.refl [] _).alloc _) (by assumption) | exact ⟨e0, e1, e2, e3, e4, e5, o0.out.drew⟩ | exact ⟨e0, e1, e2, e3, e4, e5, o0.out⟩ | assumption) (first | (go_at_call 106; with_reducible refine (HU.out _).mono ?_; rintro e w6 ⟨rfl, ho6⟩))
      rename_i hS
      clear e0 e1 e2 e3 e4 e5
      obtain ⟨e0, e1, e2, e3, e4, e5, o1⟩ := hS
      replace o1 := hid o1
      go_wp2_with (go_at_call 110; refine (HWT.out _ o1.out a).mono ?_; rintro e w7 ⟨rfl, ho7⟩)
      go_ret
      exact ⟨by rw [hw.out]; rfl, o1.out.next ho7 (by simp)⟩
    · go_enter Tryz.func45, Tryz.ntmps45
      go_wp2_with fail
      go_region_held3 (fun w' => w'.cell? ⟨w.heap.size, 0, none⟩ = some (.int .i64 5) ∧ w'.cell? ⟨w.heap.size, 1, none⟩ = some (.string (str t)) ∧ w'.cell? ⟨w.heap.size, 2, none⟩ = some (.int .i64 n) ∧ w'.cell? ⟨w.heap.size, 3, none⟩ = some (.int .i64 a) ∧ w'.cell? ⟨w.heap.size, 4, none⟩ = some (.int .i64 b) ∧ w'.cell? ⟨w.heap.size, 5, none⟩ = some (.int .i64 c) ∧ Only [] w w') (first | exact keep_en (by assumption) (by assumption) | exact keep_en ((Only.refl [] _).alloc _) (by assumption) | exact ⟨e0, e1, e2, e3, e4, e5, o0.out.drew⟩ | exact ⟨e0, e1, e2, e3, e4, e5, o0.out⟩ | assumption) (first | (go_at_call 106; with_reducible refine (HU.out _).mono ?_; rintro e w6 ⟨rfl, ho6⟩))
      rename_i hS
      clear e0 e1 e2 e3 e4 e5
      obtain ⟨e0, e1, e2, e3, e4, e5, o1⟩ := hS
      replace o1 := hid o1
      replace o1 := o1.out
      go_wp2_with fail
      go_region_held3 (fun w' => w'.cell? ⟨w.heap.size, 0, none⟩ = some (.int .i64 5) ∧ w'.cell? ⟨w.heap.size, 1, none⟩ = some (.string (str t)) ∧ w'.cell? ⟨w.heap.size, 2, none⟩ = some (.int .i64 n) ∧ w'.cell? ⟨w.heap.size, 3, none⟩ = some (.int .i64 a) ∧ w'.cell? ⟨w.heap.size, 4, none⟩ = some (.int .i64 b) ∧ w'.cell? ⟨w.heap.size, 5, none⟩ = some (.int .i64 c) ∧ Only [] w w') (first | exact keep_en (by assumption) (by assumption) | exact keep_en ((Only.refl [] _).alloc _) (by assumption) | exact ⟨e0, e1, e2, e3, e4, e5, o1.drew⟩ | exact ⟨e0, e1, e2, e3, e4, e5, o1⟩ | assumption) (first | (go_at_call 112; with_reducible refine (HWC.out _ ?_ a).mono ?_; (simp [*]); rintro e w7 ⟨rfl, rfl⟩) | (go_at_call 108; with_reducible refine (HWN.out _ ?_ b).mono ?_; (simp [*]); rintro e w8 ⟨rfl, rfl⟩) | (go_at_call 110; with_reducible refine (HWT.out _ ?_ c).mono ?_; (simp [*]); rintro e w9 ⟨rfl, ho9⟩) | (go_at_call 111; with_reducible refine (or_any _ _ _ _).mono ?_; rintro e w10 ⟨rfl, rfl⟩))
      rename_i hS
      go_wp2
      go_ret
      exact ⟨by rw [hw.out]; rfl, hS.2.2.2.2.2.2⟩
    · go_enter Tryz.func45, Tryz.ntmps45
      go_wp2_with fail
      go_region_held3 (fun w' => w'.cell? ⟨w.heap.size, 0, none⟩ = some (.int .i64 6) ∧ w'.cell? ⟨w.heap.size, 1, none⟩ = some (.string (str t)) ∧ w'.cell? ⟨w.heap.size, 2, none⟩ = some (.int .i64 n) ∧ w'.cell? ⟨w.heap.size, 3, none⟩ = some (.int .i64 a) ∧ w'.cell? ⟨w.heap.size, 4, none⟩ = some (.int .i64 b) ∧ w'.cell? ⟨w.heap.size, 5, none⟩ = some (.int .i64 c) ∧ Only [] w w') (first | exact keep_en (by assumption) (by assumption) | exact keep_en ((Only.refl [] _).alloc _) (by assumption) | exact ⟨e0, e1, e2, e3, e4, e5, o0.out.drew⟩ | exact ⟨e0, e1, e2, e3, e4, e5, o0.out⟩ | assumption) (first | (go_at_call 106; with_reducible refine (HU.out _).mono ?_; rintro e w6 ⟨rfl, ho6⟩))
      rename_i hS
      clear e0 e1 e2 e3 e4 e5
      obtain ⟨e0, e1, e2, e3, e4, e5, o1⟩ := hS
      replace o1 := hid o1
      replace o1 := o1.out
      go_wp2_with fail
      go_region_held3 (fun w' => w'.cell? ⟨w.heap.size, 0, none⟩ = some (.int .i64 6) ∧ w'.cell? ⟨w.heap.size, 1, none⟩ = some (.string (str t)) ∧ w'.cell? ⟨w.heap.size, 2, none⟩ = some (.int .i64 n) ∧ w'.cell? ⟨w.heap.size, 3, none⟩ = some (.int .i64 a) ∧ w'.cell? ⟨w.heap.size, 4, none⟩ = some (.int .i64 b) ∧ w'.cell? ⟨w.heap.size, 5, none⟩ = some (.int .i64 c) ∧ Only [] w w') (first | exact keep_en (by assumption) (by assumption) | exact keep_en ((Only.refl [] _).alloc _) (by assumption) | exact ⟨e0, e1, e2, e3, e4, e5, o1.drew⟩ | exact ⟨e0, e1, e2, e3, e4, e5, o1⟩ | assumption) (first | (go_at_call 112; with_reducible refine (HWC.out _ ?_ a).mono ?_; (simp [*]); rintro e w7 ⟨rfl, rfl⟩) | (go_at_call 108; with_reducible refine (HWM.out _ ?_ b).mono ?_; (simp [*]); rintro e w8 ⟨rfl, rfl⟩) | (go_at_call 114; with_reducible refine (HWS.out _ ?_ c).mono ?_; (simp [*]); rintro e w9 ⟨rfl, ho9⟩) | (go_at_call 111; with_reducible refine (or_any _ _ _ _).mono ?_; rintro e w10 ⟨rfl, rfl⟩))
      rename_i hS
      go_wp2
      go_ret
      exact ⟨by rw [hw.out]; rfl, hS.2.2.2.2.2.2⟩
  · have er : r = 1 := by
      rw [hr.out]
      unfold wrongE
      rw [hug.out, if_neg (by simp; omega), if_pos hne]
    subst er
    subst hao
    simp only [hne, decide_false, Bool.not_false] at hq
    clear hne hk1 hk2
    replace o0 := hid o0
    go_enter Tryz.func45, Tryz.ntmps45
    go_wp2_with fail
    go_region_held3 (fun w' => w'.cell? ⟨w.heap.size, 0, none⟩ = some (.int .i64 k) ∧ w'.cell? ⟨w.heap.size, 1, none⟩ = some (.string (str t)) ∧ w'.cell? ⟨w.heap.size, 2, none⟩ = some (.int .i64 n) ∧ w'.cell? ⟨w.heap.size, 3, none⟩ = some (.int .i64 a) ∧ w'.cell? ⟨w.heap.size, 4, none⟩ = some (.int .i64 b) ∧ w'.cell? ⟨w.heap.size, 5, none⟩ = some (.int .i64 c) ∧ Only [] w w') (first | exact keep_en (by assumption) (by assumption) | exact ⟨e0, e1, e2, e3, e4, e5, o0.out.drew⟩ | exact ⟨e0, e1, e2, e3, e4, e5, o0.out⟩ | assumption) (first | (go_at_call 106; with_reducible refine (HU.out _).mono ?_; rintro e w6 ⟨rfl, ho6⟩))
    go_wp2
    go_ret
    rename_i hS
    exact ⟨rfl, hS.2.2.2.2.2.2⟩

end Go.Proofs.YtildemmkhndhjaaGreatDoor
namespace Go.Proofs.YtildemmkhndhjaaGreatDoor

theorem right_ok {l : List En} {i kind : Int} (h : (rightE l i kind).2 = 0) : ∃ e, enAt l i = some e ∧ e.1 = kind ∧ wrongE l e = 0 ∧ rightE l i kind = (e, 0) := by
  unfold rightE at h ⊢
  cases he : enAt l i with
  | none =>
    rw [he] at h
    simp at h
  | some e =>
    rw [he] at h
    simp only at h ⊢
    by_cases hk : e.1 = kind
    · by_cases hw : wrongE l e = 0
      · exact ⟨e, rfl, hk, hw, by simp [hk, hw]⟩
      · simp [hk, hw] at h
    · simp [hk] at h

theorem textAt_textOf {l : List En} {i : Int} {s : List UInt8} (h : textAt l i = some s) : textOf l i = s := by
  unfold textAt at h
  unfold textOf
  split at h
  · split at h
    · simpa using h
    · cases h
  · cases h

theorem textAt_some {l : List En} {i : Int} {s : List UInt8} (h : textAt l i = some s) : ∃ e, enAt l i = some e ∧ e.1 = 1 ∧ e.2.1 = s := by
  unfold textAt at h
  split at h
  · rename_i e he
    split at h
    · rename_i h1
      exact ⟨e, he, h1, by simpa using h⟩
    · cases h
  · cases h

theorem wText_ok {l : List En} {i : Int} {f : List UInt8 → Int} (h : wText l i f = 0) : ∃ s, textAt l i = some s ∧ f s = 0 := by
  unfold wText at h
  split at h
  · rename_i s hs
    exact ⟨s, hs, h⟩
  · cases h

theorem or3_ok {x y z : Int} (h : or3 x y z = 0) : x = 0 ∧ y = 0 ∧ z = 0 := by
  unfold or3 at h
  split at h
  · split at h
    · exact ⟨by assumption, by assumption, h⟩
    · contradiction
  · contradiction

theorem fName_ok {s : List UInt8} (h : fName s = 0) : nameOK s = true := by
  unfold fName at h
  split at h
  · assumption
  · cases h

theorem fMethod_ok {s : List UInt8} (h : fMethod s = 0) : methodOK s = true := by
  unfold fMethod at h
  split at h
  · assumption
  · cases h

theorem wClass_ok {l : List En} {i : Int} (h : wClass l i = 0) : hasE l i 3 = true := by
  unfold wClass at h
  split at h
  · assumption
  · cases h

theorem wrong_used {l : List En} {e : En} (h : wrongE l e = 0) : 1 ≤ e.1 ∧ e.1 ≤ 6 ∧ e = usedE e := by
  unfold wrongE at h
  split at h
  · cases h
  · split at h
    · cases h
    · rename_i h1 h2
      refine ⟨by omega, by omega, ?_⟩
      by_cases hq : e = usedE e
      · exact hq
      · exact absurd hq h2

theorem wrong_of {l : List En} {e : En} (h1 : 1 ≤ e.1) (h6 : e.1 ≤ 6) (hu : e = usedE e) : wrongE l e =
    if e.1 = 1 then longE e.2.1 else if e.1 = 2 then 0 else
    if e.1 = 3 then wText l e.2.2.2.1 fName else
    if e.1 = 4 then wText l e.2.2.2.1 fType else
    if e.1 = 5 then or3 (wClass l e.2.2.2.1) (wText l e.2.2.2.2.1 fName) (wText l e.2.2.2.2.2 fType) else
    or3 (wClass l e.2.2.2.1) (wText l e.2.2.2.2.1 fMethod) (wText l e.2.2.2.2.2 fSig) := by
  unfold wrongE
  rw [if_neg (by omega), if_neg (fun h => h hu)]

theorem wrong_class {l : List En} {e : En} (h : wrongE l e = 0) (hk : e.1 = 3) : ∃ s, textAt l e.2.2.2.1 = some s ∧ nameOK s = true := by
  obtain ⟨h1, h6, hu⟩ := wrong_used h
  rw [wrong_of h1 h6 hu] at h
  simp [hk] at h
  obtain ⟨s, hs, hf⟩ := wText_ok h
  exact ⟨s, hs, fName_ok hf⟩

theorem wrong_type {l : List En} {e : En} (h : wrongE l e = 0) (hk : e.1 = 4) : ∃ s, textAt l e.2.2.2.1 = some s ∧ (typeR s).2 = 0 := by
  obtain ⟨h1, h6, hu⟩ := wrong_used h
  rw [wrong_of h1 h6 hu] at h
  simp [hk] at h
  exact wText_ok h

theorem wrong_field {l : List En} {e : En} (h : wrongE l e = 0) (hk : e.1 = 5) : hasE l e.2.2.2.1 3 = true ∧ (∃ s, textAt l e.2.2.2.2.1 = some s ∧ nameOK s = true) ∧ ∃ s, textAt l e.2.2.2.2.2 = some s ∧ (typeR s).2 = 0 := by
  obtain ⟨h1, h6, hu⟩ := wrong_used h
  rw [wrong_of h1 h6 hu] at h
  simp [hk] at h
  obtain ⟨ha, hb, hc⟩ := or3_ok h
  obtain ⟨s, hs, hf⟩ := wText_ok hb
  exact ⟨wClass_ok ha, ⟨s, hs, fName_ok hf⟩, wText_ok hc⟩

theorem wrong_method {l : List En} {e : En} (h : wrongE l e = 0) (hk : e.1 = 6) : hasE l e.2.2.2.1 3 = true ∧ (∃ s, textAt l e.2.2.2.2.1 = some s ∧ methodOK s = true) ∧ ∃ s, textAt l e.2.2.2.2.2 = some s ∧ (sigR s).2 = 0 := by
  obtain ⟨h1, h6, hu⟩ := wrong_used h
  rw [wrong_of h1 h6 hu] at h
  simp [hk] at h
  obtain ⟨ha, hb, hc⟩ := or3_ok h
  obtain ⟨s, hs, hf⟩ := wText_ok hb
  exact ⟨wClass_ok ha, ⟨s, hs, fMethod_ok hf⟩, wText_ok hc⟩

end Go.Proofs.YtildemmkhndhjaaGreatDoor
namespace Go.Proofs.YtildemmkhndhjaaGreatDoor
open Go.RowKit

set_option maxHeartbeats 400000 in
set_option maxRecDepth 100000 in
theorem pcheck_any {w : World} {ao : Option Addr} {l : List En} {d cap : Nat} (hE : ES w ao l d) (hl : l.length ≤ 9223372036854775807) (hA : ∀ e ∈ l, e.2.1.length ≤ 9223372036854775807) :
    Calls Tryz.prog 19 #[.slice ao l.length cap] w fun r w' => r = .returned (.tuple #[.int .i64 (checkE l).1, .int .i64 (checkE l).2]) ∧ Only [] w w' := by
  have hx : ∃ x, x = checkE l := ⟨_, rfl⟩
  obtain ⟨x, hx⟩ := hx
  rw [← hx]
  by_cases h : 4096 < l.length
  · have g1 : (4096 < (l.length : Int)) := by omega
    have e1 : x = (4096, 4) := by rw [hx]; simp [checkE, h]
    subst e1
    clear hx h
    go_enter Tryz.func19, Tryz.ntmps19
    go_wp2
    go_ret2
    exact ⟨rfl, Only.refl _ _⟩
  · have g1 : ¬ (4096 < (l.length : Int)) := by omega
    have e1 : x = firstWrong l l 0 := by rw [hx]; simp [checkE, h]
    clear hx
    replace e1 := hid e1
    go_enter Tryz.func19, Tryz.ntmps19
    go_wp2
    go_loopw [11] (fun i wr => ∃ k : Nat, k ≤ l.length ∧ i = .int .i64 (k : Int) ∧ (∀ j (hj : j < l.length), j < k → wrongE l l[j] = 0) ∧ Only [] w wr) (fun i _ => l.length - (intOf i).toNat)
    case atStart => exact ⟨0, by omega, rfl, fun j _ h => by omega, Only.refl _ _⟩
    case round =>
      obtain ⟨k, hk, rfl, hok, hor⟩ := hrel
      by_cases hlt : k < l.length
      · have g2 : ((k : Int) < (l.length : Int)) := by omega
        have HW := wrong_any (cap := cap) (hE.only hor (by simp)) hl hA k hlt
        by_cases hz : wrongE l l[k] = 0
        · rw [hz] at HW
          have hnx : ∀ j (hj : j < l.length), j < k + 1 → wrongE l l[j] = 0 := by
            intro j hj hjk
            by_cases e : j = k
            · subst e
              exact hz
            · exact hok j hj (by omega)
          clear hok hz
          replace hnx := hid hnx
          replace HW := hid HW
          go_wp2_with (go_at_call 45; refine HW.out.mono ?_; rintro e w2 ⟨rfl, ho2⟩)
          exact ⟨⟨k + 1, by omega, by go_num, hnx.out, hor.next ho2 (by simp)⟩, by simp [intOf]; omega⟩
        · have hat := firstWrong_at (l := l) (r := l) (i := 0) hlt (fun j hj => hok j (by omega) hj) hz
          rw [← e1.out] at hat
          generalize wrongE l l[k] = c at *
          have g3 : (c == 0) = false := by simpa using hz
          replace hat := hid hat
          clear hok hz
          replace HW := hid HW
          go_wp2_with (go_at_call 45; refine HW.out.mono ?_; rintro e w2 ⟨rfl, ho2⟩)
          go_ret2
          exact ⟨by rw [hat.out]; simp, hor.next ho2 (by simp)⟩
      · have g2 : ¬ ((k : Int) < (l.length : Int)) := by omega
        obtain rfl : k = l.length := by omega
        have hall := firstWrong_ok (l := l) (r := l) (i := 0) fun e he => by
          obtain ⟨j, hj, rfl⟩ := List.getElem_of_mem he
          exact hok j hj hj
        rw [← e1.out] at hall
        clear hok
        replace hall := hid hall
        go_wp2
        go_ret2
        exact ⟨by rw [hall.out]; rfl, hor⟩

/-- An entry of one's own in a block. -/
structure EnW (w : World) (b : Nat) (e : En) : Prop where
  c : EnAt w b 0 e
  f : ∀ i, i < 6 → w.frozen? ⟨b, i, none⟩ = false

theorem enW_new (w : World) (e : En) (t : TypeId) : EnW (w.alloc (.cells #[.int .i64 e.1, .string (str e.2.1), .int .i64 e.2.2.1, .int .i64 e.2.2.2.1, .int .i64 e.2.2.2.2.1, .int .i64 e.2.2.2.2.2] t)) w.heap.size e :=
  ⟨enAt_new w e t, fun _ _ => frozen_new _ _ _ _⟩

theorem EnW.only {w w' : World} {S : List Nat} {b : Nat} {e : En} (h : EnW w b e) (ho : Only S w w') (hb : b ∉ S) : EnW w' b e :=
  ⟨h.c.only ho hb, fun i hi => by rw [ho.frozen h.c.lt hb]; exact h.f i hi⟩

theorem right_result {w : World} {b : Nat} {e : En} {x : Value} (h : EnAt w b 0 e) (tmps : Array Value) (h2 : tmps.getD 6 undef = .pointer (some ⟨b, 0, none⟩)) (h3 : tmps.getD 7 undef = x) :
    (results Tryz.f211 tmps).run Tryz.prog w = .ok (.tuple #[enV e, x]) w := by
  obtain ⟨c0, c1, c2, c3, c4, c5⟩ := h
  simp only [Nat.zero_add] at c0 c1 c2 c3 c4 c5
  rw [results_cell_tmp (p := 6) (u := 7) (ty := 90) Tryz.results211, h2, h3]
  simp [go_sem, c0, c1, c2, c3, c4, c5, enV]

set_option maxHeartbeats 400000 in
set_option maxRecDepth 100000 in
theorem right_any {w : World} {ao : Option Addr} {l : List En} {d cap : Nat} (hE : ES w ao l d) (hl : l.length ≤ 9223372036854775807) (hA : ∀ e ∈ l, e.2.1.length ≤ 9223372036854775807) (i kind : Int) :
    Calls Tryz.prog 211 #[.slice ao l.length cap, .int .i64 i, .int .i64 kind] w fun r w' => r = .returned (.tuple #[enV (rightE l i kind).1, .int .i64 (rightE l i kind).2]) ∧ Only [] w w' := by
  have o0 := (Only.refl [] w).alloc (.cells #[.int .i64 0, .string ⟨#[]⟩, .int .i64 0, .int .i64 0, .int .i64 0, .int .i64 0] 90)
  have HH := has_any' (cap := cap) (hE.only o0 (by simp)) hl i kind
  have E0 := enW_new w en0 90
  simp only [en0] at E0
  cases h : hasE l i kind with
  | false =>
    have e1 : rightE l i kind = (en0, 16) := by
      unfold rightE
      unfold hasE at h
      cases he : enAt l i with
      | none => rfl
      | some e =>
        rw [he] at h
        simp at h
        simp [h]
    rw [e1]
    rw [h] at HH
    simp only [enV, en0]
    clear h e1 hE
    replace HH := hid HH
    replace E0 := hid E0
    go_enter Tryz.func211, Tryz.ntmps211
    go_wp2_with (go_at_call 158; refine HH.out.mono ?_; rintro e w' ⟨rfl, rfl⟩)
    exact bodyPost_ret (right_result E0.out.c _ rfl rfl) rfl ⟨rfl, o0⟩
  | true =>
    obtain ⟨e, he, hk⟩ := hasE_kind h
    obtain ⟨j, hj, rfl, rfl⟩ := enAt_some he
    have e1 : rightE l (j : Int) kind = if wrongE l l[j] = 0 then (l[j], 0) else (en0, wrongE l l[j]) := by
      unfold rightE
      rw [he]
      simp only [hk, if_true]
    rw [e1]
    rw [h] at HH
    clear e1 h hk he
    have HW := wrong_any (cap := cap) (hE.only o0 (by simp)) hl hA j hj
    have hJ := fun W (hW : Only [] w W) => (hE.only hW (by simp)).at hj
    have g2 : ((j : Int) < (l.length : Int)) := by omega
    generalize wrongE l l[j] = c at *
    generalize l[j] = e at *
    clear hE
    obtain ⟨k, t, n, a, b, z⟩ := e
    replace HH := hid HH
    replace E0 := hid E0
    replace HW := hid HW
    replace hJ := hid hJ
    by_cases hc : c = 0
    · subst hc
      simp only [if_true, enV]
      go_enter Tryz.func211, Tryz.ntmps211
      go_wp2_with (first | (go_at_call 158; refine HH.out.mono ?_; rintro e w' ⟨rfl, rfl⟩) | fail)
      refine HW.out.mono ?_
      rintro e w1 ⟨rfl, ho1⟩
      have o1 := o0.next ho1 (by simp)
      obtain ⟨off, rfl, y0, y1, y2, y3, y4, y5⟩ := hJ.out w1 o1
      have E1 := E0.out.only ho1 (by simp)
      have f0 := E1.f 0 (by omega)
      have f1 := E1.f 1 (by omega)
      have f2 := E1.f 2 (by omega)
      have f3 := E1.f 3 (by omega)
      have f4 := E1.f 4 (by omega)
      have f5 := E1.f 5 (by omega)
      obtain ⟨⟨e0, e1, e2, e3, e4, e5⟩, _⟩ := E1
      simp only [Nat.zero_add] at e0 e1 e2 e3 e4 e5
      have K1 := hid (E0.out.only ho1 (by simp))
      go_wp2
      exact bodyPost_ret (right_result (K1.out.c.put (k, t, n, a, b, z)) _ rfl rfl) rfl ⟨rfl, put6_only o1 (.inr (by simp)) _ _ _ _ _ _⟩
    · have g3 : (c == 0) = false := by simpa using hc
      simp only [hc, if_false, enV, en0]
      clear hc
      go_enter Tryz.func211, Tryz.ntmps211
      go_wp2_with (first | (go_at_call 158; refine HH.out.mono ?_; rintro e w' ⟨rfl, rfl⟩) | fail)
      refine HW.out.mono ?_
      rintro e w1 ⟨rfl, ho1⟩
      have o1 := o0.next ho1 (by simp)
      have E1 := E0.out.only ho1 (by simp)
      have f0 := E1.f 0 (by omega)
      have f1 := E1.f 1 (by omega)
      have f2 := E1.f 2 (by omega)
      have f3 := E1.f 3 (by omega)
      have f4 := E1.f 4 (by omega)
      have f5 := E1.f 5 (by omega)
      obtain ⟨⟨e0, e1, e2, e3, e4, e5⟩, _⟩ := E1
      simp only [Nat.zero_add] at e0 e1 e2 e3 e4 e5
      have K1 := hid (E0.out.only ho1 (by simp))
      go_wp2
      exact bodyPost_ret (right_result (K1.out.c.put (0, [], 0, 0, 0, 0)) _ rfl rfl) rfl ⟨rfl, put6_only o1 (.inr (by simp)) _ _ _ _ _ _⟩

end Go.Proofs.YtildemmkhndhjaaGreatDoor
