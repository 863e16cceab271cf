/-
  A number that is gone through case by case where it is cut by three.
-/
import Derived.Test.YtllbjkeahafleaaGreatDoorRN30
set_option linter.unusedSimpArgs false
namespace Go.Proofs.YtllbjkeahafleaaGreatDoor
namespace Rn
open Go.RowKit

/-- What is left of a number by three: case by case, or the call as it is. -/
def split3K : ExF := fun args h K N => match args with
  | x :: y :: [] => match x with
    | .complex .f32 _ m => match m with
      | 0 => match y with
        | .int .i64 (.ofNat n) => match Nat.beq n 3 with
          | true => And (K (i64 0) h) (And (K (i64 1) h) (K (i64 2) h))
          | false => N
        | _ => N
      | _ + 1 => N
    | _ => N
  | _ => N
section
variable {P : Program} {B : Tb} {φ : Fi} {h : Hp} {w : World} {A C : Li} {z : Int}
theorem split3K_ok {g : Nat} (hb : ∃ fn c, P.funcs[g]? = some fn ∧ fn.body = some c)
    (hI : ∀ (x : Int) (n : Nat) (w : World), -9223372036854775808 ≤ x → x < 9223372036854775808 → 0 < n → n < 1000000000 → Calls P g #[.int .i64 x, .int .i64 n] w fun e w' => e = .returned (.int .i64 (left x n)) ∧ w'.heap = w.heap ∧ Sm w w') : ExOK P B g split3K := {
  body := hb
  run := fun {args args' h K N φ w} hw hargs hk => by
    unfold split3K at hk
    split at hk
    · rename_i x y
      match args', hargs with
      | x' :: y' :: [], ⟨hx, hy, _⟩ =>
      split at hk
      · rename_i r m
        split at hk
        · split at hk
          · rename_i n
            split at hk
            · rename_i hb3
              have := Nat.eq_of_beq_eq_true hb3
              subst this
              right
              obtain ⟨s, h1, h2, rfl⟩ := hx.inv
              have ey : y' = .int .i64 (.ofNat 3) := hy.inv
              subst ey
              have h2' : s.b < 18446744073709551616 := h2
              obtain ⟨c, hc, hl⟩ := left_lt (x := (s.b : Int) - 9223372036854775808) (n := 3) (by omega)
              refine (hI ((s.b : Int) - 9223372036854775808) 3 w (by omega) (by omega) (by omega) (by omega)).mono ?_
              rintro e w' ⟨rfl, hh, hsm⟩
              have hk1 : ∀ k, k < w.heap.size → w'.heap[k]? = w.heap[k]? := fun k _ => by rw [hh]
              have hs1 : w.heap.size ≤ w'.heap.size := by rw [hh]; exact Nat.le_refl _
              refine ⟨φ, h, i64 c, _, rfl, ?_, hw.behind hs1 hk1, St.behind hs1 hk1 hsm, ?_⟩
              · rw [hl]
                exact int_vr
              · obtain ⟨k0, k1, k2⟩ := hk
                rcases (by omega : c = 0 ∨ c = 1 ∨ c = 2) with rfl | rfl | rfl <;> assumption
            · exact .inl hk
          · exact .inl hk
        · exact .inl hk
      · exact .inl hk
    · exact .inl hk }
/-- One place more. -/
theorem WR.extend {r0 : Nat} {s : Sl} (hw : WR B φ h w) (h0 : φ r0 = none) (hl : r0 < h.next) (hg : GL ≤ r0) : WR B (fun r => if r = r0 then some s else φ r) h w := by
  have hext : ∀ r s', φ r = some s' → (if r = r0 then some s else φ r) = some s' := fun r s' hs' => by
    have : r ≠ r0 := by rintro rfl; rw [h0] at hs'; cases hs'
    simp [this, hs']
  have hback : ∀ r o s', tget W h.rows r = some o → (if r = r0 then some s else φ r) = some s' → φ r = some s' := fun r o s' ho hs' => by
    obtain ⟨s1, h1, _⟩ := hw.rows r o ho
    have : r ≠ r0 := by rintro rfl; rw [h0] at h1; cases h1
    simpa [this] using hs'
  refine ⟨fun r o ho => ?_, fun r r' o o' s1 hl ho ho' h1 h2 => ?_, fun r hr => ?_, hw.live, hw.few, hw.low.1, hw.low.2.new hg⟩
  · obtain ⟨s1, h1, h2⟩ := hw.rows r o ho
    exact ⟨s1, hext r s1 h1, h2.keep hext (Nat.le_refl _) rfl⟩
  · obtain ⟨s2, h2, h3⟩ := h2
    exact hw.apart r r' o o' s1 hl ho ho' (hback r o s1 ho h1) ⟨s2, hback r' o' s2 ho' h2, h3⟩
  · have : r ≠ r0 := by omega
    simp only [this, if_false]
    exact hw.below r hr
/-- All places, and that of a number. -/
def placeN (A C : Li) (z : Int) : Fi := fun r => if r = 1009 then some (encZ z) else place A C r
theorem place_9 : place A C 1009 = none := by simp [place]
theorem WR.andN (hn : h.next = 1030) (hw : WR B (place A C) h w) : WR B (placeN A C z) h w := hw.extend place_9 (by rw [hn]; omega) (by decide)
theorem placeN_0 : placeN A C z 1000 = some ⟨A.b, A.off, A.cap, 1⟩ := by simp [placeN, place]
theorem placeN_1 : placeN A C z 1001 = some ⟨C.b, C.off, C.cap, 1⟩ := by simp [placeN, place]
theorem placeN_2 : placeN A C z 1002 = some ⟨A.zs.length, 0, 0, 0⟩ := by simp [placeN, place]
theorem placeN_3 : placeN A C z 1003 = some ⟨C.zs.length, 0, 0, 0⟩ := by simp [placeN, place]
theorem placeN_9 : placeN A C z 1009 = some (encZ z) := by simp [placeN]
theorem num_vr (hz : -9223372036854775808 ≤ z ∧ z < 9223372036854775808) : VR (placeN A C z) (.complex .f32 1009 0) (.int .i64 z) :=
  VR.mk (v := .complex .f32 1009 0) ⟨encZ z, placeN_9, sym_all hz, (sym_num hz (.inl rfl)).symm⟩
theorem ways0 : ∀ {l : List Nat}, (∀ m ∈ l, m = 0) → numWays l := fun h m hm => .inl (h m hm)
end

end Rn
end Go.Proofs.YtllbjkeahafleaaGreatDoor
