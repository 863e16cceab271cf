/-
  The contracts of maps' writer of bits: fill, and of the writer of maps: put, Bits. Maps of at most 1000 places each, at most 1000 maps.
-/
import Derived.Test.YtmghmmkjcgopaaaGWr
namespace Go.Proofs.Ytmghmmkjcgopaaa
open Go.RowKit

set_option maxHeartbeats 1000000 in
theorem wfill_any {w : World} {B q p g : Nat} {P : List Bool} {s : List UInt8 × Int} (h : BW w B q p g P s) (hsz : s.1.length ≤ 100000000000) :
    Calls Try.prog 35 #[.pointer (some ⟨q, 0, none⟩)] w fun e w' => e = .returned (.tuple #[]) ∧ BTo w B q p g w' (wFill (P, s)) := by
  have HB := hid h
  obtain ⟨c0, c1, c2, f1, f2, wr', np, ng, hP⟩ := h
  by_cases h0 : P.length = 0
  · have he : wFill (P, s) = (P, s) := by unfold wFill; rw [if_pos h0]
    rw [he]
    rw [h0] at c2
    go_enter Try.func35, Try.ntmps35
    go_wp2
    go_end0
    exact ⟨rfl, g, HB.out, .inl rfl, Only.refl _ _⟩
  · have he : wFill (P, s) = wBits (P, s) (List.replicate (8 - P.length) false) := by unfold wFill; rw [if_neg h0]
    rw [he]
    have h1 : (0 : Int) < (P.length : Int) := by omega
    have hmk := make_bits (8 - P.length) (by omega)
    have hme : (8 : Int) - (P.length : Int) = ((8 - P.length : Nat) : Int) := by omega
    have hown := made_own w (8 - P.length) (by omega)
    obtain ⟨Zs, hZ⟩ : ∃ Zs, Zs = madeCells (Value.bool false).cells ((8 - P.length) * 1) := ⟨_, rfl⟩
    rw [← hZ] at hmk hown
    rw [← hme] at hmk
    clear hZ
    have hO := (Only.refl [] w).alloc (.cells Zs 4)
    have HW := hid (wbits_any (HB.out.only hO (by simp) (by simp) (by simp)) (lao := some ⟨w.heap.size, 0, none⟩) (lcap := 8 - P.length) (d := w.heap.size) (l := List.replicate (8 - P.length) false) (RS.of_owns hown).1 (fun _ => by have := HB.out.lt; have := HB.out.wr.lt; simp; omega) (by simp; omega) (by simp; omega))
    rw [List.length_replicate] at HW
    clear hown hme
    go_enter Try.func35, Try.ntmps35
    go_wp2_with (go_at_call 34; refine HW.out.mono ?_; rintro e w2 ⟨rfl, g2, hb2, hg2, ho2⟩)
    go_end0
    have hsz2 := hO.size
    exact ⟨rfl, g2, hb2, by omega, only_two hO ho2⟩

/-- What put does. -/
def mPut (s : List UInt8 × Int) (m : Mp) : List UInt8 × Int := (wFill (wBits (wBits ([], wAll 1 (wAll 2 s [m.1]) [(m.2.1.length : Int), (m.2.2.length : Int)]) m.2.1) m.2.2)).2

theorem wFill_nil (t : WSt) (h : t.1.length < 8) : (wFill t).1 = [] := by
  obtain ⟨P, s⟩ := t
  obtain ⟨Y, k, h1, _⟩ := wFill_parts P s h []
  have : wBits (P, s) [] = (P, s) := rfl
  rw [this] at h1
  rw [h1]

end Go.Proofs.Ytmghmmkjcgopaaa
