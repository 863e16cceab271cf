/-
  The contract of lay: a number laid down in a row of bytes that the call owns. No conditions beyond the receiver's own shape.
-/
import Derived.Test.YtkaklabcfhefaabARd
namespace Go.Proofs.Ytkaklabcfhefaab
open Go.RowKit

theorem bcs_set (l : List UInt8) (j : Nat) (b : UInt8) : bcs (l.set j b) = (bcs l).set j (.int .u8 (b.toNat : Int)) := by simp [bcs, List.map_set]

set_option maxHeartbeats 1000000 in
theorem lay_raw {w : World} {a o g n cap p : Nat} {bs : List UInt8} (c1 : w.cell? ⟨a, o + 1, none⟩ = some (.slice (some ⟨g, 0, none⟩) n cap)) (own : w.ownsRow 0 5 1 (.slice (some ⟨g, 0, none⟩) n cap) n (bcs bs))
    (hp : p + 8 ≤ n) (hn : n ≤ 1048576) (x v : Int) (hx : x = (p : Int)) (hv : i64 v) :
    Calls Try.prog 24 #[.pointer (some ⟨a, o, none⟩), .int .i64 x, .int .i64 v] w fun e w' => e = .returned (.tuple #[]) ∧ w'.ownsRow 0 5 1 (.slice (some ⟨g, 0, none⟩) n cap) n (bcs (putB bs p v 8)) ∧ Only [g] w w' := by
  have hcap : n ≤ cap := by
    obtain ⟨_, h, _⟩ := RS.of_owns own
    exact h
  have hbl : bs.length = n := by
    have := own.1
    simp [bcs] at this
    exact this
  have k1 := slice_mid g 0 n cap p (p + 8) x (x + 8) hx (by omega) (by omega) (by omega)
  rw [show p + 8 - p = 8 by omega, Nat.zero_add] at k1
  have x0 : 0 ≤ x := by omega
  have x1 : x ≤ 1048576 := by omega
  obtain ⟨v0, v1⟩ := hv
  clear hx
  go_enter Try.func24, Try.ntmps24
  go_wp2
  go_loopw [18] (fun i wr => ∃ k : Nat, k ≤ 8 ∧ i = .int .i64 (k : Int) ∧ wr.ownsRow 0 5 1 (.slice (some ⟨g, 0, none⟩) n cap) n (bcs (putB bs p v k)) ∧ Only [g] w wr) (fun i _ => 8 - (intOf i).toNat)
  case atStart => exact ⟨0, by omega, rfl, own, Only.refl _ _⟩
  case round =>
    obtain ⟨k, hk, rfl, ow, ho⟩ := hrel
    by_cases hlt : k < 8
    · have hcell := ow.cellAt (p + k) (by omega)
      have hfr := ow.frozenAt (p + k)
      obtain ⟨u, hu⟩ : ∃ u, (bcs (putB bs p v k))[p + k]? = some u := ⟨_, List.getElem?_eq_getElem (by simp [bcs, putB_length]; omega)⟩
      rw [hu] at hcell
      go_wp2
      have hval : v / 2 ^ (8 * (7 - k)) % 256 = (((byteW v k).toNat : Nat) : Int) := by rw [byteW_toNat, show 56 - 8 * k = 8 * (7 - k) by omega]
      rw [hval]
      obtain ⟨q1, q2⟩ := ow.stored (p + k) (.int .u8 ((byteW v k).toNat : Int))
      rw [← bcs_set] at q1
      exact ⟨⟨k + 1, by omega, by go_num, q1, (ho.trans (Only.of_grown q2) (by simp))⟩, by simp [intOf]; omega⟩
    · have : k = 8 := by omega
      subst this
      go_wp2
      go_end0
      exact ⟨rfl, ow, ho⟩

end Go.Proofs.Ytkaklabcfhefaab
