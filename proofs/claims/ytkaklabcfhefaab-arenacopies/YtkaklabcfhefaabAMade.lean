/-
  The contract of the laws' made. No conditions beyond the arguments' own shape.
-/
import Derived.Test.YtkaklabcfhefaabALaw
namespace Go.Proofs.Ytkaklabcfhefaab
open Go.RowKit

set_option linter.unusedSimpArgs false

/-- A call: its kind, N, M, At, V. -/
abbrev Cl := Int × Int × Int × Int × Int
def clC (c : Cl) : List Value := [.int .i64 c.1, .int .i64 c.2.1, .int .i64 c.2.2.1, .int .i64 c.2.2.2.1, .int .i64 c.2.2.2.2]
def clz (L : List Cl) : List Value := L.flatMap clC

theorem clz_length (L : List Cl) : (clz L).length = 5 * L.length := by
  induction L with
  | nil => rfl
  | cons c L ih =>
    have : clz (c :: L) = clC c ++ clz L := rfl
    rw [this, List.length_append, ih]
    simp [clC]
    omega

theorem clz_get (L : List Cl) (j i : Nat) (hj : j < L.length) (hi : i < 5) : (clz L)[5 * j + i]? = (clC L[j])[i]? := by
  induction L generalizing j with
  | nil => simp at hj
  | cons c L ih =>
    have : clz (c :: L) = clC c ++ clz L := rfl
    have lc : (clC c).length = 5 := rfl
    rw [this]
    cases j with
    | zero => rw [List.getElem?_append_left (by omega)]; simp
    | succ j =>
      rw [List.getElem?_append_right (by omega), lc, show 5 * (j + 1) + i - 5 = 5 * j + i by omega, ih j (by simpa using hj)]
      rfl

/-- Calls that came in, in a block d. -/
structure ClS (w : World) (ao : Option Addr) (L : List Cl) (d : Nat) : Prop where
  rs : RS w ao (clz L) d
  all : ∀ c ∈ L, i64 c.1 ∧ i64 c.2.1 ∧ i64 c.2.2.1 ∧ i64 c.2.2.2.1 ∧ i64 c.2.2.2.2

theorem ClS.kep {w w' : World} {N : Nat → Prop} {ao : Option Addr} {L : List Cl} {d : Nat} (h : ClS w ao L d) (hk : Kep N w w') (hd : L ≠ [] → N d) : ClS w' ao L d :=
  ⟨h.rs.kep hk fun hn => hd fun e => hn (by rw [e]; rfl), h.all⟩

theorem ClS.at {w : World} {ao : Option Addr} {L : List Cl} {d : Nat} (h : ClS w ao L d) {j : Nat} (hj : j < L.length) : ∃ off, ao = some ⟨d, off, none⟩ ∧
    w.cell? ⟨d, off + 5 * j, none⟩ = some (.int .i64 L[j].1) ∧ w.cell? ⟨d, off + 5 * j + 1, none⟩ = some (.int .i64 L[j].2.1) ∧ w.cell? ⟨d, off + 5 * j + 2, none⟩ = some (.int .i64 L[j].2.2.1) ∧ w.cell? ⟨d, off + 5 * j + 3, none⟩ = some (.int .i64 L[j].2.2.2.1) ∧ w.cell? ⟨d, off + 5 * j + 4, none⟩ = some (.int .i64 L[j].2.2.2.2) := by
  obtain ⟨off, ha, hc⟩ := h.rs.at (j := 5 * j) (by rw [clz_length]; omega)
  have q : ∀ i, i < 5 → ∀ u, (clC L[j])[i]? = some u → w.cell? ⟨d, off + 5 * j + i, none⟩ = some u := fun i hi u hu => by
    have := hc (5 * j + i) u (by rw [clz_get L j i hj hi]; exact hu)
    rw [← Nat.add_assoc] at this
    exact this
  exact ⟨off, ha, q 0 (by omega) _ rfl, q 1 (by omega) _ rfl, q 2 (by omega) _ rfl, q 3 (by omega) _ rfl, q 4 (by omega) _ rfl⟩

/-- What made makes, of the first j calls. -/
def madeTo (m : Nat) (L : List Cl) (j : Nat) : St := (L.take j).foldl (fun s c => (makeS s c.2.1 (c.2.2.1 % 20)).1) ⟨m, [], [], none⟩

theorem madeTo_succ (m : Nat) (L : List Cl) (j : Nat) (h : j < L.length) : madeTo m L (j + 1) = (makeS (madeTo m L j) L[j].2.1 (L[j].2.2.1 % 20)).1 := by
  unfold madeTo
  rw [List.take_succ_eq_append_getElem h, List.foldl_append]
  rfl

set_option maxHeartbeats 2000000 in
theorem made_any {w : World} {N : Nat → Prop} (hN : ∀ b, N b → b < w.heap.size) (x : Int) {ao : Option Addr} {L : List Cl} {cap d : Nat} (hL : ClS w ao L d) (hd : L ≠ [] → N d) (hl : L.length ≤ 9223372036854775807) :
    Calls Try.prog 6 #[.int .i64 x, .slice ao L.length cap] w fun e w' => e = .returned (.pointer (some ⟨w.heap.size, 0, none⟩)) ∧ Ar w' N w.heap.size (madeTo (256 + (x % 8000).toNat) L (min 60 L.length)).sw ∧ Kep N w w' := by
  have hW := hid within_at
  have x0 : 0 ≤ x % 8000 := Int.emod_nonneg _ (by decide)
  have x1 : x % 8000 < 8000 := Int.emod_lt_of_pos _ (by decide)
  have hNw := hid (New_any w N hN (256 + x % 8000) ⟨by omega, by omega⟩ (256 + (x % 8000).toNat) (by omega) (by omega) (by omega))
  generalize hm : 256 + (x % 8000).toNat = m at *
  generalize hy : x % 8000 = y at *
  replace hm := hid hm
  have hy' := hid hy
  clear hy
  have hWx := hid (fun W => (hW.out x 8000 ⟨by decide, by decide⟩ W).mono (R' := fun e w' => e = .returned (.int .i64 y) ∧ W = w') (fun e w' ⟨h1, h2⟩ => ⟨by rw [h1, hy'.out], h2⟩))
  go_enter Try.func6, Try.ntmps6
  go_wp2_with (first
    | (go_at_call 13; with_reducible refine (hWx.out _).mono ?_; rintro e w1 ⟨rfl, rfl⟩)
    | (go_at_call 19; refine hNw.out.mono ?_; rintro e w2 ⟨rfl, A1, K1, _⟩; replace A1 := hid A1; replace K1 := hid K1))
  clear hNw hWx hN
  go_loopw [7] (fun i wr => ∃ j : Nat, j ≤ min 60 L.length ∧ i = .int .i64 (j : Int) ∧ Hid (Ar wr N w.heap.size (madeTo m L j).sw) ∧ Hid (Kep N w wr)) (fun i _ => 60 - (intOf i).toNat)
  case atStart => exact ⟨0, Nat.zero_le _, rfl, A1, K1⟩
  case round =>
    obtain ⟨j, hj, rfl, hA, hK⟩ := hrel
    generalize hsz : w.heap.size = a at *
    by_cases hlt : j < L.length ∧ j < 60
    · obtain ⟨h1, h2⟩ := hlt
      obtain ⟨off, rfl, _, c1, c2, _, _⟩ := (hL.kep hK.out hd).at h1
      obtain ⟨_, q1, q2, _, _⟩ := hL.all _ (List.getElem_mem h1)
      have hs := madeTo_succ m L j h1
      have i1 : (j : Int) < (L.length : Int) := by omega
      have i2 : (j : Int) < 60 := by omega
      rw [Nat.mul_comm 5 j] at c1 c2
      have b0 : 0 ≤ L[j].2.2.1 % 20 := Int.emod_nonneg _ (by decide)
      have b1 : L[j].2.2.1 % 20 < 20 := Int.emod_lt_of_pos _ (by decide)
      have hM := hid (fun W (ho : Only [] wr W) => (Make_any (hA.out.only0 ho) L[j].2.1 (L[j].2.2.1 % 20) q1 ⟨by omega, by omega⟩).mono (R' := fun e w' => e = .returned (.tuple #[.int .i64 (makeS (madeTo m L j) L[j].2.1 (L[j].2.2.1 % 20)).2.1, .int .i64 (makeS (madeTo m L j) L[j].2.1 (L[j].2.2.1 % 20)).2.2]) ∧ Ar w' N a (makeS (madeTo m L j) L[j].2.1 (L[j].2.2.1 % 20)).1.sw ∧ Kep N wr w') (fun e w' ⟨z1, z2, z3⟩ => ⟨z1, z2, (Kep.of0 ho).trans z3⟩))
      have hWj := hid (fun W => hW.out L[j].2.2.1 20 ⟨by decide, by decide⟩ W)
      rw [← hs] at hM
      clear hs b0 b1 q1 q2
      generalize hn : (makeS (madeTo m L j) L[j].2.1 (L[j].2.2.1 % 20)).2 = r at *
      replace hn := hid hn
      generalize L[j].2.2.1 % 20 = n at *
      generalize L[j].2.2.1 = mm at *
      generalize L[j].2.1 = kk at *
      go_wp2
      go_region_with (first
        | (go_at_call 13; with_reducible refine (hWj.out _).mono ?_; rintro e w3 ⟨rfl, rfl⟩)
        | (go_at_call 17; with_reducible refine (hM.out _ (by repeat (first | with_reducible exact Only.refl _ _ | with_reducible refine Only.drew ?_ | with_reducible refine onlyN ?_ _))).mono ?_; rintro e w4 ⟨rfl, hA4, hK4⟩; replace hA4 := hid hA4; replace hK4 := hid hK4))
      all_goals
        go_wp2
        exact ⟨⟨j + 1, by omega, by go_num, hA4, hid (hK.out.trans hK4.out)⟩, by simp [intOf]; omega⟩
    · have hj2 : j = min 60 L.length := by omega
      rw [hj2] at hA
      by_cases h1 : j < L.length
      · have i1 : (j : Int) < (L.length : Int) := by omega
        have i2 : ¬ (j : Int) < 60 := by omega
        clear hj2 hlt hj
        go_wp2
        go_ret
        exact ⟨rfl, hA.out, hK.out⟩
      · have i1 : ¬ (j : Int) < (L.length : Int) := by omega
        clear hj2 hlt hj
        go_wp2
        go_ret
        exact ⟨rfl, hA.out, hK.out⟩

end Go.Proofs.Ytkaklabcfhefaab
