/-
  The contract of the laws' number; rows of bytes that are cut. No conditions beyond the arguments' own shape.
-/
import Derived.Test.YtkaklabcfhefaaaAHelp
namespace Go.Proofs.Ytkaklabcfhefaaa
open Go.RowKit

set_option linter.unusedSimpArgs false

/-- What the first k bytes say. -/
def beK (f : Nat → UInt8) : Nat → Nat
  | 0 => 0
  | k + 1 => beK f k * 256 + (f k).toNat

theorem beK_lt (f : Nat → UInt8) (k : Nat) : beK f k < 256 ^ k := by
  induction k with
  | zero => simp [beK]
  | succ k ih =>
    have := (f k).toNat_lt
    rw [beK, Nat.pow_succ]
    omega

theorem beK_lt7 (f : Nat → UInt8) (k : Nat) (h : k < 8) : beK f k < 72057594037927936 := by
  have h1 := beK_lt f k
  have h2 : 256 ^ k ≤ 256 ^ 7 := Nat.pow_le_pow_right (by decide) (by omega)
  have h3 : (256 : Nat) ^ 7 = 72057594037927936 := by decide
  omega

theorem beK_join (f : Nat → UInt8) : beK f 8 = joinW f := by
  simp only [beK, joinW]
  omega

theorem conv_i64 (x : Nat) : wrap64 ((x : Nat) : Int) = IntKind.i64.wrap ((x : Nat) : Int) := by
  rw [IntKind.wrap_i64]
  unfold wrap64
  rfl

set_option maxHeartbeats 1000000 in
theorem lnumber_any {w : World} {ao : Option Addr} {ws : List Int} {d : Nat} (h : RS w ao (bcs (encWs ws)) d) (hr : ∀ v ∈ ws, i64 v) (few : 8 * ws.length ≤ 1048576) (i : Nat) (hi : i < ws.length) (n cap : Nat) (hn : n = 8 * ws.length) (x : Int) (hx : x = ((8 * i : Nat) : Int)) :
    Calls Try.prog 30 #[.slice ao n cap, .int .i64 x] w fun e w' => e = .returned (.int .i64 ws[i]) ∧ w = w' := by
  subst hn
  obtain ⟨off, rfl, hc⟩ := h.at (j := 8 * i) (by rw [bcs_length, encWs_length]; omega)
  have hb : ∀ k, k < 8 → w.cell? ⟨d, off + (8 * i + k), none⟩ = some (.int .u8 (byteW ws[i] k).toNat) := fun k hk =>
    hc (8 * i + k) (.int .u8 (byteW ws[i] k).toNat) (by rw [bcs, List.getElem?_map, encWs_get ws i k hi hk]; rfl)
  have hj := join_byte _ (hr _ (List.getElem_mem hi))
  clear hc
  have hlen : 8 * i + 8 ≤ 8 * ws.length := by omega
  generalize ws[i] = v at *
  generalize byteW v = f at *
  generalize 8 * ws.length = n at *
  generalize 8 * i = p at *
  subst hx
  replace hj := hid hj
  replace hb := hid hb
  go_enter Try.func30, Try.ntmps30
  go_wp2
  go_loopw [5, 6] (fun v i wr => ∃ q k : Nat, Hid (q = p + k) ∧ k ≤ 8 ∧ i = .int .i64 (q : Int) ∧ v = .int .u64 ((beK f k : Nat) : Int) ∧ wr = w) (fun _ i _ => p + 8 - (intOf i).toNat)
  case atStart => exact ⟨p, 0, hid rfl, by omega, rfl, rfl, rfl⟩
  case round =>
    obtain ⟨q, k, hq, hk, rfl, rfl, rfl⟩ := hrel
    by_cases hlt : k < 8
    · have hc := hb.out k hlt
      rw [← hq.out] at hc
      have i0 := hq.out
      have i1 : (q : Int) < (p : Int) + 8 := by omega
      have i2 : (q : Int) < (n : Int) := by omega
      have hv := beK_lt7 f k hlt
      have hor := or_shl8c (beK f k) (f k).toNat hv (f k).toNat_lt
      have e1 : IntKind.u64.wrap (((beK f k : Nat) : Int) * 256) = ((beK f k : Nat) : Int) * 256 := by rw [IntKind.wrap_u64]; omega
      rw [e1] at hor
      clear e1
      replace hor := hid hor
      have hsucc : beK f (k + 1) = beK f k * 256 + (f k).toNat := rfl
      replace hsucc := hid hsucc
      replace i0 := hid i0
      generalize beK f k = b at *
      generalize (f k).toNat = c at *
      go_wp2
      exact ⟨⟨q + 1, k + 1, hid (by rw [i0.out]; omega), hlt, by go_num, by rw [hor.out, hsucc.out], trivial⟩, by have := i0.out; simp [intOf]; omega⟩
    · have : k = 8 := by omega
      subst this
      have i0 := hq.out
      have i1 : ¬ (q : Int) < (p : Int) + 8 := by omega
      replace i0 := hid i0
      have hfin : wrap64 ((beK f 8 : Nat) : Int) = v := by rw [conv_i64, beK_join, hj.out]
      go_wp2
      go_ret
      first
      | exact ⟨rfl, rfl⟩
      | (rw [hfin]; exact ⟨rfl, rfl⟩)

end Go.Proofs.Ytkaklabcfhefaaa
