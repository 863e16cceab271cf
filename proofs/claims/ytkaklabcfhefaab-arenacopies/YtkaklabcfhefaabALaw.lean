/-
  The contracts of the laws' within, known, made. No conditions beyond the arguments' own shape.
-/
import Derived.Test.YtkaklabcfhefaabACopy
namespace Go.Proofs.Ytkaklabcfhefaab
open Go.RowKit

set_option linter.unusedSimpArgs false

theorem within_any (a n : Int) (hn : 0 < n ∧ n < 1000000) (w : World) : Calls Try.prog 13 #[.int .i64 a, .int .i64 n] w fun e w' => e = .returned (.int .i64 (a % n)) ∧ w' = w := by
  have hz : ¬ (n = 0) := by omega
  have hm : ¬ (n = -1) := by omega
  have b1 := Int.tmod_lt_of_pos a hn.1
  have b2 : -n < a.tmod n := Int.lt_tmod_of_pos a hn.1
  by_cases h : a.tmod n < 0
  · have e : a % n = a.tmod n + n := by
      have q := @Int.emod_eq_tmod a n
      have e0 := Int.emod_nonneg a (by omega : n ≠ 0)
      have e1 : (n.natAbs : Int) = n := Int.natAbs_of_nonneg (by omega)
      split at q
      · omega
      · omega
    go_enter Try.func13, Try.ntmps13
    go_wp2
    go_ret
    first
      | exact ⟨rfl, rfl⟩
      | (rw [e]; exact ⟨rfl, rfl⟩)
  · have e : a % n = a.tmod n := by
      have q := @Int.emod_eq_tmod a n
      have e0 := Int.emod_lt_of_pos a hn.1
      have e1 : (n.natAbs : Int) = n := Int.natAbs_of_nonneg (by omega)
      split at q
      · omega
      · omega
    go_enter Try.func13, Try.ntmps13
    go_wp2
    go_ret
    first
      | exact ⟨rfl, rfl⟩
      | (rw [e]; exact ⟨rfl, rfl⟩)

theorem within_at (a n : Int) (hn : 0 < n ∧ n < 1000000) (w : World) : Calls Try.prog 13 #[.int .i64 a, .int .i64 n] w fun e w' => e = .returned (.int .i64 (a % n)) ∧ w = w' :=
  (within_any a n hn w).mono fun _ _ ⟨h1, h2⟩ => ⟨h1, h2.symm⟩

theorem Kep.only {w w' : World} (h : Kep (fun b => b < w.heap.size) w w') : Only [] w w' := by
  obtain ⟨S, h1, h2⟩ := h
  exact h1.mono fun x hx => .inr (by have := h2 x hx; omega)

/-- A known arena's state, by steps. -/
def sK0 : St := ⟨256, [], [], none⟩
def sK1 : St := (makeS sK0 1 2).1
def sK2 : St := (makeS sK1 (-1) 0).1
def sK3 : St := ⟨256, [], sK2.l, some []⟩
def sK4 : St := (copyS sK3 40).1
def sK5 : St := (copyS sK4 8).1

theorem kK1 : (makeS sK0 1 2).2 = (8, 0) := by kernel_rfl
theorem kK2 : (makeS sK1 (-1) 0).2 = (40, 0) := by kernel_rfl
theorem kK4 : (copyS sK3 40).2 = (8, 0) := by kernel_rfl
theorem kK5 : (copyS sK4 8).2 = (24, 0) := by kernel_rfl
theorem kK6 : 8 * (flW sK5.l).length = 48 := by kernel_rfl
theorem kK7 : sK4.mv = some [(40, 8)] := by kernel_rfl

theorem i64_of (x : Int) (h : -9223372036854775808 ≤ x ∧ x ≤ 9223372036854775807) : i64 x := h

theorem make_at {W : World} {N : Nat → Prop} {a : Nat} {s s' : St} {k n p q : Int} (h : Ar W N a s.sw) (hk : i64 k) (hn : i64 n) (e : makeS s k n = (s', (p, q))) :
    Calls Try.prog 17 #[.pointer (some ⟨a, 0, none⟩), .int .i64 k, .int .i64 n] W fun e w' => e = .returned (.tuple #[.int .i64 p, .int .i64 q]) ∧ Ar w' N a s'.sw ∧ Kep N W w' := by
  have := Make_any h k n hk hn
  rw [e] at this
  exact this

theorem copy_at {W : World} {N : Nat → Prop} {a : Nat} {s s' : St} {x p q : Int} (h : Ar W N a s.sw) (hmv : s.al = [] ∨ ∃ L, s.mv = some L) (hx : i64 x) (e : copyS s x = (s', (p, q))) :
    Calls Try.prog 14 #[.pointer (some ⟨a, 0, none⟩), .int .i64 x] W fun e w' => e = .returned (.tuple #[.int .i64 p, .int .i64 q]) ∧ Ar w' N a s'.sw ∧ Kep N W w' := by
  have := Copy_any h hmv x hx
  rw [e] at this
  exact this

theorem flip_at {W : World} {N : Nat → Prop} {a : Nat} {s : St} (h : Ar W N a s.sw) :
    Calls Try.prog 12 #[.pointer (some ⟨a, 0, none⟩)] W fun e w' => e = .returned (.tuple #[]) ∧ Ar w' N a (St.sw ⟨s.m, [], s.l, some []⟩) ∧ Kep N W w' := Flip_any h

set_option maxHeartbeats 2000000 in
theorem known15 (w : World) : Calls Try.prog 5 #[] w fun e w' => e = .returned (.bool true) ∧ Only [] w w' := by
  have H0 := hid (New_any w (fun b => b < w.heap.size) (fun _ h => h) 256 ⟨by decide, by decide⟩ 256 rfl (by decide) (by decide))
  have H1 := hid (fun W (h : Ar W (fun b => b < w.heap.size) w.heap.size sK0.sw) => make_at (s' := sK1) h (k := 1) (n := 2) ⟨by decide, by decide⟩ ⟨by decide, by decide⟩ (Prod.ext rfl kK1))
  have H2 := hid (fun W (h : Ar W (fun b => b < w.heap.size) w.heap.size sK1.sw) => make_at (s' := sK2) h (k := -1) (n := 0) ⟨by decide, by decide⟩ ⟨by decide, by decide⟩ (Prod.ext rfl kK2))
  have H3 := hid (fun W (h : Ar W (fun b => b < w.heap.size) w.heap.size sK2.sw) => flip_at h)
  have H4 := hid (fun W (h : Ar W (fun b => b < w.heap.size) w.heap.size sK3.sw) => copy_at (s' := sK4) h (x := 40) (.inr ⟨_, rfl⟩) ⟨by decide, by decide⟩ (Prod.ext rfl kK4))
  have H5 := hid (fun W (h : Ar W (fun b => b < w.heap.size) w.heap.size sK4.sw) => copy_at (s' := sK5) h (x := 8) (.inr ⟨_, kK7⟩) ⟨by decide, by decide⟩ (Prod.ext rfl kK5))
  have H6 := hid (fun W (h : Ar W (fun b => b < w.heap.size) w.heap.size sK5.sw) => (Used_any h.used).mono (R' := fun e w' => e = .returned (.int .i64 48) ∧ w' = W) (fun e w' ⟨h1, h2⟩ => ⟨by rw [h1, show 8 * sK5.sw.ws.length = 48 from kK6]; rfl, h2⟩))
  go_enter Try.func5, Try.ntmps5
  go_wp2_with (first
    | (go_at_call 19; refine H0.out.mono ?_; rintro e w1 ⟨rfl, A1, K1, _⟩; replace A1 := hid A1; replace K1 := hid K1)
    | (go_at_call 17; with_reducible refine (H1.out _ A1.out).mono ?_; rintro e w2 ⟨rfl, A2, K2⟩; replace A2 := hid A2; replace K2 := hid K2)
    | (go_at_call 17; with_reducible refine (H2.out _ A2.out).mono ?_; rintro e w3 ⟨rfl, A3, K3⟩; replace A3 := hid A3; replace K3 := hid K3)
    | (go_at_call 12; with_reducible refine (H3.out _ A3.out).mono ?_; rintro e w4 ⟨rfl, A4, K4⟩; replace A4 := hid A4; replace K4 := hid K4)
    | (go_at_call 14; with_reducible refine (H4.out _ A4.out).mono ?_; rintro e w5 ⟨rfl, A5, K5⟩; replace A5 := hid A5; replace K5 := hid K5)
    | (go_at_call 14; with_reducible refine (H5.out _ A5.out).mono ?_; rintro e w6 ⟨rfl, A6, K6⟩; replace A6 := hid A6; replace K6 := hid K6)
    | (go_at_call 11; with_reducible refine (H6.out _ A6.out).mono ?_; rintro e w7 ⟨rfl, rfl⟩))
  go_ret
  exact ⟨rfl, (((((K1.out.trans K2.out).trans K3.out).trans K4.out).trans K5.out).trans K6.out).only⟩

end Go.Proofs.Ytkaklabcfhefaab
