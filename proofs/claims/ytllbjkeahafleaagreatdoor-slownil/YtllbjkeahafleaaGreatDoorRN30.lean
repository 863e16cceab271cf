/-
  Rows of numbers that are handed in: where they lie, and what the runner knows of them.
-/
import Derived.Test.YtllbjkeahafleaaGreatDoorRN29
set_option linter.unusedSimpArgs false
namespace Go.Proofs.YtllbjkeahafleaaGreatDoor
namespace Rn
open Go.RowKit

/-- Symbols one behind the other, from a number on, each in its own way. -/
def symRow (b : Nat) : List Nat → List Value
  | [] => []
  | m :: l => .complex .f32 b m :: symRow (Nat.succ b) l
/-- Memory with a row, or two, that nobody may write. -/
def hpA (a : List Value) : Hp := ⟨some ⟨none, none, some ⟨none, some ⟨none, some ⟨none, none, some ⟨none, some ⟨none, none, some ⟨none, none, some ⟨none, none, some ⟨none, none, some ⟨some (.cells ⟨a⟩ 3 (7, 7)), none, none⟩⟩⟩⟩⟩, none⟩⟩, none⟩, none⟩⟩, 1030, 1030⟩
def hpC (c : List Value) : Hp := ⟨some ⟨none, some ⟨none, none, some ⟨none, some ⟨none, none, some ⟨none, some ⟨none, none, some ⟨none, none, some ⟨none, none, some ⟨none, none, some ⟨some (.cells ⟨c⟩ 3 (7, 7)), none, none⟩⟩⟩⟩⟩, none⟩⟩, none⟩⟩, none⟩, 1030, 1030⟩
def hpB (a c : List Value) : Hp := ⟨some ⟨none, some ⟨none, none, some ⟨none, some ⟨none, none, some ⟨none, some ⟨none, none, some ⟨none, none, some ⟨none, none, some ⟨none, none, some ⟨some (.cells ⟨c⟩ 3 (7, 7)), none, none⟩⟩⟩⟩⟩, none⟩⟩, none⟩⟩, some ⟨none, some ⟨none, some ⟨none, none, some ⟨none, some ⟨none, none, some ⟨none, none, some ⟨none, none, some ⟨none, none, some ⟨some (.cells ⟨a⟩ 3 (7, 7)), none, none⟩⟩⟩⟩⟩, none⟩⟩, none⟩, none⟩⟩, 1030, 1030⟩
abbrev hpN : Hp := ⟨none, 1030, 1030⟩
abbrev arow (a : List Value) : Obj := .cells ⟨a⟩ 3 (7, 7)
theorem hpA_eq (a : List Value) : (hpA a).rows = tput W none 1000 (some (arow a)) := by kernel_rfl
theorem hpC_eq (a : List Value) : (hpC a).rows = tput W none 1001 (some (arow a)) := by kernel_rfl
theorem hpB_eq (a c : List Value) : (hpB a c).rows = tput W (tput W none 1000 (some (arow a))) 1001 (some (arow c)) := by kernel_rfl
theorem get_none (r : Nat) : tget W (none : Option (T Obj)) r = none := by rfl
theorem hpA_get (a : List Value) (r : Nat) : tget W (hpA a).rows r = if r = 1000 then some (arow a) else none := by
  rw [hpA_eq, tget_tput _ _ _ _ _ (by decide), get_none]
theorem hpC_get (a : List Value) (r : Nat) : tget W (hpC a).rows r = if r = 1001 then some (arow a) else none := by
  rw [hpC_eq, tget_tput _ _ _ _ _ (by decide), get_none]
theorem hpB_get (a c : List Value) (r : Nat) : tget W (hpB a c).rows r = if r = 1001 then some (arow c) else if r = 1000 then some (arow a) else none := by
  rw [hpB_eq, tget_tput _ _ _ _ _ (by decide), tget_tput _ _ _ _ _ (by decide), get_none]

/-- A row of numbers that is handed in. -/
structure Li where
  b : Nat
  off : Nat
  cap : Nat
  zs : List Int
def encZ (z : Int) : Sl := ⟨(z + 9223372036854775808).toNat, 0, 0, 0⟩
/-- Where all lies. -/
def place (A C : Li) : Fi := fun r =>
  if r = 1000 then some ⟨A.b, A.off, A.cap, 1⟩ else if r = 1001 then some ⟨C.b, C.off, C.cap, 1⟩
  else if r = 1002 then some ⟨A.zs.length, 0, 0, 0⟩ else if r = 1003 then some ⟨C.zs.length, 0, 0, 0⟩
  else if r < 1010 then none else if r < 1015 then (A.zs[r - 1010]?).map encZ
  else if r < 1020 then none else if r < 1025 then (C.zs[r - 1020]?).map encZ else none
/-- What is known of the row in a world. -/
structure LiAt (w : World) (A : Li) : Prop where
  room : ∀ j, j < A.cap → (w.cell? ⟨A.b, A.off + j, none⟩).isSome = true
  cell : ∀ j z, A.zs[j]? = some z → w.cell? ⟨A.b, A.off + j, none⟩ = some (.int .i64 z)
  wf : ∀ z ∈ A.zs, -9223372036854775808 ≤ z ∧ z < 9223372036854775808
  fits : A.zs.length ≤ A.cap
  most : A.cap ≤ MAXL
  some : 1 ≤ A.zs.length
theorem LiAt.lt {w : World} {A : Li} (h : LiAt w A) : A.b < w.heap.size := by
  have := h.room 0 (by have := h.fits; have := h.some; omega)
  unfold World.cell? at this
  rcases Nat.lt_or_ge A.b w.heap.size with g | g
  · exact g
  · simp only [Array.getElem?_eq_none g] at this
    cases this
/-- Do the ways fit the numbers? -/
def CodesOK : List Nat → List Int → Prop
  | [], _ => True
  | m :: l, zs => match zs with
    | [] => False
    | z :: zs => symOK m (encZ z).b ∧ CodesOK l zs
theorem codes_len : ∀ {l : List Nat} {zs : List Int}, CodesOK l zs → l.length ≤ zs.length
  | [], _, _ => Nat.zero_le _
  | _ :: _, [], h => h.elim
  | _ :: l, _ :: zs, h => by have := codes_len h.2; simp only [List.length_cons]; omega
theorem codes_get : ∀ {l : List Nat} {zs : List Int}, CodesOK l zs → ∀ (j m : Nat), l[j]? = some m → ∃ z, zs[j]? = some z ∧ symOK m (encZ z).b
  | [], _, _, _, _, hj => by simp at hj
  | _ :: _, [], h, _, _, _ => h.elim
  | k :: _, z :: _, h, 0, m, hj => by
    have : k = m := by simpa using hj
    subst this
    exact ⟨z, rfl, h.1⟩
  | _ :: _, _ :: _, h, j + 1, m, hj => by simpa using codes_get h.2 j m (by simpa using hj)
theorem symRow_len : ∀ (l : List Nat) (b : Nat), (symRow b l).length = l.length
  | [], _ => rfl
  | _ :: l, b => by simp [symRow, symRow_len l]
theorem symRow_get : ∀ (l : List Nat) (b j : Nat) (v : Value), (symRow b l)[j]? = some v → ∃ m, l[j]? = some m ∧ v = .complex .f32 (b + j) m
  | [], _, _, _, h => by simp [symRow] at h
  | m :: _, b, 0, v, h => ⟨m, rfl, by simpa [symRow] using h.symm⟩
  | _ :: l, b, j + 1, v, h => by
    obtain ⟨m, h1, h2⟩ := symRow_get l (b + 1) j v (by simpa [symRow] using h)
    exact ⟨m, by simpa using h1, by rw [h2]; congr 1; omega⟩

section
variable {P : Program} {B : Tb} {w : World} {A C : Li}
/-- The value of a symbol of a number. -/
theorem sym_num {m : Nat} {z : Int} (hz : -9223372036854775808 ≤ z ∧ z < 9223372036854775808) (hm : m = 0 ∨ m = 1 ∨ 16 ≤ m) : symV m (encZ z).b = .int .i64 z := by
  have e : (((encZ z).b : Nat) : Int) - 9223372036854775808 = z := by simp only [encZ]; omega
  rcases hm with rfl | rfl | hm
  · simp only [symV, e]
  · simp only [symV, e]
  · rw [symV_mask (Nat.ble_eq_true_of_le hm), e]
/-- Ways of numbers alone. -/
def numWays (l : List Nat) : Prop := ∀ m ∈ l, m = 0 ∨ m = 1 ∨ 16 ≤ m
theorem row_ok {b : Nat} {l : List Nat} {φ : Fi} (h3 : ∀ i, tget W B 3 = some i → i.size = 1) (hA : LiAt w A) (hl : CodesOK l A.zs) (hn : numWays l) (hφ : ∀ j z, j < l.length → A.zs[j]? = some z → φ (b + j) = some (encZ z)) :
    RR B φ w ⟨A.b, A.off, A.cap, 1⟩ (arow (symRow b l)) := by
  have hlen := codes_len hl
  have hfit := hA.fits
  refine ⟨hA.lt, fun i hi => (h3 i hi).symm, ?_, (fun h => by cases h), hA.room, (fun h => by cases h), fun j v hv => ?_⟩
  · show (symRow b l).length ≤ A.cap
    rw [symRow_len]
    omega
  · obtain ⟨m, h1, rfl⟩ := symRow_get l b j v (by simpa using hv)
    obtain ⟨z, h2, h4⟩ := codes_get hl j m h1
    have hj : j < l.length := (List.getElem?_eq_some_iff.1 h1).1
    refine ⟨.int .i64 z, hA.cell j z h2, VR.mk (v := .complex .f32 (b + j) m) ⟨encZ z, hφ j z hj h2, h4, ?_⟩, trivial⟩
    exact (sym_num (hA.wf z (List.mem_of_getElem? h2)) (hn m (List.mem_of_getElem? h1))).symm
theorem place_a {j : Nat} {z : Int} (hj : j < 5) (hz : A.zs[j]? = some z) : place A C (1010 + j) = some (encZ z) := by
  have e : 1010 + j - 1010 = j := by omega
  have h1 : ¬ 1010 + j = 1000 := by omega
  have h2 : ¬ 1010 + j = 1001 := by omega
  have h3 : ¬ 1010 + j = 1002 := by omega
  have h4 : ¬ 1010 + j = 1003 := by omega
  have h5 : ¬ 1010 + j < 1010 := by omega
  have h6 : 1010 + j < 1015 := by omega
  simp only [place, h1, h2, h3, h4, h5, h6, if_true, if_false, e, hz, Option.map_some]
theorem place_c {j : Nat} {z : Int} (hj : j < 5) (hz : C.zs[j]? = some z) : place A C (1020 + j) = some (encZ z) := by
  have e : 1020 + j - 1020 = j := by omega
  have h1 : ¬ 1020 + j = 1000 := by omega
  have h2 : ¬ 1020 + j = 1001 := by omega
  have h3 : ¬ 1020 + j = 1002 := by omega
  have h4 : ¬ 1020 + j = 1003 := by omega
  have h5 : ¬ 1020 + j < 1010 := by omega
  have h6 : ¬ 1020 + j < 1015 := by omega
  have h7 : ¬ 1020 + j < 1020 := by omega
  have h8 : 1020 + j < 1025 := by omega
  simp only [place, h1, h2, h3, h4, h5, h6, h7, h8, if_true, if_false, e, hz, Option.map_some]
theorem place_top {r : Nat} (hr : 1030 ≤ r) : place A C r = none := by
  have h1 : ¬ r = 1000 := by omega
  have h2 : ¬ r = 1001 := by omega
  have h3 : ¬ r = 1002 := by omega
  have h4 : ¬ r = 1003 := by omega
  have h5 : ¬ r < 1010 := by omega
  have h6 : ¬ r < 1015 := by omega
  have h7 : ¬ r < 1020 := by omega
  have h8 : ¬ r < 1025 := by omega
  simp only [place, h1, h2, h3, h4, h5, h6, h7, h8, if_false]
theorem place_0 : place A C 1000 = some ⟨A.b, A.off, A.cap, 1⟩ := rfl
theorem place_1 : place A C 1001 = some ⟨C.b, C.off, C.cap, 1⟩ := by simp [place]
theorem place_2 : place A C 1002 = some ⟨A.zs.length, 0, 0, 0⟩ := by simp [place]
theorem place_3 : place A C 1003 = some ⟨C.zs.length, 0, 0, 0⟩ := by simp [place]
theorem wr_of {h : Hp} (hn : h.next = 1030) (hlo : h.low = 1030) (hr : ∀ r o, tget W h.rows r = some o → (r = 1000 ∨ r = 1001) ∧ ∃ s, place A C r = some s ∧ RR B (place A C) w s o) : WR B (place A C) h w :=
  ⟨fun r o ho => (hr r o ho).2, fun r r' o o' s hl ho ho' _ _ => by have := (hr r' o' ho').1; rw [hlo] at hl; omega, fun r hr' => place_top (by rw [hn] at hr'; exact hr'), fun r o ho => by have := (hr r o ho).1; rw [hn]; simp only [NOWHERE]; omega, by rw [hn]; simp only [MOST]; omega, ⟨by rw [hn]; simp only [GL]; omega, fun r s hr hs => by
    simp only [GL] at hr
    have h1 : ¬ r = 1000 := by omega
    have h2 : ¬ r = 1001 := by omega
    have h3 : ¬ r = 1002 := by omega
    have h4 : ¬ r = 1003 := by omega
    have h5 : r < 1010 := by omega
    simp only [place, h1, h2, h3, h4, h5, if_true, if_false] at hs
    cases hs⟩⟩
theorem wr_A {l : List Nat} (h3 : ∀ i, tget W B 3 = some i → i.size = 1) (hA : LiAt w A) (hl : CodesOK l A.zs) (hn : numWays l) (h5 : l.length ≤ 5) : WR B (place A C) (hpA (symRow 1010 l)) w := wr_of rfl rfl fun r o ho => by
  rw [hpA_get] at ho
  split at ho
  · rename_i e
    subst e
    cases ho
    exact ⟨.inl rfl, _, place_0, row_ok h3 hA hl hn fun j z hj hz => place_a (by omega) hz⟩
  · cases ho
theorem wr_C {l : List Nat} (h3 : ∀ i, tget W B 3 = some i → i.size = 1) (hC : LiAt w C) (hl : CodesOK l C.zs) (hn : numWays l) (h5 : l.length ≤ 5) : WR B (place A C) (hpC (symRow 1020 l)) w := wr_of rfl rfl fun r o ho => by
  rw [hpC_get] at ho
  split at ho
  · rename_i e
    subst e
    cases ho
    exact ⟨.inr rfl, _, place_1, row_ok h3 hC hl hn fun j z hj hz => place_c (by omega) hz⟩
  · cases ho
theorem wr_B {l k : List Nat} (h3 : ∀ i, tget W B 3 = some i → i.size = 1) (hA : LiAt w A) (hl : CodesOK l A.zs) (hn : numWays l) (h5 : l.length ≤ 5) (hC : LiAt w C) (hk : CodesOK k C.zs) (hn2 : numWays k) (h6 : k.length ≤ 5) : WR B (place A C) (hpB (symRow 1010 l) (symRow 1020 k)) w := wr_of rfl rfl fun r o ho => by
  rw [hpB_get] at ho
  split at ho
  · rename_i e
    subst e
    cases ho
    exact ⟨.inr rfl, _, place_1, row_ok h3 hC hk hn2 fun j z hj hz => place_c (by omega) hz⟩
  · split at ho
    · rename_i e
      subst e
      cases ho
      exact ⟨.inl rfl, _, place_0, row_ok h3 hA hl hn fun j z hj hz => place_a (by omega) hz⟩
    · cases ho
theorem wr_N : WR B (place A C) hpN w := wr_of rfl rfl fun r o ho => by rw [get_none] at ho; cases ho
theorem shut_A {a : List Value} : ∀ r o, tget W (hpA a).rows r = some o → r < (hpA a).low := fun r o ho => by
  rw [hpA_get] at ho
  split at ho
  · rename_i e; subst e; show 1000 < 1030; omega
  · cases ho
theorem shut_C {a : List Value} : ∀ r o, tget W (hpC a).rows r = some o → r < (hpC a).low := fun r o ho => by
  rw [hpC_get] at ho
  split at ho
  · rename_i e; subst e; show 1001 < 1030; omega
  · cases ho
theorem shut_B {a c : List Value} : ∀ r o, tget W (hpB a c).rows r = some o → r < (hpB a c).low := fun r o ho => by
  rw [hpB_get] at ho
  split at ho
  · rename_i e; subst e; show 1001 < 1030; omega
  · split at ho
    · rename_i e; subst e; show 1000 < 1030; omega
    · cases ho
theorem shut_N : ∀ r o, tget W hpN.rows r = some o → r < hpN.low := fun r o ho => by rw [get_none] at ho; cases ho
/-- The slices themselves. -/
theorem handed_vr {r n : Nat} {φ : Fi} (hr : r = 1000 ∨ r = 1001) (hA : LiAt w A) (hn : A.zs.length = n) (hφ : φ r = some ⟨A.b, A.off, A.cap, 1⟩) : VR φ (.slice (some ⟨r, 0, none⟩) n TOP) (.slice (some ⟨A.b, A.off, none⟩) A.zs.length A.cap) := by
  have := hA.fits
  refine VR.mk (v := .slice (some ⟨r, 0, none⟩) n TOP) (.inr ⟨by simp only [NOWHERE]; omega, _, A.cap, hφ, by rw [hn]; rfl, (fun h => absurd rfl h), fun _ => ⟨by omega, by simp, Nat.le_refl _, hA.most⟩⟩)
theorem long_vr {r q : Nat} {φ : Fi} (hA : LiAt w A) (hn : LONG ≤ A.zs.length) (hφ : φ r = some ⟨A.b, A.off, A.cap, 1⟩) (hq : φ q = some ⟨A.zs.length, 0, 0, 0⟩) : VR φ (.complex .f64 r q) (.slice (some ⟨A.b, A.off, none⟩) A.zs.length A.cap) :=
  VR.mk (v := .complex .f64 r q) ⟨_, _, A.cap, hφ, hq, hn, Nat.le_trans hA.fits hA.most, rfl⟩
theorem empty_vr {φ : Fi} {a : Addr} {c : Nat} : VR φ (.slice (some ⟨NOWHERE, 0, none⟩) 0 TOP) (.slice (some a) 0 c) := VR.mk (v := .slice (some ⟨NOWHERE, 0, none⟩) 0 TOP) (.inl ⟨rfl, rfl, a, c, rfl, fun h => absurd rfl h⟩)
theorem nil_vr {φ : Fi} : VR φ (.slice none 0 0) (.slice none 0 0) := VR.mk (v := .slice none 0 0) rfl
theorem any_vr {φ : Fi} {v : Value} (h : Fl v) : VR φ any v := VR.mk (v := .chan none) h
/-- Any number. -/
theorem sym_all {z : Int} (hz : -9223372036854775808 ≤ z ∧ z < 9223372036854775808) : symOK 0 (encZ z).b := by
  show (z + 9223372036854775808).toNat < 18446744073709551616
  omega
/-- A number of which it is known what is left of it. -/
theorem sym_mask {m c : Nat} {z : Int} (hz : -9223372036854775808 ≤ z ∧ z < 9223372036854775808) (hc : c < 8) (hl : left z (8 : Nat) = (c : Int)) (hb : bitOf m c = true) : symOK (16 + m) (encZ z).b := by
  have e : (((encZ z).b : Nat) : Int) - 9223372036854775808 = z := by simp only [encZ]; omega
  have h16 : Nat.ble 16 (16 + m) = true := Nat.ble_eq_true_of_le (by omega)
  unfold symOK
  split
  · omega
  · omega
  · omega
  · rw [h16]
    refine ⟨sym_all hz, c, hc, ?_, by rw [show 16 + m - 16 = m by omega]; exact hb⟩
    rw [e]
    exact hl
theorem two_masks {p q c : Nat} (h : ∀ c, c < 8 → (bitOf p c || bitOf q c) = true) (hc : c < 8) : bitOf p c = true ∨ bitOf q c = true := by
  have := h c hc
  simpa using this
end

end Rn
end Go.Proofs.YtllbjkeahafleaaGreatDoor
