/-
  A half of an arena that is read: the contracts of number, kind, slots, find, findSlot, object. No conditions beyond the receiver's own shape.
-/
import Derived.Test.YtkaklabcfhefaabAPlain
import Derived.BigQuiet
namespace Go.Proofs.Ytkaklabcfhefaab
open Go.RowKit

theorem info5 : (Try.prog.info? 5).map (fun i => (i.zero, i.size, i.bytes)) = some (some (.int .u8 0), 1, 1) := by kernel_rfl

/-- A part of a row of bytes that has some. -/
theorem slice_mid (d off n cap p q : Nat) (x y : Int) (hx : x = (p : Int)) (hy : y = (q : Int)) (h1 : p < q) (h2 : q ≤ cap) (w : World) :
    (Instr.slice 28 (.slice (some ⟨d, off, none⟩) n cap) (some (.int .i64 x)) (some (.int .i64 y)) none).run Try.prog w = .ok (.slice (some ⟨d, off + p, none⟩) (q - p) (cap - p)) w := by
  subst hx hy
  obtain ⟨i0, hi, hz0, hz1, hz2⟩ := info_parts info5
  have h3 : ¬ cap = p := by omega
  simp [Instr.slice, run_underlying Try.underlying28, Instr.sliceBounds, run_sliceBound, sizeOf, typeInfo, hi, hz1, h2, Nat.le_of_lt h1, h3, Addr.add]

/-- A half at a place of a block: its numbers, its heads; the rows lie in blocks d and e. -/
structure HfR (w : World) (a o : Nat) (ws : List Int) (hs : List Bool) (ab : Option Addr) (cb : Nat) (ah : Option Addr) (ch : Nat) (d e : Nat) : Prop where
  c1 : w.cell? ⟨a, o + 1, none⟩ = some (.slice ab (8 * ws.length) cb)
  c2 : w.cell? ⟨a, o + 2, none⟩ = some (.slice ah hs.length ch)
  r1 : RS w ab (bcs (encWs ws)) d
  r2 : RS w ah (lcs hs) e
  le1 : 8 * ws.length ≤ cb
  le2 : hs.length ≤ ch
  few : 8 * ws.length ≤ 1048576
  same : hs.length = ws.length
  all : ∀ v ∈ ws, i64 v
  no1 : ab = none → cb = 0

/-- .. whatever lies where. -/
def HfE (w : World) (a o : Nat) (ws : List Int) (hs : List Bool) : Prop := ∃ ab cb ah ch d e, HfR w a o ws hs ab cb ah ch d e

theorem HfR.drewN {w : World} {a o : Nat} {ws : List Int} {hs : List Bool} {ab : Option Addr} {cb : Nat} {ah : Option Addr} {ch d e : Nat} (h : HfR w a o ws hs ab cb ah ch d e) (n : Nat) : HfR (w.drewN n) a o ws hs ab cb ah ch d e :=
  ⟨h.c1, h.c2, h.r1, h.r2, h.le1, h.le2, h.few, h.same, h.all, h.no1⟩

theorem HfE.drewN {w : World} {a o : Nat} {ws : List Int} {hs : List Bool} (h : HfE w a o ws hs) (n : Nat) : HfE (w.drewN n) a o ws hs := by
  obtain ⟨ab, cb, ah, ch, d, e, h⟩ := h
  exact ⟨ab, cb, ah, ch, d, e, h.drewN n⟩

theorem HfR.byte {w : World} {a o : Nat} {ws : List Int} {hs : List Bool} {ab : Option Addr} {cb : Nat} {ah : Option Addr} {ch d e : Nat} (h : HfR w a o ws hs ab cb ah ch d e) {i : Nat} (hi : i < ws.length) :
    ∃ off, ab = some ⟨d, off, none⟩ ∧ ∀ k, k < 8 → w.cell? ⟨d, off + 8 * i + k, none⟩ = some (.int .u8 (byteW ws[i] k).toNat) := by
  obtain ⟨off, ha, hc⟩ := h.r1.at (j := 8 * i) (by rw [bcs_length, encWs_length]; omega)
  refine ⟨off, ha, fun k hk => ?_⟩
  have := hc (8 * i + k) (.int .u8 (byteW ws[i] k).toNat) (by rw [bcs, List.getElem?_map, encWs_get ws i k hi hk]; rfl)
  rw [← Nat.add_assoc] at this
  exact this

theorem HfR.head {w : World} {a o : Nat} {ws : List Int} {hs : List Bool} {ab : Option Addr} {cb : Nat} {ah : Option Addr} {ch d e : Nat} (h : HfR w a o ws hs ab cb ah ch d e) {i : Nat} (hi : i < hs.length) :
    ∃ off, ah = some ⟨e, off, none⟩ ∧ w.cell? ⟨e, off + i, none⟩ = some (.bool hs[i]) := by
  obtain ⟨off, ha, hc⟩ := h.r2.at (j := i) (by rw [lcs_length]; omega)
  exact ⟨off, ha, hc i _ (lcs_get hs i hi)⟩

set_option maxHeartbeats 1000000 in
theorem number_any {w : World} {a o : Nat} {ws : List Int} {hs : List Bool} (h : HfE w a o ws hs) (i : Nat) (hi : i < ws.length) (x : Int) (hx : x = ((8 * i : Nat) : Int)) :
    Calls Try.prog 30 #[.pointer (some ⟨a, o, none⟩), .int .i64 x] w fun e w' => e = .returned (.int .i64 ws[i]) ∧ ∃ n, w' = w.drewN n := by
  obtain ⟨ab, cb, ah, ch, d, e, h⟩ := h
  obtain ⟨off, rfl, hb⟩ := h.byte hi
  have hr := h.all _ (List.getElem_mem hi)
  have k1 := slice_mid d off (8 * ws.length) cb (8 * i) (8 * i + 8) x (x + 8) hx (by omega) (by omega) (by have := h.le1; omega)
  rw [show 8 * i + 8 - 8 * i = 8 by omega] at k1
  have c1 := h.c1
  have few := h.few
  have b0 := hb 0 (by decide)
  have b1 := hb 1 (by decide)
  have b2 := hb 2 (by decide)
  have b3 := hb 3 (by decide)
  have b4 := hb 4 (by decide)
  have b5 := hb 5 (by decide)
  have b6 := hb 6 (by decide)
  have b7 := hb 7 (by decide)
  have hj := join_byte _ hr
  clear hb
  have x0 : 0 ≤ x := by omega
  have x1 : x ≤ 1048576 := by omega
  clear hx
  replace hj := hid hj
  generalize ws[i] = v at *
  generalize byteW v = f at *
  simp only [Nat.add_zero] at b0
  go_enter Try.func30, Try.ntmps30
  go_wp2
  go_quiet (fail)
  go_wp2
  go_quiet (fail)
  go_wp2
  go_ret
  refine ⟨?_, _, by first | rfl | exact World.drewN_drewN _ _ _⟩
  rw [← hj.out]
  exact ret_int (or_eight f)

theorem sizeOf_any (w : World) (n : Int) (h0 : 0 ≤ n) (h1 : n ≤ 1048576) : Calls Try.prog 20 #[.int .i64 n] w fun e w' => e = .returned (.int .i64 (16 + 8 * n)) ∧ w' = w := by
  go_enter Try.func20, Try.ntmps20
  go_wp2
  go_ret
  exact ⟨rfl, rfl⟩

theorem mayBe_any (w : World) (n : Int) : Calls Try.prog 32 #[.int .i64 n] w fun e w' => e = .returned (.bool (decide (0 ≤ n ∧ n ≤ 65536))) ∧ w' = w := by
  by_cases h0 : 0 ≤ n
  all_goals
    by_cases h1 : n ≤ 65536
    all_goals
      go_enter Try.func32, Try.ntmps32
      go_wp2
      go_ret
      exact ⟨by simp [h0, h1], rfl⟩

theorem addressOf_any (w : World) (x : Int) (h0 : 0 ≤ x) (h1 : x ≤ 1048576) : Calls Try.prog 22 #[.int .i64 x] w fun e w' => e = .returned (.int .i64 (x + 8)) ∧ w' = w := by
  go_enter Try.func22, Try.ntmps22
  go_wp2
  go_ret
  exact ⟨rfl, rfl⟩

theorem placeOf_any (w : World) (x : Int) (h0 : 8 ≤ x) (h1 : x ≤ 1048584) : Calls Try.prog 28 #[.int .i64 x] w fun e w' => e = .returned (.int .i64 (x - 8)) ∧ w' = w := by
  go_enter Try.func28, Try.ntmps28
  go_wp2
  go_ret
  exact ⟨rfl, rfl⟩

theorem kind_any {w : World} {a o : Nat} {ws : List Int} {hs : List Bool} (h : HfE w a o ws hs) (i : Nat) (hi : i < ws.length) (x : Int) (hx : x = ((8 * i : Nat) : Int)) :
    Calls Try.prog 26 #[.pointer (some ⟨a, o, none⟩), .int .i64 x] w fun e w' => e = .returned (.int .i64 ws[i]) ∧ ∃ n, w' = w.drewN n := by
  have H := hid (number_any h i hi x hx)
  clear hx
  go_enter Try.func26, Try.ntmps26
  go_wp2_with (go_at_call 30; refine H.out.mono ?_; rintro e w1 ⟨rfl, n, rfl⟩)
  go_ret
  exact ⟨rfl, n, rfl⟩

theorem slots_any {w : World} {a o : Nat} {ws : List Int} {hs : List Bool} (h : HfE w a o ws hs) (i : Nat) (hi : i + 1 < ws.length) (x : Int) (hx : x = ((8 * i : Nat) : Int)) :
    Calls Try.prog 21 #[.pointer (some ⟨a, o, none⟩), .int .i64 x] w fun e w' => e = .returned (.int .i64 ws[i + 1]) ∧ ∃ n, w' = w.drewN n := by
  have H := hid (number_any h (i + 1) hi (x + 8) (by omega))
  have x0 : 0 ≤ x := by omega
  have x1 : x ≤ 1048576 := by
    obtain ⟨_, _, _, _, _, _, h⟩ := h
    have := h.few
    omega
  clear hx
  go_enter Try.func21, Try.ntmps21
  go_wp2_with (go_at_call 30; refine H.out.mono ?_; rintro e w1 ⟨rfl, n, rfl⟩)
  go_ret
  exact ⟨rfl, n, rfl⟩

/-- What an address is taken for: the place of its object. -/
def findP (l : List Ob) (at' : Int) : Option Nat := if at' < 8 ∨ at' % 8 ≠ 0 then none else idx l ((at' - 8) / 8).toNat

theorem findP_some {l : List Ob} {x : Int} {j : Nat} (h : findP l x = some j) : j < l.length ∧ x = 8 * (ofs l j : Int) + 8 := by
  unfold findP at h
  split at h
  · cases h
  · rename_i hc
    obtain ⟨h1, h2⟩ := idx_some h
    exact ⟨h1, by omega⟩

theorem findP_at {l : List Ob} {j : Nat} (h : j < l.length) : findP l (8 * (ofs l j : Int) + 8) = some j := by
  unfold findP
  rw [if_neg (by omega), show ((8 * (ofs l j : Int) + 8 - 8) / 8).toNat = ofs l j by omega]
  exact idx_ofs h

set_option maxHeartbeats 1000000 in
theorem find_any {w : World} {a o : Nat} {l : List Ob} (h : HfE w a o (flW l) (flH l)) (x : Int) (hr : i64 x) :
    Calls Try.prog 25 #[.pointer (some ⟨a, o, none⟩), .int .i64 x] w fun e w' =>
      e = .returned (match findP l x with | some j => .tuple #[.int .i64 (8 * (ofs l j : Int)), .int .i64 0] | none => .tuple #[.int .i64 0, .int .i64 57]) ∧ ∃ n, w' = w.drewN n := by
  obtain ⟨ab, cb, ah, ch, d, e, h⟩ := h
  have c2 := h.c2
  have few := h.few
  have same := h.same
  obtain ⟨r1, r2⟩ := hr
  by_cases h1 : x < 8
  · have hf : findP l x = none := by unfold findP; rw [if_pos (by omega)]
    rw [hf]
    go_enter Try.func25, Try.ntmps25
    go_wp2
    go_ret2
    exact ⟨rfl, 0, rfl⟩
  have ht : Int.tdiv (x - 8) 8 = (x - 8) / 8 := Int.tdiv_eq_ediv_of_nonneg (by omega)
  have hm : Int.tmod x 8 = x % 8 := Int.tmod_eq_emod_of_nonneg (by omega)
  by_cases h2 : x % 8 = 0
  · obtain ⟨n, hn⟩ : ∃ n : Nat, (x - 8) / 8 = (n : Int) := ⟨((x - 8) / 8).toNat, by omega⟩
    have hx : x = 8 * (n : Int) + 8 := by omega
    have hf : findP l x = idx l n := by unfold findP; rw [if_neg (by omega), hn]; rfl
    by_cases h3 : n < (flH l).length
    · obtain ⟨off, rfl, hc⟩ := h.head h3
      rw [head_iff l n h3] at hc
      cases hi : idx l n with
      | some j =>
        rw [hi] at hc hf
        rw [hf]
        obtain ⟨_, rfl⟩ := idx_some hi
        go_enter Try.func25, Try.ntmps25
        go_wp2
        go_ret2
        exact ⟨rfl, 0, rfl⟩
      | none =>
        rw [hi] at hc hf
        rw [hf]
        go_enter Try.func25, Try.ntmps25
        go_wp2
        go_ret2
        exact ⟨rfl, 0, rfl⟩
    · have hi : idx l n = none := by
        cases hi : idx l n with
        | none => rfl
        | some j =>
          obtain ⟨j1, j2⟩ := idx_some hi
          have := ofs_end l j j1
          rw [flH_length] at h3
          omega
      rw [hf, hi]
      have h4 : ((flH l).length : Int) ≤ (n : Int) := by omega
      go_enter Try.func25, Try.ntmps25
      go_wp2
      go_ret2
      exact ⟨rfl, 0, rfl⟩
  · have hf : findP l x = none := by unfold findP; rw [if_pos (by omega)]
    rw [hf]
    go_enter Try.func25, Try.ntmps25
    go_wp2
    go_ret2
    exact ⟨rfl, 0, rfl⟩

theorem find_some {w : World} {a o : Nat} {l : List Ob} (h : HfE w a o (flW l) (flH l)) (x : Int) (hr : i64 x) {j : Nat} (hf : findP l x = some j) :
    Calls Try.prog 25 #[.pointer (some ⟨a, o, none⟩), .int .i64 x] w fun e w' => e = .returned (.tuple #[.int .i64 (8 * (ofs l j : Int)), .int .i64 0]) ∧ ∃ n, w' = w.drewN n := by
  have H := find_any h x hr
  rw [hf] at H
  exact H

theorem find_none {w : World} {a o : Nat} {l : List Ob} (h : HfE w a o (flW l) (flH l)) (x : Int) (hr : i64 x) (hf : findP l x = none) :
    Calls Try.prog 25 #[.pointer (some ⟨a, o, none⟩), .int .i64 x] w fun e w' => e = .returned (.tuple #[.int .i64 0, .int .i64 57]) ∧ ∃ n, w' = w.drewN n := by
  have H := find_any h x hr
  rw [hf] at H
  exact H

theorem HfE.few {w : World} {a o : Nat} {ws : List Int} {hs : List Bool} (h : HfE w a o ws hs) : 8 * ws.length ≤ 1048576 := by
  obtain ⟨_, _, _, _, _, _, h⟩ := h
  exact h.few

theorem HfE.all {w : World} {a o : Nat} {ws : List Int} {hs : List Bool} (h : HfE w a o ws hs) : ∀ v ∈ ws, i64 v := by
  obtain ⟨_, _, _, _, _, _, h⟩ := h
  exact h.all

/-- The slots of an object. -/
theorem slots_at {w : World} {a o : Nat} {l : List Ob} (h : HfE w a o (flW l) (flH l)) (j : Nat) (hj : j < l.length) (x : Int) (hx : x = 8 * (ofs l j : Int)) :
    Calls Try.prog 21 #[.pointer (some ⟨a, o, none⟩), .int .i64 x] w fun e w' => e = .returned (.int .i64 (l[j].2.length : Int)) ∧ ∃ n, w' = w.drewN n := by
  have hend := ofs_end l j hj
  have S := slots_any h (ofs l j) (by omega) x (by omega)
  have hs := flW_slots l j hj
  rw [List.getElem?_eq_getElem (by omega)] at hs
  rw [Option.some.inj hs] at S
  exact S

/-- The kind of an object. -/
theorem kind_at {w : World} {a o : Nat} {l : List Ob} (h : HfE w a o (flW l) (flH l)) (j : Nat) (hj : j < l.length) (x : Int) (hx : x = 8 * (ofs l j : Int)) :
    Calls Try.prog 26 #[.pointer (some ⟨a, o, none⟩), .int .i64 x] w fun e w' => e = .returned (.int .i64 l[j].1) ∧ ∃ n, w' = w.drewN n := by
  have hend := ofs_end l j hj
  have S := kind_any h (ofs l j) (by omega) x (by omega)
  have hs := flW_kind l j hj
  rw [List.getElem?_eq_getElem (by omega)] at hs
  rw [Option.some.inj hs] at S
  exact S

/-- A slot of an object. -/
theorem number_at {w : World} {a o : Nat} {l : List Ob} (h : HfE w a o (flW l) (flH l)) (j : Nat) (hj : j < l.length) (k : Nat) (hk : k < l[j].2.length) (x : Int) (hx : x = 8 * (ofs l j : Int) + 16 + 8 * (k : Int)) :
    Calls Try.prog 30 #[.pointer (some ⟨a, o, none⟩), .int .i64 x] w fun e w' => e = .returned (.int .i64 l[j].2[k]) ∧ ∃ n, w' = w.drewN n := by
  have hend := ofs_end l j hj
  have S := number_any h (ofs l j + 2 + k) (by omega) x (by omega)
  have hs := flW_slot l j k hj hk
  rw [List.getElem?_eq_getElem (by omega)] at hs
  rw [Option.some.inj hs] at S
  exact S

/-- What findSlot answers: the place of a slot. -/
def slotP (l : List Ob) (x k : Int) : Int × Int := match findP l x with
  | none => (0, 57)
  | some j => match l[j]? with
    | none => (0, 57)
    | some o => if 0 ≤ k ∧ k < (o.2.length : Int) then (8 * (ofs l j : Int) + 16 + k * 8, 0) else (0, 1)

set_option maxHeartbeats 8000000 in
theorem findSlot_any {w : World} {a o : Nat} {l : List Ob} (h : HfE w a o (flW l) (flH l)) (x k : Int) (hr : i64 x) (hk : i64 k) :
    Calls Try.prog 23 #[.pointer (some ⟨a, o, none⟩), .int .i64 x, .int .i64 k] w fun e w' =>
      e = .returned (.tuple #[.int .i64 (slotP l x k).1, .int .i64 (slotP l x k).2]) ∧ ∃ n, w' = w.drewN n := by
  obtain ⟨k1, k2⟩ := hk
  cases hf : findP l x with
  | none =>
    have H := hid (find_none h x hr hf)
    have e : slotP l x k = (0, 57) := by unfold slotP; rw [hf]
    rw [e]
    go_enter Try.func23, Try.ntmps23
    go_wp2_with (go_at_call 25; refine H.out.mono ?_; rintro e w1 ⟨rfl, n, rfl⟩)
    go_ret2
    exact ⟨rfl, n, rfl⟩
  | some j =>
    have H := hid (find_some h x hr hf)
    obtain ⟨j1, j2⟩ := findP_some hf
    have few := h.few
    have hend := ofs_end l j j1
    have S := hid (fun n => slots_at (h.drewN n) j j1 (8 * (ofs l j : Int)) rfl)
    have e : slotP l x k = if 0 ≤ k ∧ k < (l[j].2.length : Int) then (8 * (ofs l j : Int) + 16 + k * 8, 0) else (0, 1) := by
      unfold slotP
      rw [hf]
      simp only [List.getElem?_eq_getElem j1]
    rw [e]
    clear e hf j2
    generalize l[j].2.length = m at *
    generalize ofs l j = p at *
    by_cases h0 : 0 ≤ k
    · have d0 : decide (k < 0) = false := by simp; omega
      by_cases h1 : k < (m : Int)
      · rw [if_pos ⟨h0, h1⟩]
        go_enter Try.func23, Try.ntmps23
        go_wp2_with (first | (go_at_call 25; refine H.out.mono ?_; rintro e w1 ⟨rfl, n, rfl⟩) | (go_at_call 21; refine (S.out n).mono ?_; rintro e w1 ⟨rfl, n2, rfl⟩))
        go_ret2
        exact ⟨rfl, _, rfl⟩
      · rw [if_neg (by omega)]
        go_enter Try.func23, Try.ntmps23
        go_wp2_with (first | (go_at_call 25; refine H.out.mono ?_; rintro e w1 ⟨rfl, n, rfl⟩) | (go_at_call 21; refine (S.out n).mono ?_; rintro e w1 ⟨rfl, n2, rfl⟩))
        go_ret2
        exact ⟨rfl, _, rfl⟩
    · have d0 : k < 0 := by omega
      clear h0
      rw [if_neg (by omega)]
      go_enter Try.func23, Try.ntmps23
      go_wp2_with (first | (go_at_call 25; refine H.out.mono ?_; rintro e w1 ⟨rfl, n, rfl⟩))
      go_ret2
      exact ⟨rfl, n, rfl⟩

/-- What Kind, Slots and Get answer. -/
def kindP (l : List Ob) (x : Int) : Int × Int := match findP l x with
  | none => (0, 57)
  | some j => match l[j]? with
    | none => (0, 57)
    | some o => (o.1, 0)
def slotsP (l : List Ob) (x : Int) : Int × Int := match findP l x with
  | none => (0, 57)
  | some j => match l[j]? with
    | none => (0, 57)
    | some o => ((o.2.length : Int), 0)
def getP (l : List Ob) (x k : Int) : Int × Int := match findP l x with
  | none => (0, 57)
  | some j => match l[j]? with
    | none => (0, 57)
    | some o => if 0 ≤ k ∧ k < (o.2.length : Int) then (o.2.getD k.toNat 0, 0) else (0, 1)

set_option maxHeartbeats 1000000 in
theorem Kind_any {w : World} {a o : Nat} {l : List Ob} (h : HfE w a o (flW l) (flH l)) (x : Int) (hr : i64 x) :
    Calls Try.prog 9 #[.pointer (some ⟨a, o, none⟩), .int .i64 x] w fun e w' => e = .returned (.tuple #[.int .i64 (kindP l x).1, .int .i64 (kindP l x).2]) ∧ ∃ n, w' = w.drewN n := by
  cases hf : findP l x with
  | none =>
    have H := hid (find_none h x hr hf)
    have e : kindP l x = (0, 57) := by unfold kindP; rw [hf]
    rw [e]
    go_enter Try.func9, Try.ntmps9
    go_wp2_with (go_at_call 25; refine H.out.mono ?_; rintro e w1 ⟨rfl, n, rfl⟩)
    go_ret2
    exact ⟨rfl, n, rfl⟩
  | some j =>
    have H := hid (find_some h x hr hf)
    obtain ⟨j1, j2⟩ := findP_some hf
    have S := hid (fun n => kind_at (h.drewN n) j j1 (8 * (ofs l j : Int)) rfl)
    have e : kindP l x = (l[j].1, 0) := by
      unfold kindP
      rw [hf]
      simp only [List.getElem?_eq_getElem j1]
    rw [e]
    clear e hf j2
    generalize l[j].1 = m at *
    generalize ofs l j = p at *
    go_enter Try.func9, Try.ntmps9
    go_wp2_with (first | (go_at_call 25; refine H.out.mono ?_; rintro e w1 ⟨rfl, n, rfl⟩) | (go_at_call 26; refine (S.out n).mono ?_; rintro e w1 ⟨rfl, n2, rfl⟩))
    go_ret2
    exact ⟨rfl, _, rfl⟩

set_option maxHeartbeats 1000000 in
theorem Slots_any {w : World} {a o : Nat} {l : List Ob} (h : HfE w a o (flW l) (flH l)) (x : Int) (hr : i64 x) :
    Calls Try.prog 10 #[.pointer (some ⟨a, o, none⟩), .int .i64 x] w fun e w' => e = .returned (.tuple #[.int .i64 (slotsP l x).1, .int .i64 (slotsP l x).2]) ∧ ∃ n, w' = w.drewN n := by
  cases hf : findP l x with
  | none =>
    have H := hid (find_none h x hr hf)
    have e : slotsP l x = (0, 57) := by unfold slotsP; rw [hf]
    rw [e]
    go_enter Try.func10, Try.ntmps10
    go_wp2_with (go_at_call 25; refine H.out.mono ?_; rintro e w1 ⟨rfl, n, rfl⟩)
    go_ret2
    exact ⟨rfl, n, rfl⟩
  | some j =>
    have H := hid (find_some h x hr hf)
    obtain ⟨j1, j2⟩ := findP_some hf
    have S := hid (fun n => slots_at (h.drewN n) j j1 (8 * (ofs l j : Int)) rfl)
    have e : slotsP l x = ((l[j].2.length : Int), 0) := by
      unfold slotsP
      rw [hf]
      simp only [List.getElem?_eq_getElem j1]
    rw [e]
    clear e hf j2
    generalize l[j].2.length = m at *
    generalize ofs l j = p at *
    go_enter Try.func10, Try.ntmps10
    go_wp2_with (first | (go_at_call 25; refine H.out.mono ?_; rintro e w1 ⟨rfl, n, rfl⟩) | (go_at_call 21; refine (S.out n).mono ?_; rintro e w1 ⟨rfl, n2, rfl⟩))
    go_ret2
    exact ⟨rfl, _, rfl⟩

set_option maxHeartbeats 1000000 in
theorem Get_any {w : World} {a o : Nat} {l : List Ob} (h : HfE w a o (flW l) (flH l)) (x k : Int) (hr : i64 x) (hk : i64 k) :
    Calls Try.prog 15 #[.pointer (some ⟨a, o, none⟩), .int .i64 x, .int .i64 k] w fun e w' => e = .returned (.tuple #[.int .i64 (getP l x k).1, .int .i64 (getP l x k).2]) ∧ ∃ n, w' = w.drewN n := by
  have H0 := findSlot_any h x k hr hk
  cases hf : findP l x with
  | none =>
    have e0 : slotP l x k = (0, 57) := by unfold slotP; rw [hf]
    have e : getP l x k = (0, 57) := by unfold getP; rw [hf]
    rw [e0] at H0
    rw [e]
    have H := hid H0
    clear H0
    go_enter Try.func15, Try.ntmps15
    go_wp2_with (go_at_call 23; refine H.out.mono ?_; rintro e w1 ⟨rfl, n, rfl⟩)
    go_ret2
    exact ⟨rfl, n, rfl⟩
  | some j =>
    obtain ⟨j1, j2⟩ := findP_some hf
    have e0 : slotP l x k = if 0 ≤ k ∧ k < (l[j].2.length : Int) then (8 * (ofs l j : Int) + 16 + k * 8, 0) else (0, 1) := by
      unfold slotP
      rw [hf]
      simp only [List.getElem?_eq_getElem j1]
    have e : getP l x k = if 0 ≤ k ∧ k < (l[j].2.length : Int) then (l[j].2.getD k.toNat 0, 0) else (0, 1) := by
      unfold getP
      rw [hf]
      simp only [List.getElem?_eq_getElem j1]
    rw [e0] at H0
    rw [e]
    clear e e0
    by_cases hc : 0 ≤ k ∧ k < (l[j].2.length : Int)
    · rw [if_pos hc] at H0 ⊢
      have hkl : k.toNat < l[j].2.length := by omega
      have e2 : l[j].2.getD k.toNat 0 = l[j].2[k.toNat] := by simp [hkl]
      rw [e2]
      have S := hid (fun n => number_at (h.drewN n) j j1 k.toNat hkl (8 * (ofs l j : Int) + 16 + k * 8) (by omega))
      have H := hid H0
      clear H0 e2 hf j2 hc
      generalize l[j].2[k.toNat] = m at *
      generalize ofs l j = p at *
      go_enter Try.func15, Try.ntmps15
      go_wp2_with (first | (go_at_call 23; refine H.out.mono ?_; rintro e w1 ⟨rfl, n, rfl⟩) | (go_at_call 30; refine (S.out n).mono ?_; rintro e w1 ⟨rfl, n2, rfl⟩))
      go_ret2
      exact ⟨rfl, _, rfl⟩
    · rw [if_neg hc] at H0 ⊢
      have H := hid H0
      clear H0 hf j2 hc
      go_enter Try.func15, Try.ntmps15
      go_wp2_with (go_at_call 23; refine H.out.mono ?_; rintro e w1 ⟨rfl, n, rfl⟩)
      go_ret2
      exact ⟨rfl, n, rfl⟩

end Go.Proofs.Ytkaklabcfhefaab
