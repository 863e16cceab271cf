/-
  What the proof leans on, part 2 of 28. The conditions stand in each theorem.
-/
import Derived.Test.YtildemmkhndhjaaGreatDoorB01
import Derived.Laws.StructEq
import Derived.Laws.AppendOwnNone
import Derived.Laws.AppendOwn
import Derived.WalkSpells
import Derived.Laws.IdiomStrings
namespace Go.Proofs.YtildemmkhndhjaaGreatDoor
open Go.RowKit

theorem info5 : (Tryz.prog.info? 5).map (fun i => (i.zero, i.size, i.bytes)) = some (some (.int .u8 0), 1, 1) := by kernel_rfl

theorem slice_hi (ao : Option Addr) (len cap m : Nat) (hm : m ≤ cap) (w : World) :
  (Instr.slice 38 (.slice ao len cap) none (some (.int .i64 (m : Int))) none).run Tryz.prog w = .ok (.slice ao m cap) w := by
 obtain ⟨i0, hi, hz0, hz1, hz2⟩ := info_parts info5
 simp [Instr.slice, run_underlying Tryz.underlying38, Instr.sliceBounds, run_sliceBound, sizeOf, typeInfo, hi, hm]
 cases ao <;> simp [Addr.add]

theorem slice_lo (ao : Option Addr) (len cap m : Nat) (hm : m ≤ len) (w : World) :
  (Instr.slice 38 (.slice ao len cap) (some (.int .i64 (m : Int))) none none).run Tryz.prog w = .ok (.slice (cutAt ao cap m) (len - m) (cap - m)) w := by
 obtain ⟨i0, hi, hz0, hz1, hz2⟩ := info_parts info5
 simp [Instr.slice, run_underlying Tryz.underlying38, Instr.sliceBounds, run_sliceBound, sizeOf, typeInfo, hi, hz1, hm, cutAt]

set_option maxHeartbeats 400000 in
theorem take_ok {r d : Nat} {ao : Option Addr} {cap : Nat} {bs : List UInt8} {n : Nat} {w : World} (h : Rd w r d ao cap bs n 0) (m : Nat) (hm : m ≤ bs.length) :
  Calls Tryz.prog 136 #[.pointer (some ⟨r, 0, none⟩), .int .i64 (m : Int)] w fun e w' => e = .returned (.slice ao m cap) ∧ BS w' ao (bs.take m) d ∧ Rd w' r d (cutAt ao cap m) (cap - m) (bs.drop m) (n + m) 0 ∧ Only [r] w w' := by
 have H : Hid (Rd w r d ao cap bs n 0) := h
 obtain ⟨c0, c1, c2, f0, f1, f2, _, capLe, capMax, _, fit, _⟩ := h
 have k1 := slice_hi ao bs.length cap m (by omega)
 have k2 := slice_lo ao bs.length cap m hm
 have hgt : ¬ ((bs.length : Int) < (m : Int)) := by omega
 go_enter Tryz.func136, Tryz.ntmps136
 go_wp2_with (first | (go_at_call 63; refine (fine_any r 0 _ (by assumption)).mono ?_; rintro e w' ⟨rfl, rfl⟩) | (go_at_call 172; refine (move_any r n m _ (by go_simp) (by go_simp) (by omega)).mono ?_; rintro e w' ⟨rfl, hw⟩))
 go_ret
 exact ⟨rfl, H.out.taken m hm _ hw⟩

set_option maxHeartbeats 400000 in
theorem take_cut {r d : Nat} {ao : Option Addr} {cap : Nat} {bs : List UInt8} {n : Nat} {w : World} (h : Rd w r d ao cap bs n 0) (m : Nat) (hm : bs.length < m) :
  Calls Tryz.prog 136 #[.pointer (some ⟨r, 0, none⟩), .int .i64 (m : Int)] w fun e w' => e = .returned (.slice none 0 0) ∧ Rd w' r d ao cap bs n 11 ∧ Only [r] w w' := by
 have H : Hid (Rd w r d ao cap bs n 0) := h
 obtain ⟨c0, c1, c2, f0, f1, f2, _, capLe, capMax, _, fit, _⟩ := h
 have hgt : ((bs.length : Int) < (m : Int)) := by omega
 go_enter Tryz.func136, Tryz.ntmps136
 go_wp2_with (first | (go_at_call 135; refine (fail_new r 11 _ (by assumption) (by assumption)).mono ?_; rintro e w' ⟨rfl, hw⟩) | (go_at_call 63; refine (fine_any r 11 _ (by rw [← hw]; exact cell_setCell_same _ _ c1)).mono ?_; rintro e w' ⟨rfl, rfl⟩))
 go_ret
 exact ⟨rfl, H.out.failed 11 _ hw⟩

set_option maxHeartbeats 400000 in
theorem take_err {r d : Nat} {ao : Option Addr} {cap : Nat} {bs : List UInt8} {n : Nat} {err : Int} {w : World} (h : Rd w r d ao cap bs n err) (he : (err == 0) = false) (m : Int) :
  Calls Tryz.prog 136 #[.pointer (some ⟨r, 0, none⟩), .int .i64 m] w fun e w' => e = .returned (.slice none 0 0) ∧ w = w' := by
 obtain ⟨c0, c1, c2, f0, f1, f2, _, capLe, capMax, _, fit, _⟩ := h
 by_cases hgt : ((bs.length : Int) < (m : Int))
 all_goals
  go_enter Tryz.func136, Tryz.ntmps136
  go_wp2_with (first | (go_at_call 135; refine (fail_old r 11 err _ (by assumption) (by assumption)).mono ?_; rintro e w' ⟨rfl, rfl⟩) | (go_at_call 63; refine (fine_any r err _ (by assumption)).mono ?_; rintro e w' ⟨rfl, rfl⟩))
  go_ret
  exact ⟨rfl, rfl⟩

/-- Whatever the reader: take. -/
theorem take_any {r d : Nat} {s : List UInt8 × Nat × Int} {w : World} (h : RdE w r d s) (m : Nat) :
  Calls Tryz.prog 136 #[.pointer (some ⟨r, 0, none⟩), .int .i64 (m : Int)] w fun e w' => ∃ ao cap, e = .returned (.slice ao (rTake s m).1.length cap) ∧ BS w' ao (rTake s m).1 d ∧ (rTake s m).1.length ≤ cap ∧ cap ≤ 9223372036854775807 ∧ (ao = none → cap = 0) ∧ RdE w' r d (rTake s m).2 ∧ Only [r] w w' := by
 obtain ⟨ao, cap, h⟩ := h
 obtain ⟨bs, n, err⟩ := s
 simp only at h
 by_cases he : err = 0
 ·subst he
  by_cases hm : bs.length < m
  ·have e : rTake (bs, n, 0) m = ([], bs, n, 11) := by simp [rTake, hm]
   rw [e]
   refine (take_cut h m hm).mono ?_
   rintro e w' ⟨rfl, hr, ho⟩
   exact ⟨none, 0, rfl, BS.nil _ _ _, Nat.le_refl _, by decide, fun _ => rfl, ⟨ao, cap, hr⟩, ho⟩
  ·have e : rTake (bs, n, 0) m = (bs.take m, bs.drop m, n + m, 0) := by simp [rTake, hm]
   rw [e]
   refine (take_ok h m (by omega)).mono ?_
   rintro e w' ⟨rfl, hb, hr, ho⟩
   have hl : (bs.take m).length = m := by simp; omega
   have hc := h.capLe
   exact ⟨ao, cap, by rw [hl], hb, by rw [hl]; omega, h.capMax, h.capNone, ⟨_, _, hr⟩, ho⟩
 ·have e : rTake (bs, n, err) m = ([], bs, n, err) := by simp [rTake, he]
  rw [e]
  refine (take_err h (by simpa using he) _).mono ?_
  rintro e w' ⟨rfl, rfl⟩
  exact ⟨none, 0, rfl, BS.nil _ _ _, Nat.le_refl _, by decide, fun _ => rfl, ⟨ao, cap, h⟩, Only.refl _ _⟩

theorem take_at {r d : Nat} {s : List UInt8 × Nat × Int} {w : World} (h : RdE w r d s) (m : Nat) (mi : Int) (hmi : mi = (m : Int)) :
  Calls Tryz.prog 136 #[.pointer (some ⟨r, 0, none⟩), .int .i64 mi] w fun e w' => ∃ ao cap, e = .returned (.slice ao (rTake s m).1.length cap) ∧ BS w' ao (rTake s m).1 d ∧ (rTake s m).1.length ≤ cap ∧ cap ≤ 9223372036854775807 ∧ (ao = none → cap = 0) ∧ RdE w' r d (rTake s m).2 ∧ Only [r] w w' := by
 subst hmi
 exact take_any h m

theorem slice_lo_at (ao : Option Addr) (len cap m : Nat) (mi : Int) (hmi : mi = (m : Int)) (hm : m ≤ len) (w : World) :
  (Instr.slice 38 (.slice ao len cap) (some (.int .i64 mi)) none none).run Tryz.prog w = .ok (.slice (cutAt ao cap m) (len - m) (cap - m)) w := by
 subst hmi
 exact slice_lo ao len cap m hm w

set_option maxHeartbeats 400000 in
theorem rnumber_any {r d : Nat} {s : List UInt8 × Nat × Int} {w : World} (h : RdE w r d s) (m : Nat) (h8 : m ≤ 8) (mi : Int) (hmi : mi = (m : Int)) :
  Calls Tryz.prog 137 #[.pointer (some ⟨r, 0, none⟩), .int .i64 mi] w fun e w' => e = .returned (.int .u64 (be (rTake s m).1 : Int)) ∧ RdE w' r d (rTake s m).2 ∧ Only [r] w w' := by
 subst hmi
 have hl := rTake_le s m
 have ht := take_any h m
 generalize (rTake s m).1 = L at *
 generalize (rTake s m).2 = s' at *
 have HT := hid ht
 clear ht
 go_enter Tryz.func137, Tryz.ntmps137
 go_wp2_with (go_at_call 136; refine HT.out.mono ?_; rintro e w' ⟨ao, cap, rfl, hbs, hcap, hcm, hcn, hrd, ho⟩)
 go_loop [5, 12] (fun x i => ∃ k : Nat, k ≤ L.length ∧ i = .int .i64 k ∧ x = .int .u64 (be (L.take k) : Int)) (fun _ i => L.length - (intOf i).toNat)
 case atStart => exact ⟨0, Nat.zero_le _, rfl, rfl⟩
 case round =>
  obtain ⟨k, hk, rfl, rfl⟩ := hrel
  by_cases hlt : k < L.length
  ·rcases hbs with hbs | ⟨off, ha, hc⟩
   ·exfalso
    rw [hbs] at hlt
    simp at hlt
   ·have hck := hc k hlt
    subst ha
    clear hc
    go_wp2
    refine ⟨⟨k + 1, by omega, by go_num, ?_⟩, by simp [intOf]; omega⟩
    rw [be_take_succ L k hlt, or_shl8c _ _ (be_lt8 L k (by omega)) (L[k]).toNat_lt]
  ·go_wp2
   go_ret
   exact ⟨ret_int (by rw [List.take_of_length_le (by omega)]), hrd, ho⟩

theorem at_any {r d : Nat} {s : List UInt8 × Nat × Int} {w : World} (h : RdE w r d s) :
  Calls Tryz.prog 83 #[.pointer (some ⟨r, 0, none⟩)] w fun e w' => e = .returned (.int .i64 (s.2.1 : Int)) ∧ w = w' := by
 obtain ⟨ao, cap, c0, c1, c2, f0, f1, f2, _, capLe, capMax, _, fit, _⟩ := h
 go_enter Tryz.func83, Tryz.ntmps83
 go_wp2
 go_ret
 exact ⟨rfl, rfl⟩

theorem err_any {r d : Nat} {s : List UInt8 × Nat × Int} {w : World} (h : RdE w r d s) :
  Calls Tryz.prog 85 #[.pointer (some ⟨r, 0, none⟩)] w fun e w' => e = .returned (.int .i64 s.2.2) ∧ w = w' := by
 obtain ⟨ao, cap, c0, c1, c2, f0, f1, f2, _, capLe, capMax, _, fit, _⟩ := h
 go_enter Tryz.func85, Tryz.ntmps85
 go_wp2
 go_ret
 exact ⟨rfl, rfl⟩

theorem left_any {r d : Nat} {s : List UInt8 × Nat × Int} {w : World} (h : RdE w r d s) :
  Calls Tryz.prog 82 #[.pointer (some ⟨r, 0, none⟩)] w fun e w' => e = .returned (.int .i64 (s.1.length : Int)) ∧ w = w' := by
 obtain ⟨ao, cap, c0, c1, c2, f0, f1, f2, _, capLe, capMax, _, fit, _⟩ := h
 go_enter Tryz.func82, Tryz.ntmps82
 go_wp2
 go_ret
 exact ⟨rfl, rfl⟩

theorem u1_any {r d : Nat} {s : List UInt8 × Nat × Int} {w : World} (h : RdE w r d s) :
  Calls Tryz.prog 80 #[.pointer (some ⟨r, 0, none⟩)] w fun e w' => e = .returned (.int .i64 (be (rTake s 1).1 : Int)) ∧ RdE w' r d (rTake s 1).2 ∧ Only [r] w w' := by
 have hb : be (rTake s 1).1 < 256 ^ 1 := be_lt_of _ 1 (rTake_le s 1)
 have ht := rnumber_any h 1 (by decide) 1 rfl
 generalize be (rTake s 1).1 = L at *
 generalize (rTake s 1).2 = s' at *
 have HT := hid ht
 clear ht
 go_enter Tryz.func80, Tryz.ntmps80
 go_wp2_with (go_at_call 137; refine HT.out.mono ?_; rintro e w' ⟨rfl, hrd, ho⟩)
 go_ret
 exact ⟨rfl, hrd, ho⟩

theorem u2_any {r d : Nat} {s : List UInt8 × Nat × Int} {w : World} (h : RdE w r d s) :
  Calls Tryz.prog 77 #[.pointer (some ⟨r, 0, none⟩)] w fun e w' => e = .returned (.int .i64 (be (rTake s 2).1 : Int)) ∧ RdE w' r d (rTake s 2).2 ∧ Only [r] w w' := by
 have hb : be (rTake s 2).1 < 256 ^ 2 := be_lt_of _ 2 (rTake_le s 2)
 have ht := rnumber_any h 2 (by decide) 2 rfl
 generalize be (rTake s 2).1 = L at *
 generalize (rTake s 2).2 = s' at *
 have HT := hid ht
 clear ht
 go_enter Tryz.func77, Tryz.ntmps77
 go_wp2_with (go_at_call 137; refine HT.out.mono ?_; rintro e w' ⟨rfl, hrd, ho⟩)
 go_ret
 exact ⟨rfl, hrd, ho⟩

theorem n8_any {r d : Nat} {s : List UInt8 × Nat × Int} {w : World} (h : RdE w r d s) :
  Calls Tryz.prog 139 #[.pointer (some ⟨r, 0, none⟩)] w fun e w' => e = .returned (.int .i64 (wrap64 (be (rTake s 8).1 : Int))) ∧ RdE w' r d (rTake s 8).2 ∧ Only [r] w w' := by
 have ht := rnumber_any h 8 (by decide) 8 rfl
 generalize be (rTake s 8).1 = L at *
 generalize (rTake s 8).2 = s' at *
 have HT := hid ht
 clear ht
 go_enter Tryz.func139, Tryz.ntmps139
 go_wp2_with (go_at_call 137; refine HT.out.mono ?_; rintro e w' ⟨rfl, hrd, ho⟩)
 go_ret
 exact ⟨rfl, hrd, ho⟩

/-- A letter; a digit; a name; a method's name. -/
def letter (c : UInt8) : Bool := (decide (65 ≤ c.toNat) && decide (c.toNat ≤ 90)) || (decide (97 ≤ c.toNat) && decide (c.toNat ≤ 122)) || decide (c.toNat = 95)
def digit (c : UInt8) : Bool := decide (48 ≤ c.toNat) && decide (c.toNat ≤ 57)
def sign (c : UInt8) : Bool := letter c || digit c
def nameOK (l : List UInt8) : Bool := decide (l ≠ []) && decide (l.length ≤ 32) && !(digit (l.headD 0)) && l.all sign
def initL : List UInt8 := [60, 105, 110, 105, 116, 62]
def methodOK (l : List UInt8) : Bool := decide (l = initL) || nameOK l

theorem digit_any (c : UInt8) (w : World) : Calls Tryz.prog 159 #[.int .u8 (c.toNat : Int)] w fun e w' => e = .returned (.bool (digit c)) ∧ w' = w := by
 by_cases h1 : 48 ≤ c.toNat <;> by_cases h2 : c.toNat ≤ 57
 all_goals try omega
 all_goals
  go_enter Tryz.func159, Tryz.ntmps159
  go_wp2
  go_ret
  refine ⟨?_, rfl⟩
  simp [digit, *]
  try omega

theorem letter_any (c : UInt8) (w : World) : Calls Tryz.prog 160 #[.int .u8 (c.toNat : Int)] w fun e w' => e = .returned (.bool (letter c)) ∧ w' = w := by
 by_cases h1 : 65 ≤ c.toNat <;> by_cases h2 : c.toNat ≤ 90 <;> by_cases h3 : 97 ≤ c.toNat <;> by_cases h4 : c.toNat ≤ 122 <;> by_cases h5 : c.toNat = 95
 all_goals try omega
 all_goals
  go_enter Tryz.func160, Tryz.ntmps160
  go_wp2
  go_ret
  refine ⟨?_, rfl⟩
  simp [letter, *]
  try omega

theorem all_take_succ (l : List UInt8) (j : Nat) (h : j < l.length) : (l.take (j + 1)).all sign = ((l.take j).all sign && sign l[j]) := by
 rw [List.take_succ_eq_append_getElem h, List.all_append]
 simp

theorem not_all (l : List UInt8) (j : Nat) (h : j < l.length) (hs : sign l[j] = false) : l.all sign = false := by
 rw [List.all_eq_false]
 exact ⟨l[j], List.getElem_mem h, by simp [hs]⟩

set_option maxHeartbeats 400000 in
theorem name_any (l : List UInt8) (hl : l.length ≤ 9223372036854775807) (w : World) : Calls Tryz.prog 109 #[.string (str l)] w fun e w' => e = .returned (.bool (nameOK l)) ∧ w' = w := by
 have hs := str_size l
 have ht := str_toList l
 have hat := fun j h w => run_at l j h w
 by_cases h0 : l = []
 ·subst h0
  go_enter Tryz.func109, Tryz.ntmps109
  go_wp2
  go_ret
  exact ⟨rfl, rfl⟩
 have hp : 0 < l.length := List.length_pos_iff.2 h0
 have hb : (l == []) = false := by simpa using h0
 by_cases h1 : 32 < l.length
 ·have g1 : (32 < (l.length : Int)) := by omega
  go_enter Tryz.func109, Tryz.ntmps109
  go_wp2
  go_ret
  refine ⟨?_, rfl⟩
  have : ¬ l.length ≤ 32 := by omega
  simp [nameOK, this]
 have g1 : ¬ (32 < (l.length : Int)) := by omega
 have a0 := hat 0 hp
 rw [show ((0 : Nat) : Int) = 0 from rfl] at a0
 have hh : l.headD 0 = l[0] := by cases l with | nil => exact absurd rfl h0 | cons a t => rfl
 cases hd : digit l[0] with
 | true =>
  have HD := hid (digit_any l[0] w)
  rw [hd] at HD
  go_enter Tryz.func109, Tryz.ntmps109
  go_wp2_with (go_at_call 159; refine HD.out.mono ?_; rintro e w' ⟨rfl, rfl⟩)
  go_ret
  refine ⟨?_, rfl⟩
  unfold nameOK
  rw [hh, hd]
  simp
 | false =>
  have HD := hid (digit_any l[0] w)
  rw [hd] at HD
  go_enter Tryz.func109, Tryz.ntmps109
  go_wp2_with (go_at_call 159; refine HD.out.mono ?_; rintro e w' ⟨rfl, rfl⟩)
  go_loopw [18] (fun i wr => ∃ j : Nat, j ≤ l.length ∧ i = .int .i64 (j : Int) ∧ (l.take j).all sign = true ∧ wr = w') (fun i _ => l.length - (intOf i).toNat)
  case atStart => exact ⟨0, by omega, rfl, by simp, rfl⟩
  case round =>
   obtain ⟨j, hj, rfl, hall, rfl⟩ := hrel
   by_cases hlt : j < l.length
   ·have g2 : ((j : Int) < (l.length : Int)) := by omega
    have aj := hat j hlt
    have HL := hid (letter_any l[j] wr)
    have HE := hid (digit_any l[j] wr)
    cases e1 : letter l[j] with
    | true =>
     rw [e1] at HL
     go_wp2_with (first | (go_at_call 160; refine HL.out.mono ?_; rintro e w' ⟨rfl, rfl⟩) | (go_at_call 159; refine HE.out.mono ?_; rintro e w' ⟨rfl, rfl⟩))
     refine ⟨⟨j + 1, by omega, by go_num, ?_, trivial⟩, by simp [intOf]; omega⟩
     rw [all_take_succ l j hlt, hall]
     simp [sign, e1]
    | false =>
     rw [e1] at HL
     cases e2 : digit l[j] with
     | true =>
      rw [e2] at HE
      go_wp2_with (first | (go_at_call 160; refine HL.out.mono ?_; rintro e w' ⟨rfl, rfl⟩) | (go_at_call 159; refine HE.out.mono ?_; rintro e w' ⟨rfl, rfl⟩))
      refine ⟨⟨j + 1, by omega, by go_num, ?_, trivial⟩, by simp [intOf]; omega⟩
      rw [all_take_succ l j hlt, hall]
      simp [sign, e2]
     | false =>
      rw [e2] at HE
      go_wp2_with (first | (go_at_call 160; refine HL.out.mono ?_; rintro e w' ⟨rfl, rfl⟩) | (go_at_call 159; refine HE.out.mono ?_; rintro e w' ⟨rfl, rfl⟩))
      go_ret
      refine ⟨?_, rfl⟩
      unfold nameOK
      rw [not_all l j hlt (by simp [sign, e1, e2])]
      simp
   ·have g2 : ¬ ((j : Int) < (l.length : Int)) := by omega
    go_wp2
    go_ret
    refine ⟨?_, rfl⟩
    unfold nameOK
    rw [List.take_of_length_le (by omega)] at hall
    rw [hh, hd, hall]
    simp [h0]
    omega

theorem method_any (l : List UInt8) (hl : l.length ≤ 9223372036854775807) (w : World) : Calls Tryz.prog 113 #[.string (str l)] w fun e w' => e = .returned (.bool (methodOK l)) ∧ w' = w := by
 have HN := hid (name_any l hl w)
 by_cases h : l = initL
 ·subst h
  have ht : (str initL).toList = [60, 105, 110, 105, 116, 62] := str_toList _
  go_enter Tryz.func113, Tryz.ntmps113
  go_wp2_with (go_at_call 109; refine HN.out.mono ?_; rintro e w' ⟨rfl, rfl⟩)
  go_ret
  simp [methodOK]
 ·have ht := str_toList l
  have hb2 : ¬ (l = [60, 105, 110, 105, 116, 62]) := h
  go_enter Tryz.func113, Tryz.ntmps113
  go_wp2_with (go_at_call 109; refine HN.out.mono ?_; rintro e w' ⟨rfl, rfl⟩)
  go_ret
  simp [methodOK, h]
  exact fun e => absurd e hb2

/-- A type: its dimensions, its name. -/
abbrev Ty := Int × List UInt8
def tyV (t : Ty) : Value := .agg #[.int .i64 t.1, .string (str t.2)]
def tyCheck (t : Ty) : Int := if t.1 < 0 ∨ 8 < t.1 then 1 else if t.2 ≠ [] ∧ nameOK t.2 = false then 14 else 0
set_option maxHeartbeats 400000 in
theorem check_any (t : Ty) (hl : t.2.length ≤ 9223372036854775807) (w : World) : Calls Tryz.prog 117 #[tyV t] w fun e w' => e = .returned (.int .i64 (tyCheck t)) ∧ Only [] w w' := by
 obtain ⟨d, n⟩ := t
 simp only [tyV]
 have ho := (Only.refl [] w).alloc (.cells #[.int .i64 d, .string (str n)] 35)
 have HN := hid (name_any n hl (w.alloc (.cells #[.int .i64 d, .string (str n)] 35)))
 have ht := str_toList n
 by_cases h1 : d < 0
 ·go_enter Tryz.func117, Tryz.ntmps117
  go_wp2
  go_ret
  exact ⟨by simp [tyCheck, h1], ho⟩
 by_cases h2 : 8 < d
 ·go_enter Tryz.func117, Tryz.ntmps117
  go_wp2
  go_ret
  exact ⟨by simp [tyCheck, h2], ho⟩
 by_cases h3 : n = []
 ·subst h3
  go_enter Tryz.func117, Tryz.ntmps117
  go_wp2_with (go_at_call 109; refine HN.out.mono ?_; rintro e w' ⟨rfl, rfl⟩)
  go_ret
  exact ⟨by simp [tyCheck, h1, h2], ho⟩
 have hi : n.isEmpty = false := by simpa using h3
 cases h4 : nameOK n with
 | true =>
  rw [h4] at HN
  go_enter Tryz.func117, Tryz.ntmps117
  go_wp2_with (go_at_call 109; refine HN.out.mono ?_; rintro e w' ⟨rfl, rfl⟩)
  go_ret
  exact ⟨by simp [tyCheck, h1, h2, h4], ho⟩
 | false =>
  rw [h4] at HN
  go_enter Tryz.func117, Tryz.ntmps117
  go_wp2_with (go_at_call 109; refine HN.out.mono ?_; rintro e w' ⟨rfl, rfl⟩)
  go_ret
  exact ⟨by simp [tyCheck, h1, h2, h3, h4], ho⟩

theorem eq_type (a b : Ty) (w : World) : (binOp .eql 35 (tyV a) (tyV b)).run Tryz.prog w = .ok (.bool (decide (a = b))) w := by
 obtain ⟨d, n⟩ := a
 obtain ⟨d', n'⟩ := b
 have hS : Tryz.prog.underlying 35 = some (.struct (Tryz.prog.fieldsOf 35)) := by kernel_rfl
 have hp : Tryz.prog.stoodInHeld 35 = false := by kernel_rfl
 simp only [tyV]
 rw [run_eql_struct, show (10000 : Nat) = 9999 + 1 from rfl, run_equalIn_agg w 9999 35 _ _ hS hp]
 simp only [Program.fieldsOf, Tryz.underlying35]
 go_simp
 simp only [str_toList]
 by_cases h1 : d = d' <;> by_cases h2 : n = n' <;> simp [h1, h2]

theorem neq_type (a b : Ty) (w : World) : (binOp .neq 35 (tyV a) (tyV b)).run Tryz.prog w = .ok (.bool (!decide (a = b))) w := by
 obtain ⟨d, n⟩ := a
 obtain ⟨d', n'⟩ := b
 have hS : Tryz.prog.underlying 35 = some (.struct (Tryz.prog.fieldsOf 35)) := by kernel_rfl
 have hp : Tryz.prog.stoodInHeld 35 = false := by kernel_rfl
 simp only [tyV]
 rw [run_neq_struct, show (10000 : Nat) = 9999 + 1 from rfl, run_equalIn_agg w 9999 35 _ _ hS hp]
 simp only [Program.fieldsOf, Tryz.underlying35]
 go_simp
 simp only [str_toList]
 by_cases h1 : d = d' <;> by_cases h2 : n = n' <;> simp [h1, h2]

theorem ty_zero : tyV (0, []) = .agg #[.int .i64 0, .string ⟨#[]⟩] := rfl

theorem number_any (t : Ty) (w : World) : Calls Tryz.prog 214 #[tyV t] w fun e w' => e = .returned (.bool (decide (t = (0, [])))) ∧ Only [] w w' := by
 have hq := eq_type t (0, [])
 obtain ⟨d, n⟩ := t
 rw [ty_zero] at hq
 simp only [tyV] at hq ⊢
 have ho := (Only.refl [] w).alloc (.cells #[.int .i64 d, .string (str n)] 35)
 go_enter Tryz.func214, Tryz.ntmps214
 go_wp2
 go_ret
 exact ⟨by simp, ho⟩

theorem check_bounds {d : Int} {n : List UInt8} (hc : tyCheck (d, n) = 0) : 0 ≤ d ∧ d ≤ 8 := by
 simp only [tyCheck] at hc
 split at hc
 ·omega
 ·omega

/-- Types as cells. -/
def tcs : List Ty → List Value
 | [] => []
 | t :: l => .int .i64 t.1 :: .string (str t.2) :: tcs l

theorem tcs_length (l : List Ty) : (tcs l).length = l.length * 2 := by
 induction l with
 | nil => rfl
 | cons t l ih => simp [tcs, ih]; omega

theorem tcs_append (a b : List Ty) : tcs (a ++ b) = tcs a ++ tcs b := by
 induction a with
 | nil => rfl
 | cons t l ih => simp [tcs, ih]

theorem tcs_one (l : List Ty) : ∀ u ∈ tcs l, u.oneCell' = true := by
 induction l with
 | nil => simp [tcs]
 | cons t l ih =>
  intro u hu
  simp [tcs] at hu
  rcases hu with rfl | rfl | hu
  ·rfl
  ·rfl
  ·exact ih u hu

theorem tcs_get (l : List Ty) (j : Nat) (h : j < l.length) : (tcs l)[j * 2]? = some (.int .i64 l[j].1) ∧ (tcs l)[j * 2 + 1]? = some (.string (str l[j].2)) := by
 induction l generalizing j with
 | nil => simp at h
 | cons t l ih =>
  cases j with
  | zero => exact ⟨rfl, rfl⟩
  | succ j =>
   have := ih j (by simpa using h)
   simp only [tcs, Nat.add_mul, Nat.one_mul, List.getElem_cons_succ]
   exact this

theorem infoT : (Tryz.prog.info? 35).map (fun i => (i.zero, i.size, i.bytes)) = some (some (.agg #[.int .i64 0, .string ⟨#[]⟩]), 2, 24) := by kernel_rfl

/-- Where the types of a slice lie that is read: nowhere, if there are none; else in block d, one behind the other. -/
def TS (w : World) (ao : Option Addr) (l : List Ty) (d : Nat) : Prop :=
 l = [] ∨ ∃ off, ao = some ⟨d, off, none⟩ ∧ ∀ j (h : j < l.length), w.cell? ⟨d, off + j * 2, none⟩ = some (.int .i64 l[j].1) ∧ w.cell? ⟨d, off + j * 2 + 1, none⟩ = some (.string (str l[j].2))

theorem TS.only {w w' : World} {S : List Nat} {ao : Option Addr} {l : List Ty} {d : Nat} (h : TS w ao l d) (ho : Only S w w') (hn : l ≠ [] → d ∉ S) : TS w' ao l d := by
 rcases h with h | ⟨off, ha, hc⟩
 ·exact .inl h
 ·by_cases hb : l = []
  ·exact .inl hb
  have hd := hn hb
  exact .inr ⟨off, ha, fun j hj => ⟨by rw [ho.cell (World.block_lt_of_cell? w _ (hc j hj).1) hd]; exact (hc j hj).1, by rw [ho.cell (World.block_lt_of_cell? w _ (hc j hj).2) hd]; exact (hc j hj).2⟩⟩

theorem TS.none_nil {w : World} {l : List Ty} {d : Nat} (h : TS w none l d) : l = [] := by
 rcases h with h | ⟨off, ha, _⟩
 ·exact h
 ·cases ha

theorem TS.cells {w : World} {a : Addr} {l : List Ty} {d : Nat} (h : TS w (some a) l d) : ∀ j u, (tcs l)[j]? = some u → w.cell? (a.add j) = some u := by
 intro j u hu
 have hj : j < l.length * 2 := by
  have := (List.getElem?_eq_some_iff.1 hu).1
  rwa [tcs_length] at this
 rcases h with h | ⟨off, ha, hc⟩
 ·rw [h] at hj; simp at hj
 ·cases ha
  rw [Addr.add_lit]
  have hk : j / 2 < l.length := by omega
  obtain ⟨g0, g1⟩ := tcs_get l (j / 2) hk
  obtain ⟨h0, h1⟩ := hc (j / 2) hk
  rcases Nat.mod_two_eq_zero_or_one j with e | e
  ·have ej : j / 2 * 2 = j := by omega
   rw [ej] at g0 h0
   rw [h0, ← hu, g0]
  ·have ej : j / 2 * 2 + 1 = j := by omega
   rw [ej] at g1
   rw [show off + j / 2 * 2 + 1 = off + j by omega] at h1
   rw [h1, ← hu, g1]

/-- A row of types that the call owns. -/
abbrev Own (w : World) (B : Nat) (v : Value) (l : List Ty) : Prop := w.ownsRow B 35 2 v l.length (tcs l)

theorem own_slice {w : World} {B : Nat} {v : Value} {l : List Ty} (h : Own w B v l) : ∃ ao cap, v = .slice ao l.length cap := by
 rcases h.2 with ⟨rfl, h0⟩ | ⟨g, cap, _, rfl, _⟩
 ·exact ⟨none, 0, by rw [h0]⟩
 ·exact ⟨_, _, rfl⟩

theorem own_mono {w : World} {B C : Nat} {v : Value} {l : List Ty} (h : Own w B v l) (hC : C ≤ B) : Own w C v l := by
 refine ⟨h.1, ?_⟩
 rcases h.2 with q | ⟨g, cap, cur, q1, q2, q3⟩
 ·exact .inl q
 ·exact .inr ⟨g, cap, cur, q1, by omega, q3⟩

theorem own_only {w w' : World} {B : Nat} {S : List Nat} {v : Value} {l : List Ty} (h : Own w B v l) (ho : Only S w w') (hn : ∀ k, v.ownBlock = some k → k ∉ S) : Own w' B v l := by
 refine ⟨h.1, ?_⟩
 rcases h.2 with q | ⟨g, cap, cur, q1, q2, q3, q4⟩
 ·exact .inl q
 ·subst q1
  exact .inr ⟨g, cap, cur, rfl, q2, by rw [ho.block g (Array.getElem?_eq_some_iff.1 q3).1 (hn g rfl)]; exact q3, q4⟩

theorem BS.cells {w : World} {a : Addr} {bs : List UInt8} {d : Nat} (h : BS w (some a) bs d) : ∀ j u, (bcs bs)[j]? = some u → w.cell? (a.add j) = some u := by
 intro j u hu
 have hj : j < bs.length := by
  have := (List.getElem?_eq_some_iff.1 hu).1
  simpa [bcs] using this
 rcases h with h | ⟨off, ha, hc⟩
 ·rw [h] at hj; simp at hj
 ·cases ha
  rw [Addr.add_lit, hc j hj]
  simp [bcs, hj] at hu
  rw [hu]

theorem BS.none_nil {w : World} {bs : List UInt8} {d : Nat} (h : BS w none bs d) : bs = [] := by
 rcases h with h | ⟨off, ha, _⟩
 ·exact h
 ·cases ha

theorem ownb_mono {w : World} {B C : Nat} {e : TypeId} {size n : Nat} {v : Value} {xs : List Value} (h : w.ownsRow B e size v n xs) (hC : C ≤ B) : w.ownsRow C e size v n xs := by
 refine ⟨h.1, ?_⟩
 rcases h.2 with q | ⟨g, cap, cur, q1, q2, q3⟩
 ·exact .inl q
 ·exact .inr ⟨g, cap, cur, q1, by omega, q3⟩

/-- How much room an append asks for that grows. -/
theorem grow_leC (need : Nat) : ∀ (k old : Nat), old ≤ need + need / 4 + 192 → Builtin.growBy need k old ≤ need + need / 4 + 192 := by
 intro k
 induction k with
 | zero =>
  intro old h
  exact h
 | succ k ih =>
  intro old h
  simp only [Builtin.growBy]
  split
  ·exact h
  ·exact ih _ (by omega)

theorem cap_fitsC {need old : Nat} (h : old < need) (hn : need ≤ 211106232532992) : Builtin.nextslicecap need old * 1 ≤ 281474976710656 := by
 have := grow_leC need 4 old (by omega)
 unfold Builtin.nextslicecap
 split
 ·omega
 ·split
  ·omega
  ·omega

/-- A new row that an append has made. -/
theorem own_freshC (w : World) (xs : List Value) (n cap : Nat) (hx : xs.length = n) (hc : n ≤ cap) (hm : cap ≤ maxLen) :
  (w.drew.alloc (.cells (xs.toArray ++ Builtin.zeroCells (Value.int .u8 0).cells (cap - n)) 5)).ownsRow w.heap.size 5 1 (.slice (some ⟨w.heap.size, 0, none⟩) n cap) n xs ∧
  w.grownBy (w.drew.alloc (.cells (xs.toArray ++ Builtin.zeroCells (Value.int .u8 0).cells (cap - n)) 5)) none := by
 refine ⟨⟨by omega, .inr ⟨w.heap.size, cap, _, rfl, Nat.le_refl _, Go.heap_alloc_new w.drew _, hc, hm, ?_, ?_⟩⟩, ⟨rfl, rfl, rfl, by simp, fun k hk _ => Below.heap_alloc w.drew _ k hk⟩⟩
 ·rw [Array.size_append, size_zeroCells]
  have : (Value.int .u8 0).cells.size = 1 := rfl
  rw [this]
  simp
  omega
 ·simp only [Array.toList_append]
  rw [Nat.mul_one, ← hx]
  exact List.take_left

/-- append(out, l...), out the call's own. -/
theorem append_runC {w : World} {B : Nat} {ao lao : Option Addr} {n cap lcap d : Nat} {xs : List Value} {ls : List UInt8} (ty : TypeId) (hown : w.ownsRow B 5 1 (.slice ao n cap) n xs) (hb : BS w lao ls d) (hl : lao = none → lcap = 0)
  (hsz : n + ls.length ≤ 211106232532992) (hB : B ≤ w.heap.size) :
  ∃ ao' cap' w', (Builtin.append_ #[38, 38] ty #[.slice ao n cap, .slice lao ls.length lcap]).run Tryz.prog w = .ok (.slice ao' (n + ls.length) cap') w' ∧ w'.ownsRow B 5 1 (.slice ao' (n + ls.length) cap') (n + ls.length) (xs ++ bcs ls) ∧
   w.grownBy w' (Value.ownBlock (.slice ao n cap)) ∧ (∀ a, ao' = some a → (∃ a', ao = some a' ∧ a'.block = a.block) ∨ w.heap.size ≤ a.block) ∧ (ao' = none → ao = none) := by
 obtain ⟨i0, hi, hz0, hz1, hz2⟩ := info_parts info5
 have hmax : n + ls.length ≤ maxLen := by unfold maxLen; omega
 cases lao with
 | none =>
  have := hb.none_nil
  subst this
  have := hl rfl
  subst this
  refine ⟨ao, cap, w, ?_, by simpa [bcs] using hown, ⟨rfl, rfl, rfl, Nat.le_refl _, fun _ _ _ => rfl⟩, fun a ha => .inl ⟨a, ha, rfl⟩, fun h => h⟩
  exact run_append_owned_none (P := Tryz.prog) (w := w) B 38 ty 5 i0 1 Tryz.underlying38 hi _ n xs hown
 | some a =>
  have hlen : (bcs ls).length = ls.length * 1 := by rw [bcs_len]; omega
  rcases hown.2 with ⟨hv, h0⟩ | ⟨g, cap', cur, hv, hbg, hg, hnc, hcm, hcs, htake⟩
  ·simp at hv
   obtain ⟨rfl, hn, rfl⟩ := hv
   subst hn
   have hx : xs = [] := List.eq_nil_of_length_eq_zero (by simpa using hown.1)
   by_cases hm : ls.length = 0
   ·obtain ⟨v', w', hr, ho, hgr, hiff⟩ := run_append_own (P := Tryz.prog) w B 38 ty 5 i0 (.int .u8 0) 1 1 Tryz.underlying38 hi hz0 hz1 hz2 rfl (by decide) _ _ _ hown a ls.length lcap (bcs ls) hlen hb.cells (bcs_one ls) hmax (by omega) hB
    have := hiff.2 ⟨rfl, hm⟩
    subst this
    have e2 : 0 + ls.length = 0 := by omega
    refine ⟨none, 0, w', ?_, ?_, hgr, ?_, fun _ => rfl⟩
    ·rw [e2]; exact hr
    ·rw [e2] at ho ⊢; exact ho
    ·intro a ha
     cases ha
   ·have hr := run_append_nil (P := Tryz.prog) w 38 ty 5 i0 (.int .u8 0) Tryz.underlying38 hi hz0 a ls.length lcap (bcs ls) (by rw [hz1]; exact hlen) hb.cells (by omega) (by omega) (by rw [hz2]; omega)
    obtain ⟨q1, q2⟩ := own_freshC w (bcs ls) ls.length (grownCap w ls.length 0 5) (bcs_len ls) (grownCap_ge _ _ _ _) (grownCap_le_maxLen _ _ _ _ (by omega))
    rw [Nat.zero_add, hx, List.nil_append]
    exact ⟨_, _, _, hr, ownb_mono q1 hB, ⟨q2.os, q2.tape, q2.output, q2.size, fun k hk _ => q2.block k hk (by simp)⟩, fun b hb' => .inr (by simp at hb'; rw [← hb']; exact Nat.le_refl _), fun h => by cases h⟩
  ·simp at hv
   obtain ⟨rfl, rfl⟩ := hv
   by_cases hroom : n + ls.length ≤ cap
   ·obtain ⟨w', hr, ho, hgr⟩ := run_append_fits (P := Tryz.prog) w B 38 ty 5 i0 1 Tryz.underlying38 hi hz1 g n cap xs hown a ls.length lcap (bcs ls) hlen hb.cells (bcs_one ls) hroom
    exact ⟨some ⟨g, 0, none⟩, cap, w', hr, ho, hgr, fun a ha => .inl ⟨_, rfl, by simp at ha; rw [← ha]⟩, fun h => by cases h⟩
   ·have hr := run_append_grow (P := Tryz.prog) w 38 ty 5 i0 (.int .u8 0) Tryz.underlying38 hi hz0 ⟨g, 0, none⟩ n cap xs (by rw [hz1]; exact hown.1) (hown.cells (g := g) rfl) a ls.length lcap (bcs ls) (by rw [hz1]; exact hlen) hb.cells (by omega) (by omega) (by rw [hz2]; exact cap_fitsC (by omega) hsz)
    have hxl : xs.length = n := by have := hown.1; omega
    obtain ⟨q1, q2⟩ := own_freshC w (xs ++ bcs ls) (n + ls.length) (grownCap w (n + ls.length) cap 5) (by rw [List.length_append, bcs_len, hxl]) (grownCap_ge _ _ _ _) (grownCap_le_maxLen _ _ _ _ hmax)
    have e : (xs ++ bcs ls).toArray = xs.toArray ++ (bcs ls).toArray := by simp
    rw [e] at q1 q2
    exact ⟨_, _, _, hr, ownb_mono q1 hB, ⟨q2.os, q2.tape, q2.output, q2.size, fun k hk _ => q2.block k hk (by simp)⟩, fun b hb' => .inr (by simp at hb'; rw [← hb']; exact Nat.le_refl _), fun h => by cases h⟩

/-- The same, for the walk. -/
theorem wpList_append_bytes {w : World} {ops : Array Oper} {rest : List Oper} {o : Oper} {a : Act} {Q : Exit → Act → World → Prop} (hgd : o.guard = none) (s x : Operand)
  (ho : o.op = .call { callee := .builtin .append, args := #[s, x], argTypes := #[38, 38] })
  {B : Nat} {ao lao : Option Addr} {n cap lcap d : Nat} {xs : List Value} {ls : List UInt8} (hs : a.eval s = .slice ao n cap) (hx : a.eval x = .slice lao ls.length lcap) (hown : w.ownsRow B 5 1 (.slice ao n cap) n xs) (hb : BS w lao ls d) (hl : lao = none → lcap = 0)
  (hsz : n + ls.length ≤ 211106232532992) (hB : B ≤ w.heap.size)
  (h : ∀ ao' cap' w', w'.ownsRow B 5 1 (.slice ao' (n + ls.length) cap') (n + ls.length) (xs ++ bcs ls) → w.grownBy w' (Value.ownBlock (.slice ao n cap)) → (∀ a, ao' = some a → (∃ a', ao = some a' ∧ a'.block = a.block) ∨ w.heap.size ≤ a.block) → (ao' = none → ao = none) →
   wpList Tryz.prog ops Q rest (a.put o.dst (.slice ao' (n + ls.length) cap')) w') : wpList Tryz.prog ops Q (o :: rest) a w := by
 refine wpList_plain hgd fun K hK => ?_
 obtain ⟨ao', cap', w', hr, h1, h2, h3, h4⟩ := append_runC o.type hown hb hl hsz hB
 unfold Oper.wp execOp
 simp only [ho, resolve, invoke, builtin, Sem.run_bind, Sem.run_pure, Result.andThen_ok, List.map_toArray, List.map_cons, List.map_nil, hs, hx, hr]
 exact hK _ _ (h ao' cap' w' h1 h2 h3 h4)

/-- What the call owns is a slice of bytes that is read. -/
theorem BS.of_owns {w : World} {B : Nat} {ao : Option Addr} {cap : Nat} {bs : List UInt8} (h : w.ownsRow B 5 1 (.slice ao bs.length cap) bs.length (bcs bs)) :
  BS w ao bs ((ao.map (·.block)).getD 0) ∧ bs.length ≤ cap ∧ cap ≤ maxLen ∧ (ao = none → cap = 0) ∧ (∀ a, ao = some a → B ≤ a.block ∧ a.block < w.heap.size ∧ a = ⟨a.block, 0, none⟩) := by
 have hl := h.lt
 rcases h.2 with ⟨hv, h0⟩ | ⟨g, cap', cur, hv, hb, hg, hn, hm, hs, ht⟩
 ·have : bs = [] := List.eq_nil_of_length_eq_zero h0
  subst this
  simp at hv
  obtain ⟨rfl, rfl⟩ := hv
  exact ⟨BS.nil _ _ _, Nat.le_refl _, by decide, fun _ => rfl, fun a ha => by cases ha⟩
 ·simp at hv
  obtain ⟨rfl, rfl⟩ := hv
  refine ⟨.inr ⟨0, rfl, fun j hj => ?_⟩, hn, hm, (fun e => by cases e), fun a ha => ?_⟩
  ·have := h.cellAt j (by omega)
   rw [show (0 + j) = j by omega]
   simp [bcs, hj] at this
   simpa using this
  ·simp at ha
   subst ha
   exact ⟨hb, (Array.getElem?_eq_some_iff.1 hg).1, rfl⟩

theorem eql_nil (ao : Option Addr) (n c : Nat) (w : World) : (binOp .eql 38 (.slice ao n c) (.slice none 0 0)).run Tryz.prog w = .ok (.bool ao.isNone) w := Lib.run_eql_slice_nil w 38 5 ao n c 0 0 Tryz.underlying38

set_option maxHeartbeats 400000 in
theorem clone_any {w : World} {ao : Option Addr} {bs : List UInt8} {cap d : Nat} (hb : BS w ao bs d) (hn : ao = none → cap = 0) (hsz : bs.length ≤ 211106232532992) :
  Calls Tryz.prog 64 #[.slice ao bs.length cap] w fun e w' => ∃ ao' cap', e = .returned (.slice ao' bs.length cap') ∧ w'.ownsRow w.heap.size 5 1 (.slice ao' bs.length cap') bs.length (bcs bs) ∧ Only [] w w' := by
 cases ao with
 | none =>
  have := hb.none_nil
  subst this
  have := hn rfl
  subst this
  have k0 := eql_nil none 0 0
  go_enter Tryz.func64, Tryz.ntmps64
  go_wp2
  go_ret
  exact ⟨none, 0, rfl, World.ownsRow_nil _ _ _ _, Only.refl _ _⟩
 | some a =>
  have k0 := eql_nil (some a) bs.length cap
  go_enter Tryz.func64, Tryz.ntmps64
  go_wp2_with (at_builtin; refine wpList_append_bytes rfl (.tmp 5) (.tmp 6) rfl rfl rfl (World.ownsRow_made w #[] 0 (Nat.le_refl _) (by decide) rfl) (hb.only ((Only.refl [] w).alloc _) (by simp)) (by simp) (by omega) (by simp) ?_)
  intro ao' cap' w' hown hgrow _ _
  go_wp2
  go_ret
  exact ⟨ao', cap', rfl, hown, ((Only.refl [] w).alloc _).trans (Only.of_grown hgrow) (by simp [Value.ownBlock])⟩

theorem ownb_only {w w' : World} {B : Nat} {S : List Nat} {e : TypeId} {size n : Nat} {v : Value} {xs : List Value} (h : w.ownsRow B e size v n xs) (ho : Only S w w') (hn : ∀ k, v.ownBlock = some k → k ∉ S) : w'.ownsRow B e size v n xs := by
 refine ⟨h.1, ?_⟩
 rcases h.2 with q | ⟨g, cap, cur, q1, q2, q3, q4⟩
 ·exact .inl q
 ·subst q1
  exact .inr ⟨g, cap, cur, rfl, q2, by rw [ho.block g (Array.getElem?_eq_some_iff.1 q3).1 (hn g rfl)]; exact q3, q4⟩

/-- The block of a slice's bytes; r, if it has none. -/
def dataOf (ao : Option Addr) (r : Nat) : Nat := match ao with | none => r | some a => a.block

theorem dataOf_le {w : World} {B C r : Nat} {ao : Option Addr} {cap n : Nat} {xs : List Value} (h : w.ownsRow B 5 1 (.slice ao n cap) n xs) (hC : C ≤ B) (hr : C ≤ r) : C ≤ dataOf ao r := by
 unfold dataOf
 split
 ·exact hr
 ·rename_i a
  have := (h.lt a.block rfl).1
  omega

theorem dataOf_lt {w : World} {B : Nat} {ao : Option Addr} {cap n : Nat} {xs : List Value} (h : w.ownsRow B 5 1 (.slice ao n cap) n xs) (o : Obj) : dataOf ao w.heap.size < (w.alloc o).heap.size := by
 unfold dataOf
 split
 ·simp
 ·rename_i a
  have := (h.lt a.block rfl).2
  simp
  omega

theorem rd_new {w : World} {B : Nat} {ao : Option Addr} {cap : Nat} {bs : List UInt8} (h : w.ownsRow B 5 1 (.slice ao bs.length cap) bs.length (bcs bs)) (hl : bs.length ≤ 9223372036854775807) :
  RdE (w.alloc (.cells #[.int .i64 0, .int .i64 0, .slice ao bs.length cap] 140)) w.heap.size (dataOf ao w.heap.size) (bs, 0, 0) := by
 obtain ⟨hb, hc, hm, hn, ha⟩ := BS.of_owns h
 refine ⟨ao, cap, { c0 := ?_, c1 := ?_, c2 := ?_, f0 := frozen_new _ _ _ _, f1 := frozen_new _ _ _ _, f2 := frozen_new _ _ _ _, data := ?_, capLe := hc, capMax := hm, capNone := hn, fit := by simpa using hl, ne := ?_ }⟩
 ·rw [cell_new]; rfl
 ·rw [cell_new]; rfl
 ·rw [cell_new]; rfl
 ·cases ao with
  | none => exact .inl hb.none_nil
  | some a =>
   have hb' := hb.only ((Only.refl [] w).alloc (.cells #[.int .i64 0, .int .i64 0, .slice (some a) bs.length cap] 140)) (by simp)
   exact hb'
 ·intro hne
  cases ao with
  | none => exact absurd hb.none_nil hne
  | some a =>
   have := (ha a rfl).2.1
   simp [dataOf]
   omega

set_option maxHeartbeats 400000 in
theorem newReader_any {w : World} {ao : Option Addr} {bs : List UInt8} {cap d : Nat} (hb : BS w ao bs d) (hn : ao = none → cap = 0) (hsz : bs.length ≤ 211106232532992) :
  Calls Tryz.prog 31 #[.slice ao bs.length cap] w fun e w' => ∃ r d', e = .returned (.pointer (some ⟨r, 0, none⟩)) ∧ RdE w' r d' (bs, 0, 0) ∧ Only [] w w' ∧ w.heap.size ≤ r ∧ w.heap.size ≤ d' ∧ d' < w'.heap.size := by
 go_enter Tryz.func31, Tryz.ntmps31
 go_wp2_with (go_at_call 64; refine (clone_any hb hn hsz).mono ?_; rintro e w' ⟨ao', cap', rfl, hown, ho⟩)
 go_ret
 refine ⟨w'.heap.size, dataOf ao' w'.heap.size, rfl, rd_new hown (by omega), ho.alloc _, ho.size, ?_, ?_⟩
 ·exact (dataOf_le hown (by omega) ho.size)
 ·exact dataOf_lt hown _ 

/-- What Bytes(n) does to a reader. -/
def rBytes (s : List UInt8 × Nat × Int) (n : Int) : List UInt8 × (List UInt8 × Nat × Int) :=
 if n < 0 then ([], s.1, s.2.1, if s.2.2 = 0 then 1 else s.2.2) else rTake s n.toNat

theorem rTake_fst_le (s : List UInt8 × Nat × Int) (m : Nat) : (rTake s m).1.length ≤ s.1.length := by
 unfold rTake
 split
 ·split <;> simp; omega
 ·simp

set_option maxHeartbeats 400000 in
theorem bytes_any {r d : Nat} {s : List UInt8 × Nat × Int} {w : World} (h : RdE w r d s) (n : Int) (hsz : s.1.length ≤ 211106232532992) :
  Calls Tryz.prog 74 #[.pointer (some ⟨r, 0, none⟩), .int .i64 n] w fun e w' => ∃ ao cap, e = .returned (.slice ao (rBytes s n).1.length cap) ∧ w'.ownsRow w.heap.size 5 1 (.slice ao (rBytes s n).1.length cap) (rBytes s n).1.length (bcs (rBytes s n).1) ∧ RdE w' r d (rBytes s n).2 ∧ Only [r] w w' := by
 by_cases hn : n < 0
 ·have e : rBytes s n = ([], s.1, s.2.1, if s.2.2 = 0 then 1 else s.2.2) := by simp [rBytes, hn]
  rw [e]
  obtain ⟨ao, cap, h⟩ := h
  have H := hid h
  obtain ⟨c0, c1, c2, f0, f1, f2, _, capLe, capMax, _, fit, _⟩ := h
  by_cases he : s.2.2 = 0
  ·rw [if_pos he]
   rw [he] at c1
   clear he
   go_enter Tryz.func74, Tryz.ntmps74
   go_wp2_with (go_at_call 135; refine (fail_new r 1 _ (by assumption) (by assumption)).mono ?_; rintro e w' ⟨rfl, hw⟩)
   go_ret
   obtain ⟨q1, q2⟩ := H.out.failed 1 _ hw
   exact ⟨none, 0, rfl, World.ownsRow_nil _ _ _ _, ⟨ao, cap, q1⟩, q2⟩
  ·rw [if_neg he]
   have he' : (s.2.2 == 0) = false := by simpa using he
   clear he
   go_enter Tryz.func74, Tryz.ntmps74
   go_wp2_with (go_at_call 135; refine (fail_old r 1 s.2.2 _ (by assumption) (by assumption)).mono ?_; rintro e w' ⟨rfl, rfl⟩)
   go_ret
   exact ⟨none, 0, rfl, World.ownsRow_nil _ _ _ _, ⟨ao, cap, H.out⟩, Only.refl _ _⟩
 ·obtain ⟨m, rfl⟩ := Int.eq_ofNat_of_zero_le (by omega : 0 ≤ n)
  have e : rBytes s (m : Int) = rTake s m := by simp [rBytes, hn]
  rw [e]
  have hl := rTake_fst_le s m
  have ht := take_any h m
  generalize (rTake s m).1 = L at *
  generalize (rTake s m).2 = s' at *
  clear e
  have HT := hid ht
  clear ht
  go_enter Tryz.func74, Tryz.ntmps74
  go_wp2_with (first | (go_at_call 136; refine HT.out.mono ?_; rintro e w' ⟨ao, cap, rfl, hbs, hcap, hcm, hcn, hrd, ho⟩) | (go_at_call 64; refine (clone_any hbs hcn (by omega)).mono ?_; rintro e w'' ⟨ao', cap', rfl, hown, ho'⟩))
  go_ret
  exact ⟨ao', cap', rfl, ownb_mono hown ho.size, hrd.only ho' (by simp) (by simp), ho.trans ho' (by simp)⟩

theorem conv_str {w : World} {ao : Option Addr} {bs : List UInt8} {d : Nat} (h : BS w ao bs d) (cap : Nat) :
  (convert 38 9 (.slice ao bs.length cap)).run Tryz.prog w = .ok (.string (str bs)) w := by
 rcases h with rfl | ⟨off, rfl, hc⟩
 ·rw [run_convert_bytes_string w 38 9 5 _ _ cap Tryz.underlying38 Tryz.underlying5 Tryz.underlying9]
  cases ao <;> simp [Conv.bytesToString, loadCells] <;> rfl
 ·exact run_convert_bytes_back w 38 9 5 ⟨d, off, none⟩ cap bs Tryz.underlying38 Tryz.underlying5 Tryz.underlying9 (fun j hj => by rw [Addr.add_lit]; exact hc j hj)

theorem conv_cut {w : World} {ao : Option Addr} {cap : Nat} {bs : List UInt8} {d : Nat} (h : BS w ao bs d) (hc : bs.length ≤ cap) (n : Nat) :
  (convert 38 9 (.slice (cutAt ao cap n) (bs.length - n) (cap - n))).run Tryz.prog w = .ok (.string (str (bs.drop n))) w := by
 have := conv_str (h.drop n cap hc) (cap - n)
 rwa [List.length_drop] at this

/-- What Text() does to a reader. -/
def textLen (l : List UInt8) : Nat := match l with | [] => 1 | b :: _ => 1 + b.toNat
def rText (s : List UInt8 × Nat × Int) : List UInt8 × (List UInt8 × Nat × Int) := ((rTake s (textLen s.1)).1.tail, (rTake s (textLen s.1)).2)

set_option maxHeartbeats 800000 in
theorem text_any {r d : Nat} {s : List UInt8 × Nat × Int} {w : World} (h : RdE w r d s) :
  Calls Tryz.prog 138 #[.pointer (some ⟨r, 0, none⟩)] w fun e w' => e = .returned (.string (str (rText s).1)) ∧ RdE w' r d (rText s).2 ∧ Only [r] w w' := by
 have ht := take_at h (textLen s.1)
 unfold rText
 obtain ⟨ao, cap, h⟩ := h
 obtain ⟨c0, c1, c2, f0, f1, f2, data, capLe, capMax, _, fit, _⟩ := h
 have hm : (s.1 = [] ∧ textLen s.1 = 1) ∨ ∃ b l, s.1 = b :: l ∧ textLen s.1 = 1 + b.toNat := by
  cases hs : s.1 with
  | nil => exact .inl ⟨rfl, rfl⟩
  | cons b l => exact .inr ⟨b, l, rfl, rfl⟩
 generalize (rTake s (textLen s.1)).1 = L at *
 generalize (rTake s (textLen s.1)).2 = s' at *
 generalize textLen s.1 = m at *
 generalize s.1 = bs at *
 have HT := hid ht
 clear ht
 by_cases hL : L.length = 0
 ·have hL' : ((L.length : Int) == 0) = true := by simp [hL]
  have hnil : L = [] := List.eq_nil_of_length_eq_zero hL
  subst hnil
  clear hL hL'
  rcases hm with ⟨rfl, rfl⟩ | ⟨b, l, rfl, rfl⟩
  ·go_enter Tryz.func138, Tryz.ntmps138
   go_wp2_with (go_at_call 136; refine (HT.out _ (by simp)).mono ?_; rintro e w' ⟨ao', cap', rfl, hbs, hcap, hcm, hcn, hrd, ho⟩)
   go_ret
   exact ⟨rfl, hrd, ho⟩
  ·rcases data with data | ⟨off, rfl, hc⟩
   ·cases data
   have hc0 := hc 0 (by simp)
   simp only [Nat.add_zero, List.getElem_cons_zero] at hc0
   clear hc
   have hb := b.toNat_lt
   go_enter Tryz.func138, Tryz.ntmps138
   go_wp2_with (go_at_call 136; refine (HT.out _ (by simp)).mono ?_; rintro e w' ⟨ao', cap', rfl, hbs, hcap, hcm, hcn, hrd, ho⟩)
   go_ret
   exact ⟨rfl, hrd, ho⟩
 ·have hL' : ((L.length : Int) == 0) = false := by simpa using hL
  rcases hm with ⟨rfl, rfl⟩ | ⟨b, l, rfl, rfl⟩
  ·go_enter Tryz.func138, Tryz.ntmps138
   go_wp2_with (first | (go_at_call 136; refine (HT.out _ (by simp)).mono ?_; rintro e w' ⟨ao', cap', rfl, hbs, hcap, hcm, hcn, hrd, ho⟩; have k2 := slice_lo_at ao' L.length cap' 1 1 rfl (by omega); have k3 := conv_cut hbs hcap 1))
   go_ret
   exact ⟨rfl, hrd, ho⟩
  ·rcases data with data | ⟨off, rfl, hc⟩
   ·cases data
   have hc0 := hc 0 (by simp)
   simp only [Nat.add_zero, List.getElem_cons_zero] at hc0
   clear hc
   have hb := b.toNat_lt
   go_enter Tryz.func138, Tryz.ntmps138
   go_wp2_with (first | (go_at_call 136; refine (HT.out _ (by simp)).mono ?_; rintro e w' ⟨ao', cap', rfl, hbs, hcap, hcm, hcn, hrd, ho⟩; have k2 := slice_lo_at ao' L.length cap' 1 1 rfl (by omega); have k3 := conv_cut hbs hcap 1))
   go_ret
   exact ⟨rfl, hrd, ho⟩

/-- A writer in block p: what was written, its error; its bytes lie in a block of its own, not below B. -/
structure Wr (w : World) (B p : Nat) (ao : Option Addr) (cap : Nat) (out : List UInt8) (err : Int) : Prop where
  c0 : w.cell? ⟨p, 0, none⟩ = some (.int .i64 (out.length : Int))
  c1 : w.cell? ⟨p, 1, none⟩ = some (.int .i64 err)
  c2 : w.cell? ⟨p, 2, none⟩ = some (.slice ao out.length cap)
  f0 : w.frozen? ⟨p, 0, none⟩ = false
  f1 : w.frozen? ⟨p, 1, none⟩ = false
  f2 : w.frozen? ⟨p, 2, none⟩ = false
  own : w.ownsRow B 5 1 (.slice ao out.length cap) out.length (bcs out)
  ne : ∀ a, ao = some a → a.block ≠ p
  ge : B ≤ p

/-- A writer, its bytes in block g (p, if it has none). -/
def WrE (w : World) (B p g : Nat) (s : List UInt8 × Int) : Prop := ∃ ao cap, Wr w B p ao cap s.1 s.2 ∧ dataOf ao p = g

theorem Wr.lt {w : World} {B p : Nat} {ao : Option Addr} {cap : Nat} {out : List UInt8} {err : Int} (h : Wr w B p ao cap out err) : p < w.heap.size := World.block_lt_of_cell? w _ h.c0

theorem WrE.lt {w : World} {B p g : Nat} {s : List UInt8 × Int} (h : WrE w B p g s) : p < w.heap.size ∧ g < w.heap.size ∧ B ≤ p ∧ B ≤ g := by
  obtain ⟨ao, cap, h, rfl⟩ := h
  have hp := h.lt
  refine ⟨hp, ?_, h.ge, ?_⟩
  · cases ao with
    | none => exact hp
    | some a => exact (h.own.lt a.block rfl).2
  · cases ao with
    | none => exact h.ge
    | some a => exact (h.own.lt a.block rfl).1

theorem WrE.only {w w' : World} {S : List Nat} {B p g : Nat} {s : List UInt8 × Int} (h : WrE w B p g s) (ho : Only S w w') (hp : p ∉ S) (hg : g ∉ S) : WrE w' B p g s := by
  obtain ⟨ao, cap, h, rfl⟩ := h
  have hl := h.lt
  refine ⟨ao, cap, { c0 := (ho.cell (p := ⟨p, 0, none⟩) hl hp).trans h.c0, c1 := (ho.cell (p := ⟨p, 1, none⟩) hl hp).trans h.c1, c2 := (ho.cell (p := ⟨p, 2, none⟩) hl hp).trans h.c2,
                     f0 := (ho.frozen (p := ⟨p, 0, none⟩) hl hp).trans h.f0, f1 := (ho.frozen (p := ⟨p, 1, none⟩) hl hp).trans h.f1, f2 := (ho.frozen (p := ⟨p, 2, none⟩) hl hp).trans h.f2,
                     own := ownb_only h.own ho (fun k hk => ?_), ne := h.ne, ge := h.ge }, rfl⟩
  cases ao with
  | none => simp [Value.ownBlock] at hk
  | some a =>
    simp [Value.ownBlock] at hk
    subst hk
    exact hg

/-- From w on to w' a writer came to be s'; nothing else has turned. -/
def WTo (w : World) (B p g : Nat) (w' : World) (s' : List UInt8 × Int) : Prop := ∃ g', WrE w' B p g' s' ∧ (g' = g ∨ w.heap.size ≤ g') ∧ Only [p, g] w w'

theorem WTo.refl {w : World} {B p g : Nat} {s : List UInt8 × Int} (h : WrE w B p g s) : WTo w B p g w s := ⟨g, h, .inl rfl, Only.refl _ _⟩

theorem wto_trans {w w1 w2 : World} {B p g g1 : Nat} {s2 : List UInt8 × Int} (ho : Only [p, g] w w1) (hg : g1 = g ∨ w.heap.size ≤ g1) (h : WTo w1 B p g1 w2 s2) : WTo w B p g w2 s2 := by
  obtain ⟨g2, h2, h3, h4⟩ := h
  refine ⟨g2, h2, ?_, ho.trans h4 (fun x hx => ?_)⟩
  · have := ho.size
    omega
  · simp at hx ⊢
    omega

/-- What put does. -/
def wPut (s : List UInt8 × Int) (l : List UInt8) : List UInt8 × Int := if s.2 = 0 then (s.1 ++ l, 0) else s

/-- What a writer is when l was appended: v', w1 behind the append. -/
theorem Wr.appended {w w1 : World} {B p : Nat} {ao ao' : Option Addr} {cap cap' : Nat} {out l : List UInt8} (h : Wr w B p ao cap out 0) (hown : w1.ownsRow B 5 1 (.slice ao' (out.length + l.length) cap') (out.length + l.length) (bcs out ++ bcs l))
    (hg : w.grownBy w1 (Value.ownBlock (.slice ao out.length cap))) (hao : ∀ a, ao' = some a → (∃ a', ao = some a' ∧ a'.block = a.block) ∨ w.heap.size ≤ a.block) (hnn : ao' = none → ao = none) (w' : World)
    (hw : (w1.setCell ⟨p, 2, none⟩ (.slice ao' (out.length + l.length) cap')).setCell ⟨p, 0, none⟩ (.int .i64 ((out.length + l.length : Nat) : Int)) = w') :
    WTo w B p (dataOf ao p) w' (out ++ l, 0) := by
  have hl := h.lt
  have o1 : Only [dataOf ao p] w w1 := (Only.of_grown hg).mono (fun x hx => by
    cases ao with
    | none => simp [Value.ownBlock] at hx
    | some a => simp [Value.ownBlock] at hx; subst hx; exact .inl (by simp [dataOf]))
  have hpn : ao ≠ none → p ≠ dataOf ao p := by
    intro hn
    cases ao with
    | none => exact absurd rfl hn
    | some a => exact fun e => h.ne a rfl e.symm
  have hblk : w1.heap[p]? = w.heap[p]? := by
    apply hg.block p hl
    cases ao with
    | none => simp [Value.ownBlock]
    | some a => simp [Value.ownBlock]; exact fun e => h.ne a rfl e.symm
  have k0 : w1.cell? ⟨p, 0, none⟩ = some (.int .i64 (out.length : Int)) := (World.cell?_of_block hblk).trans h.c0
  have k1 : w1.cell? ⟨p, 1, none⟩ = some (.int .i64 0) := (World.cell?_of_block hblk).trans h.c1
  have k2 : w1.cell? ⟨p, 2, none⟩ = some (.slice ao out.length cap) := (World.cell?_of_block hblk).trans h.c2
  have kf : ∀ j, w'.frozen? ⟨p, j, none⟩ = w.frozen? ⟨p, j, none⟩ := fun j => by rw [← hw, frozen_setCell, frozen_setCell]; exact World.frozen?_of_block hblk
  have o2 : Only [p] w1 w' := by
    rw [← hw]
    exact ((Only.refl [p] w1).setCell (.inl (by simp)) _).setCell (.inl (by simp)) _
  have hne : ∀ a, ao' = some a → a.block ≠ p := by
    intro a ha e
    rcases hao a ha with ⟨a', h1, h2⟩ | h1
    · exact h.ne a' h1 (by omega)
    · omega
  have hlen : (out ++ l).length = out.length + l.length := List.length_append
  refine ⟨dataOf ao' p, ⟨ao', cap', { c0 := ?_, c1 := ?_, c2 := ?_, f0 := (kf 0).trans h.f0, f1 := (kf 1).trans h.f1, f2 := (kf 2).trans h.f2, own := ?_, ne := hne, ge := h.ge }, rfl⟩, ?_, ?_⟩
  · rw [← hw, hlen]
    exact cell_setCell_same _ _ ((cell_setCell_ne w1 _ (by simp)).trans k0)
  · rw [← hw, cell_setCell_ne _ _ (by simp), cell_setCell_ne _ _ (by simp)]; exact k1
  · rw [← hw, hlen, cell_setCell_ne _ _ (by simp)]; exact cell_setCell_same _ _ k2
  · rw [hlen, bcs_append]
    exact ownb_only hown o2 (fun k hk => by
      cases ao' with
      | none => simp [Value.ownBlock] at hk
      | some a => simp [Value.ownBlock] at hk; subst hk; simpa using hne a rfl)
  · cases ao' with
    | none =>
      cases ao with
      | none => exact .inl rfl
      | some a => cases hnn rfl
    | some a =>
      rcases hao a rfl with ⟨a', rfl, h2⟩ | h1
      · exact .inl (by simp [dataOf, h2])
      · exact .inr h1
  · exact (o1.mono (fun x hx => .inl (by simp at hx; simp [hx]))).trans o2 (fun x hx => .inl (by simp at hx; simp [hx]))

set_option maxHeartbeats 400000 in
theorem put_any {w : World} {B p g : Nat} {s : List UInt8 × Int} (h : WrE w B p g s) {lao : Option Addr} {lcap d : Nat} {ls : List UInt8} (hb : BS w lao ls d) (hl : lao = none → lcap = 0) (hsz : s.1.length + ls.length ≤ 211106232532992) :
    Calls Tryz.prog 127 #[.pointer (some ⟨p, 0, none⟩), .slice lao ls.length lcap] w fun e w' => e = .returned (.tuple #[]) ∧ WTo w B p g w' (wPut s ls) := by
  obtain ⟨out, err⟩ := s
  obtain ⟨ao, cap, h, rfl⟩ := h
  simp only at h hsz
  by_cases he : err = 0
  · subst he
    have e : wPut (out, 0) ls = (out ++ ls, 0) := by simp [wPut]
    rw [e]
    have H := hid h
    obtain ⟨c0, c1, c2, f0, f1, f2, own, ne, ge⟩ := h
    have hpl := H.out.lt
    go_enter Tryz.func127, Tryz.ntmps127
    go_wp2_with (first | (go_at_call 63; refine (fine_any p 0 _ (by assumption)).mono ?_; rintro e w' ⟨rfl, rfl⟩) | (at_builtin; refine wpList_append_bytes rfl (.tmp 12) (.tmp 13) rfl rfl rfl own hb hl (by omega) (by omega) ?_))
    intro ao' cap' w1 hown hgr hao hnn
    have hblk : w1.heap[p]? = w.heap[p]? := by
      apply hgr.block p hpl
      cases ao with
      | none => simp [Value.ownBlock]
      | some a => simp [Value.ownBlock]; exact fun e => ne a rfl e.symm
    have k0 : w1.cell? ⟨p, 0, none⟩ = some (.int .i64 (out.length : Int)) := (World.cell?_of_block hblk).trans c0
    have k2 : w1.cell? ⟨p, 2, none⟩ = some (.slice ao out.length cap) := (World.cell?_of_block hblk).trans c2
    have kf0 : w1.frozen? ⟨p, 0, none⟩ = false := (World.frozen?_of_block hblk).trans f0
    have kf2 : w1.frozen? ⟨p, 2, none⟩ = false := (World.frozen?_of_block hblk).trans f2
    clear hblk
    go_wp2_with (go_at_call 172; refine (move_any p out.length ls.length _ (by go_simp) (by go_simp) (by omega)).mono ?_; rintro e w' ⟨rfl, hw⟩)
    go_end0
    exact ⟨rfl, H.out.appended hown hgr hao hnn _ hw⟩
  · have e : wPut (out, err) ls = (out, err) := by simp [wPut, he]
    rw [e]
    have H := hid h
    obtain ⟨c0, c1, c2, f0, f1, f2, own, ne, ge⟩ := h
    have he' : (err == 0) = false := by simpa using he
    clear he
    go_enter Tryz.func127, Tryz.ntmps127
    go_wp2_with (go_at_call 63; refine (fine_any p err _ (by assumption)).mono ?_; rintro e w' ⟨rfl, rfl⟩)
    go_end0
    exact ⟨rfl, WTo.refl ⟨ao, cap, H.out, rfl⟩⟩

/-- A number in k bytes, the highest first. -/
def toBE (n : Nat) : Nat → List UInt8
 | 0 => []
 | k + 1 => UInt8.ofNat (n / 256 ^ k) :: toBE n k

theorem toBE_length (n k : Nat) : (toBE n k).length = k := by
 induction k with
 | zero => rfl
 | succ k ih => simp [toBE, ih]

theorem wPut_nil (s : List UInt8 × Int) : wPut s [] = s := by
 obtain ⟨a, b⟩ := s
 unfold wPut
 split
 ·rename_i h; simp at h; simp [h]
 ·rfl

theorem wPut_wPut (s : List UInt8 × Int) (a b : List UInt8) : wPut (wPut s a) b = wPut s (a ++ b) := by
 unfold wPut
 by_cases h : s.2 = 0 <;> simp [h]

theorem wPut_len (s : List UInt8 × Int) (a : List UInt8) : (wPut s a).1.length ≤ s.1.length + a.length := by
 unfold wPut
 split <;> simp

theorem toBE_get (x m k : Nat) (h0 : 0 < k) (h : k ≤ m) : (toBE x m)[m - k]? = some (UInt8.ofNat (x / 256 ^ (k - 1))) := by
 induction m with
 | zero => omega
 | succ m ih =>
  by_cases e : k = m + 1
  ·subst e
   simp [toBE]
  ·rw [show m + 1 - k = (m - k) + 1 by omega]
   simp only [toBE, List.getElem?_cons_succ]
   exact ih (by omega)

theorem toBE_take (x m k : Nat) (h0 : 0 < k) (h : k ≤ m) : (toBE x m).take (m - k) ++ [UInt8.ofNat (x / 256 ^ (k - 1))] = (toBE x m).take (m - (k - 1)) := by
 have hg := toBE_get x m k h0 h
 have hl : m - k < (toBE x m).length := by rw [toBE_length]; omega
 rw [show m - (k - 1) = (m - k) + 1 by omega, List.take_succ_eq_append_getElem hl]
 rw [List.getElem?_eq_getElem hl] at hg
 rw [Option.some.inj hg]

theorem byte_at (x k : Nat) (h0 : 0 < k) : (x : Int) / 2 ^ (8 * k - 8) % 256 = ((UInt8.ofNat (x / 256 ^ (k - 1))).toNat : Int) := by
 have e : (2 : Nat) ^ (8 * k - 8) = 256 ^ (k - 1) := by
  rw [show (256 : Nat) = 2 ^ 8 by decide, ← Nat.pow_mul]
  congr 1
  omega
 have e2 : (x : Int) / 2 ^ (8 * k - 8) = ((x / 256 ^ (k - 1) : Nat) : Int) := by
  rw [← e]
  simp
 rw [e2, UInt8.toNat_ofNat']
 simp

theorem bs_one (w : World) (b : UInt8) (v : Int) (h : v = (b.toNat : Int)) : BS (w.alloc (.cells #[.int .u8 v] 5)) (some ⟨w.heap.size, 0, none⟩) [b] w.heap.size := by
 subst h
 refine .inr ⟨0, rfl, fun j hj => ?_⟩
 have : j = 0 := by simpa using hj
 subst this
 rw [cell_new]
 rfl

set_option maxHeartbeats 400000 in
theorem wnumber_any {w : World} {B p g : Nat} {s : List UInt8 × Int} (h : WrE w B p g s) (x : Nat) (_hx : x < 18446744073709551616) (m : Nat) (hm : m ≤ 8) (mi : Int) (hmi : mi = (m : Int)) (hsz : s.1.length + m ≤ 211106232532992) :
  Calls Tryz.prog 173 #[.pointer (some ⟨p, 0, none⟩), .int .u64 (x : Int), .int .i64 mi] w fun e w' => e = .returned (.tuple #[]) ∧ WTo w B p g w' (wPut s (toBE x m)) := by
 subst hmi
 go_enter Tryz.func173, Tryz.ntmps173
 go_wp2
 go_loopw [6] (fun i wr => ∃ k : Nat, k ≤ m ∧ i = .int .i64 (8 * (k : Int) - 8) ∧ WTo w B p g wr (wPut s ((toBE x m).take (m - k)))) (fun i _ => (intOf i + 8).toNat)
 case atStart => exact ⟨m, by omega, by go_num, by simpa [wPut_nil] using WTo.refl h⟩
 case round =>
  obtain ⟨k, hk, rfl, g', hw, hg', ho⟩ := hrel
  by_cases hlt : 0 < k
  ·have hb := byte_at x k hlt
   have HB := hid (bs_one wr (UInt8.ofNat (x / 256 ^ (k - 1))) _ hb)
   have hw' := hid (hw.only ((Only.refl [] wr).alloc (.cells #[.int .u8 ((x : Int) / 2 ^ (8 * k - 8) % 256)] 5)) (by simp) (by simp))
   have hl := wPut_len s ((toBE x m).take (m - k))
   have hl2 : ((toBE x m).take (m - k)).length ≤ m - k := List.length_take_le _ _
   have HP := hid (put_any hw'.out HB.out (lcap := 1) (by simp) (by simp only [List.length_singleton]; omega))
   clear hb
   have h8 : (8 : Int) ≤ 8 * (k : Int) := by omega
   go_wp2_with (go_at_call 127; refine HP.out.mono ?_; rintro e w2 ⟨rfl, hto⟩)
   refine ⟨⟨k - 1, by omega, ?_, ?_⟩, ?_⟩
   ·congr 1
    omega
   ·rw [wPut_wPut, toBE_take x m k hlt hk] at hto
    exact wto_trans (ho.alloc _) hg' hto
   ·simp [intOf]
    omega
  ·have : k = 0 := by omega
   subst this
   go_wp2
   go_end0
   refine ⟨rfl, g', ?_, hg', ho⟩
   rw [List.take_of_length_le (by rw [toBE_length]; omega)] at hw
   exact hw

end Go.Proofs.YtildemmkhndhjaaGreatDoor
