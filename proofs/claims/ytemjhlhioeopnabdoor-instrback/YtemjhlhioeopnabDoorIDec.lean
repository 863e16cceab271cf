/-
  The contracts of Decode, of both programs. No conditions beyond the code's own shape.
-/
import Derived.Test.YtemjhlhioeopnabDoorIIn
import Derived.Laws.BitsAllLaws
import Derived.Laws.Bits64
import Derived.Laws.ResultCell
namespace Go.Proofs.YtemjhlhioeopnabDoor
open Go.RowKit

theorem i64_or_nat (a b : Nat) (ha : a < 4611686018427387904) (hb : b < 4611686018427387904) : bits .or .i64 (a : Int) (b : Int) = ((a ||| b : Nat) : Int) := by
  have hx : a ||| b < 2 ^ 62 := Nat.or_lt_two_pow (by omega) (by omega)
  show IntKind.i64.wrap ((BitVec.ofInt 64 (a : Int) ||| BitVec.ofInt 64 (b : Int)).toNat : Int) = _
  rw [BitVec.toNat_or, ofInt_u64 a (by omega), ofInt_u64 b (by omega), IntKind.wrap_i64]
  omega

/-- A number moved by a byte, and a byte. -/
theorem or_shl8 (x c : Nat) (hx : x < 65536) (hc : c < 256) : bits .or .i64 ((x : Int) * 256) (c : Int) = ((x * 256 + c : Nat) : Int) := by
  have e1 : (x : Int) * 256 = ((x * 256 : Nat) : Int) := by omega
  rw [e1, i64_or_nat _ _ (by omega) (by omega), nat_join 8 _ _ (by omega) (by omega)]

/-- A slice of a row of bytes. -/
theorem slice_mid (ao : Option Addr) (len cap i j : Nat) (hij : i ≤ j) (hj : j ≤ cap) (w : World) :
    ∃ ao', (Instr.slice 23 (.slice ao len cap) (some (.int .i64 (i : Int))) (some (.int .i64 (j : Int))) none).run Tryd.prog w = .ok (.slice ao' (j - i) (cap - i)) w ∧ (i < cap → ao' = ao.map (·.add i)) := by
  obtain ⟨i0, hi, hz0, hz1, hz2⟩ := elByte.parts
  refine ⟨if cap = i then ao else ao.map (·.add i), ?_, fun h => by rw [if_neg (by omega)]⟩
  simp [Instr.slice, run_underlying Tryd.underlying23, Instr.sliceBounds, run_sliceBound, sizeOf, typeInfo, hi, hz1, hij, hj]

/-- The bytes of a slice of a row. -/
theorem RS.mid {w : World} {off d : Nat} {l : List UInt8} (h : ∀ j u, (bcs l)[j]? = some u → w.cell? ⟨d, off + j, none⟩ = some u) (i k : Nat) (hk : i + k < l.length) : w.cell? ⟨d, off + i + k, none⟩ = some (.int .u8 (l[i + k].toNat : Int)) := by
  have := h (i + k) _ (bcs_get l (i + k) hk)
  rw [Nat.add_assoc]
  exact this

theorem in_result {w : World} {b : Nat} {i : In} {x : Value} (h : InAt w b 0 i) (tmps : Array Value) (h2 : tmps.getD 4 undef = .pointer (some ⟨b, 0, none⟩)) (h3 : tmps.getD 5 undef = x) :
    (results Tryd.f10 tmps).run Tryd.prog w = .ok (.tuple #[inV i, x]) w := by
  obtain ⟨c0, c1, c2, c3⟩ := h
  rw [results_cell_tmp (p := 4) (u := 5) (ty := 31) Tryd.results10, h2, h3]
  simp only [Nat.zero_add] at c1 c2 c3
  simp [go_sem, c0, c1, c2, c3, inV]

/-- What decode does at a place of the code. -/
theorem decR_at {code : List UInt8} {k : Nat} (h : k < code.length) : decR code (k : Int) = if sizeN code[k].toNat = 0 then (in0, 17) else if code.length - k < sizeN code[k].toNat then (in0, 11) else (((k : Int), (code[k].toNat : Int), (beI ((code.drop (k + 1)).take (sizeN code[k].toNat - 1)) : Int), (sizeN code[k].toNat : Int)), 0) := by
  unfold decR
  rw [if_neg (by omega), Int.toNat_natCast, List.drop_eq_getElem_cons h, decAt]
  have e : (code.drop (k + 1)).length + 1 = code.length - k := by simp; omega
  rw [e]

theorem decR_out {code : List UInt8} {at_ : Int} (h : at_ < 0 ∨ (code.length : Int) ≤ at_) : decR code at_ = (in0, 11) := by
  unfold decR
  by_cases h0 : at_ < 0
  · rw [if_pos h0]
  · rw [if_neg h0, List.drop_eq_nil_of_le (by omega)]
    rfl

set_option maxHeartbeats 1000000 in
set_option maxRecDepth 100000 in
theorem dec_any {w : World} {ao : Option Addr} {code : List UInt8} {d cap : Nat} (hB : RS w ao (bcs code) d) (hc : code.length ≤ cap) (hl : cap ≤ 9223372036854775807) (at_ : Int) :
    Calls Tryd.prog 10 #[.slice ao code.length cap, .int .i64 at_] w fun e w' => e = .returned (.tuple #[inV (decR code at_).1, .int .i64 (decR code at_).2]) ∧ Only [] w w' := by
  have o0 := hid ((Only.refl [] w).alloc (.cells #[.int .i64 0, .int .i64 0, .int .i64 0, .int .i64 0] 31))
  by_cases h0 : at_ < 0
  · rw [decR_out (.inl h0)]
    clear hB
    go_enter Tryd.func10, Tryd.ntmps10
    go_wp2
    exact bodyPost_ret (in_result (inAt_new w 0 0 0 0 31) _ rfl rfl) rfl ⟨rfl, o0.out⟩
  by_cases h1 : (code.length : Int) ≤ at_
  · rw [decR_out (.inr h1)]
    clear hB
    go_enter Tryd.func10, Tryd.ntmps10
    go_wp2
    exact bodyPost_ret (in_result (inAt_new w 0 0 0 0 31) _ rfl rfl) rfl ⟨rfl, o0.out⟩
  obtain ⟨k, rfl⟩ : ∃ k : Nat, at_ = (k : Int) := ⟨at_.toNat, by omega⟩
  have hk : k < code.length := by omega
  rw [decR_at hk]
  obtain ⟨off, rfl, hcells⟩ := hB.at (j := k) (by rw [bcs_length]; omega)
  have y0 := hcells k _ (bcs_get code k hk)
  have y0' := fun o => cell_alloc o y0
  have hsz := sizeN_le code[k].toNat
  have HS := fun W => size_any (code[k].toNat : Int) W
  have hcn := code[k].toNat_lt
  have hmid := hid (RS.mid hcells (k + 1))
  clear hcells hB
  generalize code[k].toNat = c at *
  generalize sizeN (c : Int) = z at *
  replace HS := hid HS
  by_cases hz : z = 0
  · subst hz
    rw [if_pos rfl]
    clear hmid
    go_enter Tryd.func10, Tryd.ntmps10
    go_wp2_with (go_at_call 11; refine (HS.out _).mono ?_; rintro e w' ⟨rfl, rfl⟩)
    exact bodyPost_ret (in_result (inAt_new w 0 0 0 0 31) _ rfl rfl) rfl ⟨rfl, o0.out⟩
  rw [if_neg hz]
  have gz : ((z : Int) == 0) = false := by simp; omega
  have gz' : ¬ ((z : Int) = 0) := by omega
  by_cases hs : code.length - k < z
  · rw [if_pos hs]
    have g1 : ((code.length : Int) - (k : Int) < (z : Int)) := by omega
    clear hmid
    go_enter Tryd.func10, Tryd.ntmps10
    go_wp2_with (go_at_call 11; refine (HS.out _).mono ?_; rintro e w' ⟨rfl, rfl⟩)
    exact bodyPost_ret (in_result (inAt_new w 0 0 0 0 31) _ rfl rfl) rfl ⟨rfl, o0.out⟩
  rw [if_neg hs]
  have g1 : ¬ ((code.length : Int) - (k : Int) < (z : Int)) := by omega
  obtain ⟨ao', hsl, hao⟩ := slice_mid (some ⟨d, off, none⟩) code.length cap (k + 1) (k + z) (by omega) (by omega) (w.alloc (.cells #[.int .i64 0, .int .i64 0, .int .i64 0, .int .i64 0] 31))
  rw [show ((k + 1 : Nat) : Int) = (k : Int) + 1 by omega, show ((k + z : Nat) : Int) = (k : Int) + (z : Int) by omega, show k + z - (k + 1) = z - 1 by omega] at hsl
  obtain ⟨bs, hbs⟩ : ∃ bs, bs = (code.drop (k + 1)).take (z - 1) := ⟨_, rfl⟩
  rw [← hbs]
  have hbl : bs.length = z - 1 := by rw [hbs]; simp; omega
  have hget : ∀ j (hj : j < bs.length), ao' = some ⟨d, off + (k + 1), none⟩ ∧ w.cell? ⟨d, off + (k + 1) + j, none⟩ = some (.int .u8 (bs[j].toNat : Int)) := by
    intro j hj
    refine ⟨by rw [hao (by omega)]; simp [Addr.add_lit], ?_⟩
    rw [hmid.out j (by omega)]
    congr 3
    simp [hbs]
  clear hmid hbs
  rw [← hbl] at hsl
  replace hget := hid hget
  replace hao := hid hao
  have hb2 : bs.length ≤ 2 := by omega
  have hz1 : z ≤ bs.length + 1 := by omega
  have hz2 : bs.length + 1 ≤ z := by omega
  clear hbl
  go_enter Tryd.func10, Tryd.ntmps10
  go_wp2_with (go_at_call 11; refine (HS.out _).mono ?_; rintro e w' ⟨rfl, rfl⟩)
  go_loop [8, 45] (fun x i => ∃ j : Nat, j ≤ bs.length ∧ i = .int .i64 j ∧ x = .int .i64 (beI (bs.take j) : Int)) (fun _ i => bs.length - (intOf i).toNat)
  case atStart => exact ⟨0, Nat.zero_le _, rfl, rfl⟩
  case round =>
    obtain ⟨j, hj, rfl, rfl⟩ := hrel
    by_cases hlt : j < bs.length
    · obtain ⟨rfl, hcell⟩ := hget.out j hlt
      have hcell' := fun o => cell_alloc o hcell
      have g2 : ((j : Int) < (bs.length : Int)) := by omega
      have hb := beI_lt (bs.take j)
      have hb' : beI (bs.take j) < 65536 := Nat.lt_of_lt_of_le hb (Nat.le_trans (Nat.pow_le_pow_right (by decide) (show (bs.take j).length ≤ 2 by simp; omega)) (by decide))
      have hor := or_shl8 (beI (bs.take j)) bs[j].toNat hb' bs[j].toNat_lt
      have hsucc := beI_take_succ bs j hlt
      have hbn := bs[j].toNat_lt
      clear hget hao hb
      go_wp2
      refine ⟨⟨j + 1, by omega, by go_num, ?_⟩, by simp [intOf]; omega⟩
      rw [hsucc]
      exact congrArg _ (by omega)
    · have g2 : ¬ ((j : Int) < (bs.length : Int)) := by omega
      have e1 : Hid (bs.take j = bs) := List.take_of_length_le (by omega)
      clear hget hao
      go_wp2
      rw [e1.out]
      exact bodyPost_ret (in_result (inAt_new w (k : Int) (c : Int) (beI bs : Int) (z : Int) 31) _ rfl rfl) rfl ⟨rfl, (Only.refl [] w).alloc _⟩

end Go.Proofs.YtemjhlhioeopnabDoor
