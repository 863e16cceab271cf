/-
  What the runner's operations say of the machine's: conversions, texts out of bytes, an append of zeros.
-/
import Derived.Test.YtllbjkeahafleaaGreatDoorRN11
import Derived.Laws.BytesString
import Derived.Lib.UnsafeStr
set_option linter.unusedSimpArgs false
namespace Go.Proofs.YtllbjkeahafleaaGreatDoor
namespace Rn

section
variable {P : Program} {B : Tb} {φ : Fi} {h : Hp} {w : World} {K : KV}

theorem toBytesK_spec : ∀ {l l' : List Value} {K : List UInt8 → Prop}, All2 (CR φ) l l' → toBytesK l K → ∃ bs, K bs ∧ l' = bs.map fun b => (.int .u8 b.toNat : Value)
  | [], l', K, hl, hk => by cases hl; exact ⟨[], hk, rfl⟩
  | x :: l, [], _, hl, _ => hl.elim
  | x :: l, y :: l', K, hl, hk => by
    unfold toBytesK at hk
    simp only at hk
    split at hk
    · rename_i n
      split at hk
      · exact hk.elim
      · rename_i hb
        have hlt : n < 256 := by
          rcases Nat.lt_or_ge n 256 with g | g
          · exact g
          · rw [Nat.ble_eq_true_of_le g] at hb; cases hb
        have e : y = .int .u8 (.ofNat n) := hl.1.1.inv
        obtain ⟨bs, h1, h2⟩ := toBytesK_spec (K := fun t => K (UInt8.ofNat n :: t)) hl.2 hk
        refine ⟨UInt8.ofNat n :: bs, h1, ?_⟩
        rw [List.map_cons, ← h2, e]
        congr 2
        have : (UInt8.ofNat n).toNat = n := by simp; omega
        rw [this]
        rfl
    · exact hk.elim

theorem push_all : ∀ (bs : List UInt8) (r : ByteArray), (bs.map fun b => (b.toNat : Int)).foldl (fun r n => r.push (UInt8.ofNat n.toNat)) r = ⟨⟨r.data.toList ++ bs⟩⟩
  | [], r => by simp
  | b :: bs, r => by
    rw [List.map_cons, List.foldl_cons, push_all bs]
    apply ByteArray.ext
    apply Array.ext'
    simp [ByteArray.push]

theorem wrap_fits {n : Int} (hn : -9223372036854775808 ≤ n ∧ n < 9223372036854775808) : IntKind.i64.wrap n = n := by
  unfold IntKind.wrap
  rw [show ((2 : Int) ^ IntKind.i64.bits) = 18446744073709551616 from rfl, show ((2 : Int) ^ (IntKind.i64.bits - 1)) = 9223372036854775808 from rfl, show IntKind.i64.signed = true from rfl]
  simp only [Bool.true_and, decide_eq_true_eq]
  split <;> omega
theorem wrap_range (n : Int) : -9223372036854775808 ≤ IntKind.i64.wrap n ∧ IntKind.i64.wrap n < 9223372036854775808 := by
  unfold IntKind.wrap
  rw [show ((2 : Int) ^ IntKind.i64.bits) = 18446744073709551616 from rfl, show ((2 : Int) ^ (IntKind.i64.bits - 1)) = 9223372036854775808 from rfl, show IntKind.i64.signed = true from rfl]
  simp only [Bool.true_and, decide_eq_true_eq]
  split <;> omega
theorem convI64_spec {src dst : Nat} {b : TI} {da db : TypeDesc} {x x' : Value} {n : Int} (hw : WR B φ h w) (hx : VR φ x x') (e : x' = .int .i64 n) (hn : -9223372036854775808 ≤ n ∧ n < 9223372036854775808) (h5 : P.underlying src = some da) (h7 : P.underlying dst = some db) (h8 : Kd b.kind db) (hk : convI64 b x h K) :
    DoneR B φ h w ((convert src dst x').run P w) K := by
  unfold convI64 at hk
  split at hk
  · rename_i hki
    rw [hki] at h8
    obtain rfl : db = .int .i64 := h8
    have e2 : (convert src dst x').run P w = .ok x' w := by
      rw [e]
      simp only [convert, Sem.run_bind, run_underlying h5, run_underlying h7, Result.andThen_ok, Conv.intToInt, Sem.run_pure, wrap_fits hn]
    rw [e2]
    exact .same hw hx hk
  · exact hk.elim
theorem oConvert_spec {src dst : Nat} {x x' : Value} (hB : TOK P B) (hw : WR B φ h w) (hx : VR φ x x') (hk : oConvert B src dst x h K) : DoneR B φ h w ((convert src dst x').run P w) K := by
  obtain ⟨a, h1, h2⟩ := tyK_spec hk
  obtain ⟨b, h3, h4⟩ := tyK_spec h2
  obtain ⟨da, h5, h6⟩ := (hB.ok src a h1).under
  obtain ⟨db, h7, h8⟩ := (hB.ok dst b h3).under
  split at h4
  · obtain ⟨s, _, _, e⟩ := hx.inv
    exact convI64_spec hw hx e (wrap_range _) h5 h7 h8 h4
  · split at h4
    · rename_i hb
      have := Nat.eq_of_beq_eq_true hb
      subst this
      obtain ⟨s, _, hc, e⟩ := hx.inv
      have hc' : s.b < 18446744073709551616 := hc
      exact convI64_spec hw hx e (by omega) h5 h7 h8 h4
    · exact h4.elim
  · rename_i k0 n
    have e : x' = .int k0 n := hx.inv
    subst e
    split at h4
    · rename_i k hki
      rw [hki] at h8
      obtain rfl : db = .int k := h8
      have g2 := wrapK_spec h4
      have e : (convert src dst (.int k0 n)).run P w = .ok (.int k (k.wrap n)) w := by
        simp only [convert, Sem.run_bind, run_underlying h5, run_underlying h7, Result.andThen_ok, Conv.intToInt, Sem.run_pure]
      rw [e]
      exact .same hw int_vr g2
    · exact h4.elim
  · rename_i s
    have e : x' = .string s := hx.inv
    subst e
    split at h4
    · rename_i hki
      rw [hki] at h8
      obtain rfl : db = .string := h8
      have e : (convert src dst (.string s)).run P w = .ok (.string s) w := by
        simp only [convert, Sem.run_bind, run_underlying h5, run_underlying h7, Result.andThen_ok, Sem.run_pure]
      rw [e]
      exact .same hw hx h4
    · exact h4.elim
  · rename_i ad n c
    split at h4
    · rename_i e hke
      have hd := kd_slice hke h6
      subst hd
      split at h4
      · rename_i hki
        rw [hki] at h8
        obtain rfl : db = .string := h8
        obtain ⟨i, g1, g2⟩ := tyK_spec h4
        obtain ⟨de, g3, g4⟩ := (hB.ok e i g1).under
        split at g2
        · rename_i hku
          rw [hku] at g4
          obtain rfl : de = .int .u8 := g4
          obtain ⟨l, l', k1, k2, k3, k4⟩ := firstK_spec (P := P) hw hx g2
          obtain ⟨bs, k5, k6⟩ := toBytesK_spec k2 k1
          have hshape : ∃ ad' c', x' = .slice ad' n c' := by
            cases ad with
            | none => exact ⟨_, _, hx.inv⟩
            | some ad =>
              obtain ⟨a', c', e1, _⟩ := slice_shape hx
              exact ⟨_, _, e1⟩
          obtain ⟨ad', c', rfl⟩ := hshape
          rw [run_convert_bytes_string w src dst e ad' n c' h5 g3 h7]
          have hl := k4 w rfl
          cases ad' with
          | none =>
            have e0 : l' = [] := by
              simp only [Builtin.firstCells, Sem.run_pure] at hl
              injection hl with hl1
              simpa using congrArg Array.toList hl1.symm
            have hb0 : bs = [] := by rw [e0] at k6; simpa using k6.symm
            subst hb0
            show DoneR B φ h w (.ok (.string .empty) w) K
            exact .same hw str_vr k5
          | some ad' =>
            have hl' : (loadCells ad' n).run P w = .ok ((bs.map fun b => (b.toNat : Int)).map (Value.int .u8)).toArray w := by
              have : (Builtin.firstCells 1 n (.slice (some ad') n c')) = loadCells ad' (n * 1) := rfl
              rw [this, Nat.mul_one, k6] at hl
              rw [hl, List.map_map]
              rfl
            rw [run_bytesToString w ad' n c' _ hl', push_all]
            exact .same hw str_vr k5
        · exact g2.elim
      · exact h4.elim
    · exact h4.elim
  · exact h4.elim

theorem oSliceData_spec {ts : Array Nat} {ty : Nat} {x x' : Value} (hw : WR B φ h w) (hx : VR φ x x') (hk : oSliceData x h K) : DoneR B φ h w ((Builtin.unsafeSliceData_ ts ty #[x']).run P w) K := by
  unfold oSliceData at hk
  split at hk
  · rename_i n c
    have e : x' = .slice none n c := hx.inv
    subst e
    rw [Lib.run_unsafeSliceData_nil]
    exact .same hw (VR.mk (v := .pointer none) rfl) hk
  · rename_i ad n c
    split at hk
    · exact hk.elim
    · rename_i c0
      obtain ⟨r, o, sp⟩ := ad
      cases sp with
      | some _ => have := hx.inv.1; simp at this
      | none =>
        rcases hx.inv with ⟨_, h0, _⟩ | ⟨_, s, c', hs, rfl, h1, h2⟩
        · simp at h0
        · have hc : c' ≠ 0 := by
            by_cases hT : c0 + 1 = TOP
            · have := (h2 hT).1; omega
            · rw [h1 hT]; omega
          rw [Lib.run_unsafeSliceData_row w ts ty _ _ _ hc]
          exact .same hw (VR.mk (v := .pointer (some ⟨r, o, none⟩)) ⟨s, hs, rfl⟩) hk
  · exact hk.elim
theorem lies_bytes {e : TypeId} (hc : P.cellsOf e = 1) (count off n : Nat) (hn : off + n ≤ count) : liesAt P P.depth e count off e n = true := by
  obtain ⟨d, hd⟩ : ∃ d, P.depth = d + 1 := ⟨2 * (P.types.size + Made.depth) + 1, rfl⟩
  rw [hd]
  simp only [liesAt, Bool.or_eq_true]
  left
  rw [hd]
  simp [rowAt, hc, hn, sameLayout, Nat.mod_one]

theorem heap_freeze {a : Addr} {n b : Nat} (hb : a.block ≠ b) : (w.freeze a n).heap[b]? = w.heap[b]? := by
  unfold World.freeze
  split
  · rfl
  · simp only [Array.getElem?_modify, hb, if_false]
theorem size_freeze {a : Addr} {n : Nat} : (w.freeze a n).heap.size = w.heap.size := by
  unfold World.freeze
  split
  · rfl
  · simp
theorem cell_freeze {a x : Addr} {n : Nat} : (w.freeze a n).cell? x = w.cell? x := by
  by_cases hb : a.block = x.block
  · unfold World.freeze
    split
    · rfl
    · simp only [World.cell?, Array.getElem?_modify, hb, if_true]
      cases w.heap[x.block]? with
      | none => rfl
      | some o => cases o <;> rfl
  · exact cell_of_heap (heap_freeze hb)
theorem shape_freeze {a : Addr} {n b : Nat} : (w.freeze a n).shape? b = w.shape? b := by
  by_cases hb : a.block = b
  · unfold World.freeze
    split
    · rfl
    · simp only [World.shape?, Array.getElem?_modify, hb, if_true]
      cases w.heap[b]? with
      | none => rfl
      | some o => cases o <;> rfl
  · exact shape_of_heap (heap_freeze hb)

theorem oUnsafeString_spec {pt it ty : Nat} {p p' n n' : Value} (hB : TOK P B) (hw : WR B φ h w) (hp : VR φ p p') (hn : VR φ n n') (hk : oUnsafeString B pt p n h K) : Done B φ h w ((Builtin.unsafeString_ #[pt, it] ty #[p', n']).run P w) K := by
  unfold oUnsafeString at hk
  unfold i64K at hk
  split at hk
  · rename_i m
    have en : n' = .int .i64 (.ofNat m) := hn.inv
    subst en
    split at hk
    · have ep : p' = .pointer none := hp.inv
      subst ep
      split at hk
      · have := Lib.run_unsafeString_none (P := P) w pt it ty none
        have e0 : (Int.ofNat 0) = (0 : Int) := rfl
        rw [e0, this]
        exact .same hw str_vr hk
      · exact hk.elim
    · rename_i r o
      obtain ⟨s, hs, rfl⟩ := hp.inv
      split at hk
      · exact hk.elim
      · rename_i k
        obtain ⟨i, h1, h2⟩ := tyK_spec hk
        obtain ⟨d, h3, h4⟩ := (hB.ok pt i h1).under
        split at h2
        · rename_i e hki
          rw [hki] at h4
          obtain rfl : d = .pointer e := h4
          obtain ⟨row, g1, g2⟩ := rowK_spec h2
          split at g2
          · rename_i cs e' fz
            split at g2
            · rename_i hee
              have hee' := Nat.eq_of_beq_eq_true hee
              subst hee'
              obtain ⟨j, g3, g4⟩ := tyK_spec g2
              split at g4
              · rename_i hku
                split at g4
                · exact g4.elim
                · rename_i hmo
                  have hmo' : k + 1 ≤ 1000000000 := Nat.le_of_ble_eq_true hmo
                  rw [dropK_iff, takeK_iff] at g4
                  obtain ⟨k1, k2, k3⟩ := g4
                  simp only [Array.length_toList, List.length_drop] at k1 k2
                  obtain ⟨s', q1, q2⟩ := hw.rows r _ g1
                  rw [hs] at q1
                  cases q1
                  obtain ⟨hb, hu, hrm, q0, hcl, hfz, hcs⟩ := q2
                  obtain ⟨sz, hsh, hso⟩ := q0 rfl
                  obtain ⟨l', z1, z2⟩ := cells_list (φ := φ) (w := w) (s := s) (o := o) ((cs.toList.drop o).take (k + 1)) 0 fun ix v hv => by
                    rw [List.getElem?_take] at hv
                    split at hv
                    · obtain ⟨v', u1, u2⟩ := hcs (o + ix) v (by simpa [List.getElem?_drop] using hv)
                      exact ⟨v', by rw [← u1]; congr 2; omega, u2⟩
                    · cases hv
                  obtain ⟨bs, z3, z4⟩ := toBytesK_spec z1 k3
                  have hl' : l'.length = k + 1 := by rw [z1.length, List.length_take, List.length_drop, Array.length_toList]; have : k.succ = k + 1 := rfl; omega
                  have hbl : bs.length = k + 1 := by rw [z4] at hl'; simpa using hl'
                  obtain ⟨tj, _, _, y1, _, y3, _⟩ := (hB.ok e j g3).known
                  have hsz1 : j.size = 1 := by
                    have := (hB.ok e j g3).len
                    obtain ⟨z0, _, y4, y5, _⟩ := (hB.ok e j g3).zero (w := w)
                    have hag : isAgg j.kind = false := by rw [hku]; rfl
                    have := y5 hag
                    have e1 : z0.cells.toList = [z0] := by cases z0 <;> first | rfl | exact this.elim
                    rw [e1] at y4
                    have := congrArg List.length y4
                    simp at this
                    omega
                  have hc1 : P.cellsOf e = 1 := by simp only [Program.cellsOf, y1, Option.map_some, Option.getD_some, y3, hsz1]
                  have hcell : ∀ ix x, bs[ix]? = some x → w.cell? ((⟨s.b, s.base + o, none⟩ : Addr).add ix) = some (.int .u8 x.toNat) := fun ix x hx => by
                    have := z2 ix (.int .u8 x.toNat) (by rw [z4, List.getElem?_map, hx]; rfl)
                    rw [add_plain]
                    rwa [Nat.add_zero] at this
                  have hcount : s.base + o + (k + 1) ≤ sz := by
                    have := hcl (o + k) (by omega)
                    rw [show s.base + (o + k) = s.base + o + k by omega] at this
                    unfold World.cell? at this
                    unfold World.shape? at hsh
                    simp only at this
                    split at hsh
                    · rename_i c0 el fr hh
                      rw [hh] at this
                      injection hsh with hsh
                      injection hsh with _ hsz
                      simp only [Option.isSome_none, Bool.false_eq_true, if_false] at this
                      have hlt : s.base + o + k < c0.size := by
                        rcases Nat.lt_or_ge (s.base + o + k) c0.size with g | g
                        · exact g
                        · rw [Array.getElem?_eq_none g] at this; cases this
                      omega
                    · cases hsh
                  have hlies := lies_bytes (P := P) hc1 (sz / P.cellsOf e) (s.base + o) (k + 1) (by rw [hc1]; simpa using hcount)
                  have hlb := Lib.run_loadBytes (P := P) w bs ⟨s.b, s.base + o, none⟩ .empty hcell
                  rw [hbl] at hlb
                  have hrun : (Builtin.unsafeString_ #[pt, it] ty #[.pointer (some ⟨s.b, s.base + o, none⟩), .int .i64 (.ofNat (k + 1))]).run P w = .ok (.string ⟨⟨bs⟩⟩) (w.freeze ⟨s.b, s.base + o, none⟩ (k + 1)) := by
                    refine Eq.trans (congrArg (fun q : Sem Value => q.run P w) (show Builtin.unsafeString_ #[pt, it] ty #[.pointer (some ⟨s.b, s.base + o, none⟩), .int .i64 (.ofNat (k + 1))] = (asInt (.int .i64 (.ofNat (k + 1))) >>= _) from rfl)) ?_
                    have hmax : IntKind.i64.max = 9223372036854775807 := rfl
                    have h63 : ¬ (9223372036854775807 : Int) < ((k : Int) + 1) := by omega
                    have hneg : ¬ ((k : Int) + 1) < 0 := by omega
                    have hz : ¬ ((k : Int) + 1) = 0 := by omega
                    have htn : ((k : Int) + 1).toNat = k + 1 := by omega
                    simp [asInt, asIntOf, hmax, h63, hneg, hz, htn, variablesAt, hsh, elemOf, run_underlying h3, hlies, hlb]
                  rw [hrun]
                  have hset := hw.set (o' := .cells cs e (0, 1)) (w' := w.freeze ⟨s.b, s.base + o, none⟩ (k + 1)) (setK_low z3) g1 hs (fun b _ hne => heap_freeze (fun e' => hne e'.symm)) size_freeze ⟨rfl, rfl, rfl⟩
                    ⟨by rw [size_freeze]; exact hb, hu, hrm, fun _ => ⟨sz, by rw [shape_freeze]; exact hsh, hso⟩, fun j hj => by rw [cell_freeze]; exact hcl j hj, (fun e => by cases e), (fun ix v hv => by
                      obtain ⟨v', u1, u2⟩ := hcs ix v hv
                      exact ⟨v', by rw [cell_freeze]; exact u1, u2⟩)⟩
                  exact ⟨φ, _, _, _, _, rfl, str_vr, hset.1, hset.2, setK_spec z3⟩
              · exact g4.elim
            · exact g2.elim
          · exact g2.elim
        · exact h2.elim
    · exact hk.elim
  · exact hk.elim
end

end Rn
end Go.Proofs.YtllbjkeahafleaaGreatDoor
