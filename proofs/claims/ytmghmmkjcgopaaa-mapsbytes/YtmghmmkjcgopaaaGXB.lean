/-
  The contract of the second program's Bits. At most 5000 maps of at most 1000 places each.
-/
import Derived.Test.YtmghmmkjcgopaaaCXRead
import Derived.Test.YtmghmmkjcgopaaaCXWrite2
namespace Go.Proofs.Ytmghmmkjcgopaaa
open Go.RowKit

theorem elB : ElT 4 (.bool false) 1 1 := ⟨by kernel_rfl, rfl, by decide, by decide⟩

theorem lcs_one (l : List Bool) : ∀ u ∈ lcs l, u.oneCell' = true := by
  intro u hu
  simp [lcs] at hu
  rcases hu with ⟨_, rfl⟩ | ⟨_, rfl⟩ <;> rfl

theorem lcs_append (a b : List Bool) : lcs (a ++ b) = lcs a ++ lcs b := by simp [lcs]

/-- The bit at a place, a nought behind the last. -/
def bitAt (l : List Bool) (i : Nat) : Bool := l.getD i false

theorem range_bits (l : List Bool) (k : Nat) (h : l.length ≤ k) : (List.range k).map (bitAt l) = l ++ List.replicate (k - l.length) false := by
  apply List.ext_getElem?
  intro i
  by_cases hi : i < k
  · rw [List.getElem?_map, List.getElem?_range hi]
    by_cases hl : i < l.length
    · rw [List.getElem?_append_left hl]
      simp [bitAt, hl]
    · rw [List.getElem?_append_right (by omega), List.getElem?_replicate, if_pos (by omega)]
      simp [bitAt, List.getElem?_eq_none (by omega : l.length ≤ i)]
  · rw [List.getElem?_eq_none (by simp; omega), List.getElem?_eq_none (by simp; omega)]

theorem range8 (l : List Bool) (k : Nat) : (List.range (k + 8)).map (bitAt l) = (List.range k).map (bitAt l) ++ (List.range 8).map (fun i => bitAt l (k + i)) := by
  rw [List.range_add, List.map_append, List.map_map]
  rfl

/-- What stands all along in the loop over bits. -/
structure RbI (w wr : World) (N y g : Nat) (bo : Option Addr) (bits : List Bool) (bd : Nat) (s : List UInt8 × Int) : Prop where
  xw : XWE wr w.heap.size y g s
  row : RS wr bo (lcs bits) bd
  nb : bits ≠ [] → bd ≠ y ∧ bd ≠ g ∧ bd < N
  le : N ≤ wr.heap.size
  o : Only [] w wr

theorem RbI.to {w wr w' : World} {N y g : Nat} {bo : Option Addr} {bits : List Bool} {bd : Nat} {s s' : List UInt8 × Int} (h : RbI w wr N y g bo bits bd s) (ht : XTo wr w.heap.size y g w' s') : ∃ g', RbI w w' N y g' bo bits bd s' := by
  obtain ⟨g', h1, h2, h3⟩ := ht
  have hl := h.xw.lt
  have := h.le
  have := h3.size
  refine ⟨g', h1, h.row.only h3 (fun hn => ?_), fun hb => ?_, by omega, h.o.next h3 (by simp; omega)⟩
  · have hb : bits ≠ [] := by intro e; rw [e] at hn; exact hn rfl
    have := h.nb hb
    simp
    omega
  · have := h.nb hb
    omega

/-- Blocks below B have not turned. -/
def OnW (B : Nat) (a b : World) : Prop := ∃ S, Only S a b ∧ ∀ x ∈ S, B ≤ x
theorem OnW.on {B : Nat} {a b c : World} {S : List Nat} (h : OnW B a b) (k : Only S b c) (hS : ∀ x ∈ S, B ≤ x) : OnW B a c := by
  obtain ⟨T, h1, h2⟩ := h
  exact ⟨T ++ S, (h1.mono (fun x hx => .inl (by simp [hx]))).trans k (fun x hx => .inl (by simp [hx])), fun x hx => by
    rcases List.mem_append.1 hx with hx | hx
    · exact h2 x hx
    · exact hS x hx⟩
theorem OnW.row {B : Nat} {a b : World} {ao : Option Addr} {cs : List Value} {d : Nat} (h : OnW B a b) (hr : RS a ao cs d) (hd : cs ≠ [] → d < B) : RS b ao cs d := by
  obtain ⟨T, h1, h2⟩ := h
  exact hr.only h1 fun hn hm => by have := h2 d hm; have := hd hn; omega
theorem OnW.only {B : Nat} {w a b : World} (h : OnW B a b) (hw : Only [] w a) (hB : w.heap.size ≤ B) : Only [] w b := by
  obtain ⟨T, h1, h2⟩ := h
  exact hw.next h1 fun x hx => by have := h2 x hx; omega

/-- The byte of a chunk. -/
theorem chunk (t : List UInt8 × Int) (bits : List Bool) (k : Nat) (Y : List UInt8) (hY : unpack Y = (List.range k).map (bitAt bits)) : ∃ Y', wOne 1 (wPut t Y) (valB ((List.range 8).map fun i => bitAt bits (k + i)) : Int) = wPut t Y' ∧ unpack Y' = (List.range (k + 8)).map (bitAt bits) := by
  have hv := valB_lt ((List.range 8).map fun i => bitAt bits (k + i))
  have hb := bitsOf_valB ((List.range 8).map fun i => bitAt bits (k + i))
  simp only [List.length_map, List.length_range] at hv hb
  rw [range8]
  generalize (List.range 8).map (fun i => bitAt bits (k + i)) = c at *
  refine ⟨Y ++ [UInt8.ofNat (valB c)], ?_, ?_⟩
  · rw [wOne_ok 1 _ _ (by omega), Int.toNat_natCast, wPut_wPut]
    simp [toBE]
  · have he : (UInt8.ofNat (valB c)).toNat = valB c := by rw [UInt8.toNat_ofNat']; exact Nat.mod_eq_of_lt hv
    rw [unpack_append, unpack_cons, he, hb, hY]
    simp [unpack]

/-- All chunks are what the writer of bits has written. -/
theorem chunks_end (t : List UInt8 × Int) (L S : List Bool) (k : Nat) (Y : List UInt8) (hk : L.length + S.length ≤ k) (hk8 : k < L.length + S.length + 8) (hY : unpack Y = (List.range k).map (bitAt (L ++ S))) : wPut t Y = (wFill (wBits (wBits ([], t) L) S)).2 := by
  obtain ⟨Z, j, f1, f2, f3⟩ := wFill_parts [] t (by simp) (L ++ S)
  have hw : wBits (wBits ([], t) L) S = wBits ([], t) (L ++ S) := by simp [wBits]
  rw [hw, f1]
  rw [range_bits _ _ (by simp; omega)] at hY
  have : Y = Z := by
    apply unpack_inj
    have l1 := congrArg List.length hY
    have l2 := congrArg List.length f2
    rw [unpack_len] at l1 l2
    simp at l1 l2
    rw [hY, f2]
    simp
    omega
  rw [this]

set_option maxHeartbeats 4000000 in
theorem xbits_any {w : World} {Z : Nat → Prop} {v : Value} {l : List Mp} (hm : MpsV w Z v l) (hl : l.length ≤ 5000) (hp : ∀ m ∈ l, m.2.1.length ≤ 1000 ∧ m.2.2.length ≤ 1000) :
    Calls Try.prog 9 #[v] w fun e w' => ∃ ao cap, e = .returned (.slice ao (bitsR l).length cap) ∧ w'.ownsRow w.heap.size 5 1 (.slice ao (bitsR l).length cap) (bitsR l).length (bcs (bitsR l)) ∧ Only [] w w' := by
  obtain ⟨ao, cap, rfl⟩ : ∃ ao cap, v = .slice ao l.length cap := by
    obtain ⟨cs, ⟨ao, cap, d, hv, _⟩, _⟩ := hm
    exact ⟨ao, cap, hv⟩
  have HM := hid (hm.mono (Q := fun b => b < w.heap.size) (fun b _ hb => hb))
  clear hm
  have hX0 : XWE (w.alloc (.cells #[.slice none 0 0, .int .i64 0] 60)) w.heap.size w.heap.size w.heap.size ([], 0) := by
    refine ⟨none, 0, { c0 := by rw [cell_new]; rfl, c1 := by rw [cell_new]; rfl, f0 := frozen_new _ _ _ _, f1 := frozen_new _ _ _ _, own := World.ownsRow_nil _ _ _ _, ne := (fun a ha => by cases ha), ge := Nat.le_refl _ }, rfl⟩
  have hO0 : Only [] w (w.alloc (.cells #[.slice none 0 0, .int .i64 0] 60)) := (Only.refl [] w).alloc _
  go_enter Try.func9, Try.ntmps9
  go_wp2
  generalize w.alloc (.cells #[.slice none 0 0, .int .i64 0] 60) = w2 at *
  obtain ⟨y, hy⟩ : ∃ y, y = w.heap.size := ⟨_, rfl⟩
  rw [← hy]
  replace hy := hid hy
  go_loopw [4] (fun i wr => ∃ (k g : Nat), k ≤ l.length ∧ i = .int .i64 (k : Int) ∧ XWE wr w.heap.size y g ((l.take k).foldl mPut ([], 0)) ∧ Only [] w wr) (fun i _ => l.length - (intOf i).toNat)
  case atStart => exact ⟨0, y, Nat.zero_le _, rfl, by rw [hy.out]; exact hX0, hO0⟩
  case round =>
    clear hX0 hO0
    obtain ⟨k, g, hk, rfl, hX, hO⟩ := hrel
    have hln := fold_len l hp k
    have HX := hid hX
    have hgl := hX.lt
    by_cases hlt : k < l.length
    · have hsucc := hid (show (l.take (k + 1)).foldl mPut ([], 0) = mPut ((l.take k).foldl mPut ([], 0)) l[k] by rw [List.take_succ_eq_append_getElem hlt, List.foldl_append]; rfl)
      obtain ⟨d, off, cp, v1, v2, hv, hd, c0, c1, c2, s1, s2, hcp⟩ := (HM.out.only hO (by simp)).at hlt
      obtain ⟨hv1, hv2⟩ := hp _ (List.getElem_mem hlt)
      simp only [Value.slice.injEq, true_and] at hv
      obtain ⟨rfl, rfl⟩ := hv
      generalize (l.take k).foldl mPut ([], 0) = s at *
      generalize l[k] = m at *
      obtain ⟨a1, cp1, e1, rfl, sl1⟩ := s1
      obtain ⟨a2, cp2, e2, rfl, sl2⟩ := s2
      obtain ⟨mA, mL, mS⟩ := m
      simp only at c0 c1 c2 hv1 hv2 sl1 sl2 hsucc
      have hmp : mPut s (mA, mL, mS) = (wFill (wBits (wBits ([], wOne 1 (wOne 1 (wOne 2 s mA) (mL.length : Int)) (mS.length : Int)) mL) mS)).2 := rfl
      have hs1 := wOne_len 2 s mA
      have hs2 := wOne_len 1 (wOne 2 s mA) (mL.length : Int)
      have hs3 := wOne_len 1 (wOne 1 (wOne 2 s mA) (mL.length : Int)) (mS.length : Int)
      have HA := hid (fun W g' (hX : XWE W w.heap.size y g' s) => xwu2_any hX mA (by omega))
      obtain ⟨sa, hsa⟩ : ∃ sa, sa = wOne 2 s mA := ⟨_, rfl⟩
      rw [← hsa] at HA hmp hs1 hs2 hs3
      have HBb := hid (fun W g' (hX : XWE W w.heap.size y g' sa) => xwu1_any hX (mL.length : Int) (by omega))
      obtain ⟨sb, hsb⟩ : ∃ sb, sb = wOne 1 sa (mL.length : Int) := ⟨_, rfl⟩
      rw [← hsb] at HBb hmp hs2 hs3
      have HCc := hid (fun W g' (hX : XWE W w.heap.size y g' sb) => xwu1_any hX (mS.length : Int) (by omega))
      obtain ⟨sc, hsc⟩ : ∃ sc, sc = wOne 1 sb (mS.length : Int) := ⟨_, rfl⟩
      rw [← hsc] at HCc hmp hs3
      clear hsa hsb hsc
      replace hmp := hid hmp
      have SL1 := hid sl1
      have SL2 := hid sl2
      clear sl1 sl2 hX
      have hX1 : XWE (wr.alloc (.cells #[.int .i64 mA, .slice a1 mL.length cp1, .slice a2 mS.length cp2] 27)) w.heap.size y g s := HX.out.only ((Only.refl [] wr).alloc _) (by simp) (by simp)
      obtain ⟨W1, hW1⟩ : ∃ W1, W1 = wr.alloc (.cells #[.int .i64 mA, .slice a1 mL.length cp1, .slice a2 mS.length cp2] 27) := ⟨_, rfl⟩
      have hbx : Mf W1 wr.heap.size mA (.slice a1 mL.length cp1) (.slice a2 mS.length cp2) := by rw [hW1]; exact mf_new _ _ _ _ _
      have o1 : Only [] wr W1 := by rw [hW1]; exact (Only.refl [] wr).alloc _
      have hl1 : wr.heap.size < W1.heap.size := by rw [hW1]; simp
      rw [← hW1] at hX1
      replace hW1 := hid hW1
      go_upto_region 6 with fail
      rw [← hW1.out]
      obtain ⟨b0, b1, b2⟩ := hbx
      have HBX := hid (show Mf W1 wr.heap.size mA (.slice a1 mL.length cp1) (.slice a2 mS.length cp2) from ⟨b0, b1, b2⟩)
      have hC1 : Hid (OnW w.heap.size wr W1) := ⟨[], o1, by simp⟩
      go_wp2_with (first
        | (go_at_call 21; refine (HA.out _ g hX1).mono ?_; rintro e w3 ⟨rfl, g3, hx3, hg3, o3⟩; have HB3 := hid (HBX.out.only o3 (by simp; omega)); obtain ⟨b30, b31, b32⟩ := HB3.out; have hC3 := hid (hC1.out.on o3 (by simp; omega)); have hz3 := o3.size; have hq3 := hx3.lt)
        | (go_at_call 22; refine (HBb.out _ g3 hx3).mono ?_; rintro e w4 ⟨rfl, g4, hx4, hg4, o4⟩; have HB4 := hid (HB3.out.only o4 (by simp; omega)); obtain ⟨b40, b41, b42⟩ := HB4.out; have hC4 := hid (hC3.out.on o4 (by simp; omega)); have hz4 := o4.size; have hq4 := hx4.lt)
        | (go_at_call 22; refine (HCc.out _ g4 hx4).mono ?_; rintro e w5 ⟨rfl, g5, hx5, hg5, o5⟩; have HB5 := hid (HB4.out.only o5 (by simp; omega)); obtain ⟨b50, b51, b52⟩ := HB5.out; have hC5 := hid (hC4.out.on o5 (by simp; omega)); have hz5 := o5.size; have hq5 := hx5.lt; have R1 := hC5.out.row SL1.out.rs (fun hn => SL1.out.ok hn); have R2 := hid (hC5.out.row SL2.out.rs (fun hn => SL2.out.ok hn)))
        | (at_builtin; refine wpList_append_any (xs := []) (m := 0) rfl (.tmp 36) (.tmp 38) elB Try.underlying25 rfl rfl rfl (World.ownsRow_nil w5 w5.heap.size _ _) R1 (lcs_length _) (lcs_one _) SL1.out.no (by omega) (Nat.le_refl _) ?_; rintro ao6 cap6 w6 hA6; have O6 := hid hA6.only; have HB6 := hid (HB5.out.only O6.out (by simp [Value.ownBlock])); obtain ⟨b60, b61, b62⟩ := HB6.out; have hz6 := O6.out.size; rw [Nat.zero_add] at hA6 ⊢; have hown6 := hA6.own; rw [List.nil_append] at hown6; have R26 := R2.out.only O6.out (by simp [Value.ownBlock]))
        | (at_builtin; refine wpList_append_any rfl (.tmp 40) (.tmp 42) elB Try.underlying25 rfl rfl rfl hown6 R26 (lcs_length _) (lcs_one _) SL2.out.no (by omega) hz6 ?_; rintro ao7 cap7 w7 hA7))
      obtain ⟨bits, hbits⟩ : ∃ bits, bits = mL ++ mS := ⟨_, rfl⟩
      have hbl : mL.length + mS.length = bits.length := by rw [hbits]; simp
      have hI : ∃ bd, RbI w w7 w7.heap.size y g5 ao7 bits bd sc := by
        have hr := RS.of_owns hA7.own
        rw [← lcs_append, ← hbits] at hr
        have hz7 := hA7.only.size
        have hS7 : ∀ x ∈ (Value.ownBlock (.slice ao6 mL.length 0)).toList, w5.heap.size ≤ x := by
          intro x hx
          cases ao6 with
          | none => simp [Value.ownBlock] at hx
          | some a =>
            simp [Value.ownBlock] at hx
            subst hx
            exact ((RS.of_owns hown6).2.2.2.2 a rfl).1
        refine ⟨_, ⟨(hx5.only O6.out (by simp [Value.ownBlock]) (by simp [Value.ownBlock])).only hA7.only (fun hm => by have := hS7 _ hm; omega) (fun hm => by have := hS7 _ hm; omega), hr.1, fun hb => ?_, Nat.le_refl _, ?_⟩⟩
        · cases hao : ao7 with
          | none =>
            rw [hao] at hr
            exact absurd (by simpa [lcs] using hr.1.none_nil) hb
          | some a =>
            have := hr.2.2.2.2 a hao
            simp
            omega
        · exact ((hC5.out.only hO (Nat.le_refl _)).trans O6.out (by simp [Value.ownBlock])).next hA7.only (fun x hx => by have := hS7 x hx; have := (hC5.out.only hO (Nat.le_refl _)).size; omega)
      obtain ⟨bd, hI⟩ := hI
      rw [hbl]
      have hbl2 : bits.length ≤ 2000 := by omega
      have hmp2 : Hid (∀ (k : Nat) (Y : List UInt8), bits.length ≤ k → k < bits.length + 8 → unpack Y = (List.range k).map (bitAt bits) → wPut sc Y = mPut s (mA, mL, mS)) := by
        intro k Y h1 h2 h3
        rw [hmp.out]
        rw [hbits] at h3
        exact chunks_end sc mL mS k Y (by omega) (by omega) h3
      have hszc : sc.1.length ≤ 20000000 := by omega
      generalize w7.heap.size = N at hI
      clear hmp hbits hbl HA HBb HCc SL1 SL2 R1 R2 R26 hA6 hA7 hown6 O6 HB6 b60 b61 b62 HB5 b50 b51 b52 hC5 hx5 hq5 hz6 HB4 b40 b41 b42 hC4 hx4 hq4 hz5 HB3 b30 b31 b32 hC3 hx3 hq3 hz4 hX1 o1 hl1 HBX b0 b1 b2 hC1 hW1 o3 o4 o5 hz3 hg3 hg4 hg5 HX hs1 hs2 hs3 c0 c1 c2
      replace hI := hid hI
      go_loopw [7, 8, 9] (fun i _ _ wx => ∃ (k2 g2 : Nat) (Y : List UInt8), i = .int .i64 (k2 : Int) ∧ k2 < bits.length + 8 ∧ Y.length ≤ k2 ∧ Hid (RbI w wx N y g2 ao7 bits bd (wPut sc Y)) ∧ Hid (unpack Y = (List.range k2).map (bitAt bits))) (fun i _ _ _ => bits.length + 8 - (intOf i).toNat)
      case atStart => exact ⟨0, g5, [], rfl, by omega, by simp, by rw [wPut_nil]; exact hI, hid (by simp [unpack])⟩
      case round =>
        clear hI
        obtain ⟨k2, g2, Y, rfl, hk2, hYl, hI, hY⟩ := hrel
        by_cases hlt2 : k2 < bits.length
        · go_wp2
          go_loopw [8, 9] (fun vv j wz => ∃ j2 : Nat, j2 ≤ 8 ∧ j = .int .i64 (j2 : Int) ∧ vv = .int .i64 (valB ((List.range j2).map fun i => bitAt bits (k2 + i)) : Int) ∧ wz = wr) (fun _ j _ => 8 - (intOf j).toNat)
          case atStart => exact ⟨0, by decide, rfl, rfl, rfl⟩
          case round =>
            obtain ⟨j2, hj2, rfl, rfl, rfl⟩ := hrel
            by_cases hj : j2 < 8
            · have hvl := valB_lt ((List.range j2).map fun i => bitAt bits (k2 + i))
              have hsn : (List.range (j2 + 1)).map (fun i => bitAt bits (k2 + i)) = (List.range j2).map (fun i => bitAt bits (k2 + i)) ++ [bitAt bits (k2 + j2)] := by rw [List.range_succ, List.map_append]; rfl
              have hvs := valB_snoc ((List.range j2).map fun i => bitAt bits (k2 + i)) (bitAt bits (k2 + j2))
              rw [← hsn] at hvs
              simp only [List.length_map, List.length_range] at hvl
              have hvl2 : valB ((List.range j2).map fun i => bitAt bits (k2 + i)) < 128 := Nat.lt_of_lt_of_le hvl (Nat.pow_le_pow_right (n := 2) (by decide) (show j2 ≤ 7 by omega))
              replace hvs := hid hvs
              clear hvl hsn
              generalize valB ((List.range j2).map fun i => bitAt bits (k2 + i)) = vv at *
              by_cases hkj : k2 + j2 < bits.length
              · obtain ⟨off2, hao2, hc2⟩ := hI.out.row.at (j := k2 + j2) (by rw [lcs_length]; omega)
                have hck := hc2 (k2 + j2) _ (lcs_get bits (k2 + j2) hkj)
                have hbt : bitAt bits (k2 + j2) = bits[k2 + j2] := by simp [bitAt, hkj]
                rw [← hbt] at hck
                subst hao2
                clear hc2 hbt
                have hkj' : (k2 : Int) + (j2 : Int) < (bits.length : Int) := by omega
                generalize bitAt bits (k2 + j2) = b at *
                cases b
                all_goals
                  go_wp2
                  refine ⟨⟨j2 + 1, by omega, by go_num, ?_, by first | rfl | trivial⟩, by simp [intOf]; omega⟩
                  rw [hvs.out]
                  simp
              · have hkj' : ¬ (k2 : Int) + (j2 : Int) < (bits.length : Int) := by omega
                have hbt : bitAt bits (k2 + j2) = false := by simp [bitAt, List.getElem?_eq_none (by omega : bits.length ≤ k2 + j2)]
                rw [hbt] at hvs
                go_wp2
                refine ⟨⟨j2 + 1, by omega, by go_num, ?_, by first | rfl | trivial⟩, by simp [intOf]; omega⟩
                rw [hvs.out]
                simp
            · have hj8 : j2 = 8 := by omega
              subst hj8
              obtain ⟨Y', hy1, hy2⟩ := chunk sc bits k2 Y hY.out
              have hlen := wPut_len sc Y
              have HU := hid (xwu1_any hI.out.xw (valB ((List.range 8).map fun i => bitAt bits (k2 + i)) : Int) (by omega))
              rw [hy1] at HU
              have hyl := congrArg List.length hy2
              rw [unpack_len] at hyl
              simp at hyl
              replace hy2 := hid hy2
              clear hy1
              generalize valB ((List.range 8).map fun i => bitAt bits (k2 + i)) = vv at *
              go_wp2_with (go_at_call 22; refine HU.out.mono ?_; rintro e w9 ⟨rfl, hto9⟩)
              obtain ⟨g9, hI9⟩ := hI.out.to hto9
              exact ⟨⟨k2 + 8, g9, Y', by go_num, by omega, by omega, hI9, hy2⟩, by simp [intOf]; omega⟩
        · have hfin := hmp2.out k2 Y (by omega) hk2 hY.out
          have hX9 := hI.out.xw
          rw [hfin, ← hsucc.out] at hX9
          replace hX9 := hid hX9
          have hO9 := hid hI.out.o
          clear hfin
          go_wp2
          exact ⟨⟨k + 1, g2, by omega, by go_num, hX9.out, hO9.out⟩, by simp [intOf]; omega⟩
    · have ht : l.take k = l := List.take_of_length_le (by omega)
      rw [ht] at HX hln
      have hR : bitsR l = wDone (l.foldl mPut ([], 0)) := rfl
      clear hX
      generalize l.foldl mPut ([], 0) = s at *
      obtain ⟨xo, xc, hxw, _⟩ := HX.out
      have c0 := hxw.c0
      have c1 := hxw.c1
      have HOW := hid hxw.own
      clear hxw
      obtain ⟨out, err⟩ := s
      simp only at c0 c1 HOW
      by_cases he : err = 0
      · subst he
        have hR2 : bitsR l = out := by rw [hR]; simp [wDone]
        clear hR
        replace hR2 := hid hR2
        go_wp2
        go_ret
        rw [hR2.out]
        exact ⟨xo, xc, rfl, HOW.out, hO⟩
      · have hR2 : bitsR l = [] := by rw [hR]; simp [wDone, he]
        clear hR
        replace hR2 := hid hR2
        have he1 : (err == 0) = false := by simpa using he
        have he2 : (err != 0) = true := by simpa using he
        go_wp2
        go_ret
        rw [hR2.out]
        exact ⟨none, 0, rfl, World.ownsRow_nil _ _ _ _, hO⟩

end Go.Proofs.Ytmghmmkjcgopaaa
