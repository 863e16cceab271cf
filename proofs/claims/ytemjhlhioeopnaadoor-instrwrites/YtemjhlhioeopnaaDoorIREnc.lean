/-
  The contract of the second program's Encode. There are at most 100000 instructions.
-/
import Derived.Test.YtemjhlhioeopnaaDoorIEnc
namespace Go.Proofs.YtemjhlhioeopnaaDoor
open Go.RowKit

set_option maxHeartbeats 1000000 in
set_option maxRecDepth 100000 in
theorem renc_any {w : World} {ao : Option Addr} {l : List In} {d cap : Nat} (hQ : RS w ao (qcs l) d) (hl : l.length ≤ 100000) :
    Calls Tryd.prog 25 #[.slice ao l.length cap] w (EncPost w (encR l)) := by
  obtain ⟨x, hx⟩ : ∃ x, x = encR l := ⟨_, rfl⟩
  rw [← hx]
  have hr : Hid (x = joinB [] (encR (l.drop 0))) := by
    rw [hx]
    exact (joinB_nil (encR_none l)).symm
  clear hx
  have hI := hid (fun W (hW : Only [] w W) j (hj : j < l.length) => (hQ.only0 hW).inAt hj)
  have hdl := fun (h : 0 < l.length) => hQ.lt (qcs_ne (List.length_pos_iff.1 h))
  clear hQ
  go_enter Tryd.func25, Tryd.ntmps25
  go_wp2
  go_loopw [4, 5] (fun v i wr => ∃ (j : Nat) (bs : List UInt8) (vo : Option Addr) (vc : Nat), j ≤ l.length ∧ bs.length ≤ 3 * j ∧ i = .int .i64 (j : Int) ∧ v = .slice vo bs.length vc ∧ Hid (x = joinB bs (encR (l.drop j))) ∧ Hid (wr.ownsRow w.heap.size 5 1 (.slice vo bs.length vc) bs.length (bcs bs)) ∧ Only [] w wr) (fun _ i _ => l.length - (intOf i).toNat)
  case atStart => exact ⟨0, [], none, 0, Nat.zero_le _, Nat.le_refl _, rfl, rfl, hr, hid (World.ownsRow_nil _ _ _ _), Only.refl _ _⟩
  case round =>
    obtain ⟨j, bs, vo, vc, hj, hbl, rfl, rfl, hq, hown, hor⟩ := hrel
    clear hr
    by_cases hlt : j < l.length
    · have g2 : ((j : Int) < (l.length : Int)) := by omega
      have hd0 := hdl (by omega)
      obtain ⟨off, rfl, hi0⟩ := hI.out wr hor j hlt
      have I0 := hid hi0
      obtain ⟨y0, y1, y2, y3⟩ := hi0
      have hen := encR_drop hlt
      have hsz := sizeN_le l[j].2.1
      have HS := fun W => rsize_any l[j].2.1 W
      have hso := @size_op l[j].2.1
      generalize l[j] = i at *
      obtain ⟨a, op, n, s⟩ := i
      simp only at y0 y1 y2 y3 HS hsz hso
      rw [hen] at hq
      clear hen hI hdl
      have e1 : encErr (a, op, n, s) = if sizeN op = 0 then 17 else if n < 0 ∨ ((256 ^ (sizeN op - 1) : Nat) : Int) ≤ n then 1 else 0 := rfl
      have e2 : encOne (a, op, n, s) = UInt8.ofNat op.toNat :: ((if sizeN op = 3 then [UInt8.ofNat (n.toNat / 256)] else []) ++ (if sizeN op = 1 then [] else [UInt8.ofNat n.toNat])) := rfl
      rw [e1, e2] at hq
      clear e1 e2
      generalize sizeN op = z at *
      replace HS := hid HS
      rcases (by omega : z = 0 ∨ z = 1 ∨ z = 2 ∨ z = 3) with rfl | rfl | rfl | rfl
      · have hxx : x = ([], 17) := by rw [hq.out]; simp [joinB]
        subst hxx
        clear hq hso
        go_wp2_with (go_at_call 15; refine (HS.out _).mono ?_; rintro e w' ⟨rfl, rfl⟩)
        go_ret2
        exact ⟨none, 0, rfl, World.ownsRow_nil _ _ _ _, hor⟩
      · obtain ⟨p0, p45⟩ := hso (by decide)
        by_cases hn : n < 0
        · have hxx : x = ([], 1) := by rw [hq.out]; simp [joinB, hn]
          subst hxx
          clear hq hso
          have hd : decide (n < 0) = true := decide_eq_true hn
          go_wp2_with (first | (go_at_call 15; refine (HS.out _).mono ?_; rintro e w' ⟨rfl, rfl⟩) | fail)
          go_quiet (fail)
          go_wp2
          go_ret2
          exact ⟨none, 0, rfl, World.ownsRow_nil _ _ _ _, hor.drewN nq⟩
        have hd : decide (n < 0) = false := decide_eq_false hn
        by_cases hm : 1 ≤ n
        · have hxx : x = ([], 1) := by rw [hq.out]; simp [joinB, hm]
          subst hxx
          clear hq hso
          go_wp2_with (first | (go_at_call 15; refine (HS.out _).mono ?_; rintro e w' ⟨rfl, rfl⟩) | fail)
          go_quiet (fail)
          go_wp2
          go_ret2
          exact ⟨none, 0, rfl, World.ownsRow_nil _ _ _ _, hor.drewN nq⟩
        have hq' : Hid (x = joinB (bs ++ [UInt8.ofNat op.toNat]) (encR (l.drop (j + 1)))) := by
          rw [Hid, hq.out]
          simp [hn, hm, joinB_joinB]
        clear hq hso
        have hne : ∀ a, vo = some a → d ≠ a.block := fun a ha => by have := ((RS.of_owns hown.out).2.2.2.2 a ha).1; omega
        replace hne := hid hne
        go_wp2_with (first | (go_at_call 15; refine (HS.out _).mono ?_; rintro e w' ⟨rfl, rfl⟩) | fail)
        go_quiet (fail)
        have oq := hid ((Only.refl [] w').drewN nq)
        have Iq := hid (I0.out.only oq.out (by simp))
        have hownq := hid (rows_only hown.out oq.out (by simp))
        have sq := oq.out.size
        have sw := hor.size
        go_wp2_with (first | (at_builtin; refine wpList_append_any (ys := bcs [UInt8.ofNat op.toNat]) rfl (.tmp 39) (.tmp 46) elByte Tryd.underlying33 rfl rfl rfl (hownq.out.alloc _) (rows_byte _ _ _ (by rw [UInt8.toNat_ofNat']; omega) (by simp)) rfl (bcs_one _) (by simp) (by omega) (by simp only [World.size_alloc] at *; omega) ?_; rintro ao1 cap1 w1 hA1; have s1 := hA1.grown.size))
        refine ⟨⟨j + 1, bs ++ [UInt8.ofNat op.toNat], ao1, cap1, by omega, by simp; omega, by go_num, by simp, hq', ?_, ?_⟩, by simp [intOf]; omega⟩
        · have := hA1.own
          simp only [← bcs_append] at this
          simpa [Hid] using this
        · exact hA1.next (hownq.out.alloc _) ((hor.next oq.out (by simp)).alloc _)
      · obtain ⟨p0, p45⟩ := hso (by decide)
        by_cases hn : n < 0
        · have hxx : x = ([], 1) := by rw [hq.out]; simp [joinB, hn]
          subst hxx
          clear hq hso
          have hd : decide (n < 0) = true := decide_eq_true hn
          go_wp2_with (first | (go_at_call 15; refine (HS.out _).mono ?_; rintro e w' ⟨rfl, rfl⟩) | fail)
          go_quiet (fail)
          go_wp2
          go_ret2
          exact ⟨none, 0, rfl, World.ownsRow_nil _ _ _ _, hor.drewN nq⟩
        have hd : decide (n < 0) = false := decide_eq_false hn
        by_cases hm : 256 ≤ n
        · have hxx : x = ([], 1) := by rw [hq.out]; simp [joinB, hm]
          subst hxx
          clear hq hso
          go_wp2_with (first | (go_at_call 15; refine (HS.out _).mono ?_; rintro e w' ⟨rfl, rfl⟩) | fail)
          go_quiet (fail)
          go_wp2
          go_ret2
          exact ⟨none, 0, rfl, World.ownsRow_nil _ _ _ _, hor.drewN nq⟩
        have hq' : Hid (x = joinB (bs ++ [UInt8.ofNat op.toNat, UInt8.ofNat n.toNat]) (encR (l.drop (j + 1)))) := by
          rw [Hid, hq.out]
          simp [hn, hm, joinB_joinB]
        clear hq hso
        have hne : ∀ a, vo = some a → d ≠ a.block := fun a ha => by have := ((RS.of_owns hown.out).2.2.2.2 a ha).1; omega
        replace hne := hid hne
        go_wp2_with (first | (go_at_call 15; refine (HS.out _).mono ?_; rintro e w' ⟨rfl, rfl⟩) | fail)
        go_quiet (fail)
        have oq := hid ((Only.refl [] w').drewN nq)
        have Iq := hid (I0.out.only oq.out (by simp))
        have hownq := hid (rows_only hown.out oq.out (by simp))
        have sq := oq.out.size
        have sw := hor.size
        go_wp2_with (first | (at_builtin; refine wpList_append_any (ys := bcs [UInt8.ofNat n.toNat]) rfl (.tmp 62) (.tmp 69) elByte Tryd.underlying33 rfl rfl rfl (hA1.own.alloc _) (rows_byte _ _ _ (by rw [UInt8.toNat_ofNat']; omega) (by simp)) rfl (bcs_one _) (by simp) (by omega) (by simp only [World.size_alloc] at *; omega) ?_; rintro ao2 cap2 w2 hA2; have s2 := hA2.grown.size) | (at_builtin; refine wpList_append_any (ys := bcs [UInt8.ofNat op.toNat]) rfl (.tmp 39) (.tmp 46) elByte Tryd.underlying33 rfl rfl rfl (hownq.out.alloc _) (rows_byte _ _ _ (by rw [UInt8.toNat_ofNat']; omega) (by simp)) rfl (bcs_one _) (by simp) (by omega) (by simp only [World.size_alloc] at *; omega) ?_; rintro ao1 cap1 w1 hA1; have s1 := hA1.grown.size; have I1 := hid ((Iq.out.alloc _).only hA1.only (block_not hne.out)); obtain ⟨c0, c1, c2, c3⟩ := I1.out; simp only at c1 c2 c3; have hne1 : Hid (∀ a, ao1 = some a → d ≠ a.block) := place_ne hA1 hne.out (by simp only [World.size_alloc] at *; omega)))
        refine ⟨⟨j + 1, bs ++ [UInt8.ofNat op.toNat, UInt8.ofNat n.toNat], ao2, cap2, by omega, by simp; omega, by go_num, by simp, hq', ?_, ?_⟩, by simp [intOf]; omega⟩
        · have := hA2.own
          simp only [← bcs_append] at this
          simpa [Hid] using this
        · exact hA2.next (hA1.own.alloc _) ((hA1.next (hownq.out.alloc _) ((hor.next oq.out (by simp)).alloc _)).alloc _)
      · obtain ⟨p0, p45⟩ := hso (by decide)
        by_cases hn : n < 0
        · have hxx : x = ([], 1) := by rw [hq.out]; simp [joinB, hn]
          subst hxx
          clear hq hso
          have hd : decide (n < 0) = true := decide_eq_true hn
          go_wp2_with (first | (go_at_call 15; refine (HS.out _).mono ?_; rintro e w' ⟨rfl, rfl⟩) | fail)
          go_quiet (fail)
          go_wp2
          go_ret2
          exact ⟨none, 0, rfl, World.ownsRow_nil _ _ _ _, hor.drewN nq⟩
        have hd : decide (n < 0) = false := decide_eq_false hn
        by_cases hm : 65536 ≤ n
        · have hxx : x = ([], 1) := by rw [hq.out]; simp [joinB, hm]
          subst hxx
          clear hq hso
          go_wp2_with (first | (go_at_call 15; refine (HS.out _).mono ?_; rintro e w' ⟨rfl, rfl⟩) | fail)
          go_quiet (fail)
          go_wp2
          go_ret2
          exact ⟨none, 0, rfl, World.ownsRow_nil _ _ _ _, hor.drewN nq⟩
        have hq' : Hid (x = joinB (bs ++ [UInt8.ofNat op.toNat, UInt8.ofNat (n.toNat / 256), UInt8.ofNat n.toNat]) (encR (l.drop (j + 1)))) := by
          rw [Hid, hq.out]
          simp [hn, hm, joinB_joinB]
        clear hq hso
        have hne : ∀ a, vo = some a → d ≠ a.block := fun a ha => by have := ((RS.of_owns hown.out).2.2.2.2 a ha).1; omega
        replace hne := hid hne
        go_wp2_with (first | (go_at_call 15; refine (HS.out _).mono ?_; rintro e w' ⟨rfl, rfl⟩) | fail)
        go_quiet (fail)
        have oq := hid ((Only.refl [] w').drewN nq)
        have Iq := hid (I0.out.only oq.out (by simp))
        have hownq := hid (rows_only hown.out oq.out (by simp))
        have sq := oq.out.size
        have sw := hor.size
        go_wp2_with (first | (at_builtin; refine wpList_append_any (ys := bcs [UInt8.ofNat n.toNat]) rfl (.tmp 62) (.tmp 69) elByte Tryd.underlying33 rfl rfl rfl (hA2.own.alloc _) (rows_byte _ _ _ (by rw [UInt8.toNat_ofNat']; omega) (by simp)) rfl (bcs_one _) (by simp) (by omega) (by simp only [World.size_alloc] at *; omega) ?_; rintro ao3 cap3 w3 hA3; have s3 := hA3.grown.size) | (at_builtin; refine wpList_append_any (ys := bcs [UInt8.ofNat (n.toNat / 256)]) rfl (.tmp 50) (.tmp 58) elByte Tryd.underlying33 rfl rfl rfl (hA1.own.alloc _) (rows_byte _ _ _ (by rw [UInt8.toNat_ofNat']; omega) (by simp)) rfl (bcs_one _) (by simp) (by omega) (by simp only [World.size_alloc] at *; omega) ?_; rintro ao2 cap2 w2 hA2; have s2 := hA2.grown.size; have I2 := hid ((I1.out.alloc _).only hA2.only (block_not hne1.out)); obtain ⟨c0, c1, c2, c3⟩ := I2.out; simp only at c1 c2 c3; have hne2 : Hid (∀ a, ao2 = some a → d ≠ a.block) := place_ne hA2 hne1.out (by simp only [World.size_alloc] at *; omega)) | (at_builtin; refine wpList_append_any (ys := bcs [UInt8.ofNat op.toNat]) rfl (.tmp 39) (.tmp 46) elByte Tryd.underlying33 rfl rfl rfl (hownq.out.alloc _) (rows_byte _ _ _ (by rw [UInt8.toNat_ofNat']; omega) (by simp)) rfl (bcs_one _) (by simp) (by omega) (by simp only [World.size_alloc] at *; omega) ?_; rintro ao1 cap1 w1 hA1; have s1 := hA1.grown.size; have I1 := hid ((Iq.out.alloc _).only hA1.only (block_not hne.out)); obtain ⟨c0, c1, c2, c3⟩ := I1.out; simp only at c1 c2 c3; have hne1 : Hid (∀ a, ao1 = some a → d ≠ a.block) := place_ne hA1 hne.out (by simp only [World.size_alloc] at *; omega)))
        refine ⟨⟨j + 1, bs ++ [UInt8.ofNat op.toNat, UInt8.ofNat (n.toNat / 256), UInt8.ofNat n.toNat], ao3, cap3, by omega, by simp; omega, by go_num, by simp, hq', ?_, ?_⟩, by simp [intOf]; omega⟩
        · have := hA3.own
          simp only [← bcs_append] at this
          simpa [Hid] using this
        · exact hA3.next (hA2.own.alloc _) ((hA2.next (hA1.own.alloc _) ((hA1.next (hownq.out.alloc _) ((hor.next oq.out (by simp)).alloc _)).alloc _)).alloc _)
    · have g2 : ¬ ((j : Int) < (l.length : Int)) := by omega
      have hxx : x = (bs, 0) := by
        rw [hq.out, List.drop_eq_nil_of_le (by omega)]
        simp [joinB, encR]
      subst hxx
      clear hI hq hdl
      go_wp2
      go_ret2
      exact ⟨vo, vc, rfl, hown.out, hor⟩

end Go.Proofs.YtemjhlhioeopnaaDoor
