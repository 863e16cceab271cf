/-
  The contract of Encode. There are at most 100000 instructions.
-/
import Derived.Test.YtemjhlhioeopnabDoorIDec
import Derived.BigQuiet
namespace Go.Proofs.YtemjhlhioeopnabDoor
open Go.RowKit

/-- What Encode answers. -/
def EncPost (w : World) (r : List UInt8 × Int) (e : Ending) (w' : World) : Prop :=
  ∃ ao cap, e = .returned (.tuple #[.slice ao r.1.length cap, .int .i64 r.2]) ∧ w'.ownsRow w.heap.size 5 1 (.slice ao r.1.length cap) r.1.length (bcs r.1) ∧ Only [] w w'

theorem encR_drop {l : List In} {j : Nat} (h : j < l.length) : encR (l.drop j) = if encErr l[j] = 0 then joinB (encOne l[j]) (encR (l.drop (j + 1))) else ([], encErr l[j]) := by
  rw [List.drop_eq_getElem_cons h, encR]

theorem byte_of (x : Int) (h0 : 0 ≤ x) : x % 256 = ((UInt8.ofNat x.toNat).toNat : Int) := by
  rw [UInt8.toNat_ofNat']
  omega

theorem size_op {op : Int} (h : sizeN op ≠ 0) : 0 ≤ op ∧ op ≤ 45 := by
  unfold sizeN at h
  split at h
  · exact absurd rfl h
  · omega

theorem joinB_none (l : List UInt8) (r : List UInt8 × Int) : (joinB l r).2 ≠ 0 → (joinB l r).1 = [] := by
  unfold joinB
  split
  · intro h; exact absurd rfl h
  · intro _; rfl

theorem joinB_nil {r : List UInt8 × Int} (h : r.2 ≠ 0 → r.1 = []) : joinB [] r = r := by
  obtain ⟨a, b⟩ := r
  unfold joinB
  by_cases hc : b = 0
  · simp [hc]
  · have := h hc
    simp at this
    simp [hc, this]

theorem encR_none (l : List In) : (encR l).2 ≠ 0 → (encR l).1 = [] := by
  cases l with
  | nil => intro _; rfl
  | cons i l =>
    rw [encR]
    split
    · exact joinB_none _ _
    · intro _; rfl

theorem Only.drewN {S : List Nat} {a w : World} (h : Only S a w) (n : Nat) : Only S a (w.drewN n) := ⟨h.os, h.tape, h.output, h.size, h.block⟩

/-- Where a row lies behind an append: not in an elder block that it was not in. -/
theorem place_ne {w w' : World} {B : Nat} {e : TypeId} {k : Nat} {ao ao' : Option Addr} {m n' cap' b : Nat} {xs : List Value} (h : Appd w w' B e k ao ao' m n' cap' xs) (hn : ∀ a, ao = some a → b ≠ a.block) (hb : b < w.heap.size) : ∀ a, ao' = some a → b ≠ a.block := by
  intro a ha
  rcases h.place a ha with ⟨a', ha', he⟩ | hg
  · rw [← he]
    exact hn a' ha'
  · omega

set_option maxHeartbeats 1000000 in
set_option maxRecDepth 100000 in
theorem enc_any {w : World} {ao : Option Addr} {l : List In} {d cap : Nat} (hQ : RS w ao (qcs l) d) (hl : l.length ≤ 100000) :
    Calls Tryd.prog 8 #[.slice ao l.length cap] w (EncPost w (encR l)) := by
  obtain ⟨x, hx⟩ : ∃ x, x = encR l := ⟨_, rfl⟩
  rw [← hx]
  have hr : Hid (x = joinB [] (encR (l.drop 0))) := by
    rw [hx]
    exact (joinB_nil (encR_none l)).symm
  clear hx
  have hI := hid (fun W (hW : Only [] w W) j (hj : j < l.length) => (hQ.only0 hW).inAt hj)
  clear hQ
  go_enter Tryd.func8, Tryd.ntmps8
  go_wp2
  go_loopw [4, 10] (fun v i wr => ∃ (j : Nat) (bs : List UInt8) (vo : Option Addr) (vc : Nat), j ≤ l.length ∧ bs.length ≤ 3 * j ∧ i = .int .i64 (j : Int) ∧ v = .slice vo bs.length vc ∧ Hid (x = joinB bs (encR (l.drop j))) ∧ Hid (wr.ownsRow w.heap.size 5 1 (.slice vo bs.length vc) bs.length (bcs bs)) ∧ Only [] w wr) (fun _ i _ => l.length - (intOf i).toNat)
  case atStart => exact ⟨0, [], none, 0, Nat.zero_le _, Nat.le_refl _, rfl, rfl, hr, hid (World.ownsRow_nil _ _ _ _), Only.refl _ _⟩
  case round =>
    obtain ⟨j, bs, vo, vc, hj, hbl, rfl, rfl, hq, hown, hor⟩ := hrel
    clear hr
    by_cases hlt : j < l.length
    · have g2 : ((j : Int) < (l.length : Int)) := by omega
      obtain ⟨off, rfl, y0, y1, y2, y3⟩ := hI.out wr hor j hlt
      have hen := encR_drop hlt
      have hsz := sizeN_le l[j].2.1
      have HS := fun W => size_any l[j].2.1 W
      have hso := @size_op l[j].2.1
      generalize l[j] = i at *
      obtain ⟨a, op, n, s⟩ := i
      simp only at y0 y1 y2 y3 HS hsz hso
      rw [hen] at hq
      clear hen hI
      have e1 : encErr (a, op, n, s) = if sizeN op = 0 then 17 else if n < 0 ∨ ((256 ^ (sizeN op - 1) : Nat) : Int) ≤ n then 1 else 0 := rfl
      have e2 : encOne (a, op, n, s) = UInt8.ofNat op.toNat :: ((if sizeN op = 3 then [UInt8.ofNat (n.toNat / 256)] else []) ++ (if sizeN op = 1 then [] else [UInt8.ofNat n.toNat])) := rfl
      rw [e1, e2] at hq
      clear e1 e2
      generalize sizeN op = z at *
      replace HS := hid HS
      have I0 := hid (inAt_new wr a op n s 31)
      have oI := hid ((Only.refl [] wr).alloc (.cells #[.int .i64 a, .int .i64 op, .int .i64 n, .int .i64 s] 31))
      rcases (by omega : z = 0 ∨ z = 1 ∨ z = 2 ∨ z = 3) with rfl | rfl | rfl | rfl
      · have hxx : x = ([], 17) := by rw [hq.out]; simp [joinB]
        subst hxx
        clear hq hso
        go_wp2_with (go_at_call 11; refine (HS.out _).mono ?_; rintro e w' ⟨rfl, rfl⟩)
        go_ret2
        exact ⟨none, 0, rfl, World.ownsRow_nil _ _ _ _, hor.alloc _⟩
      · obtain ⟨p0, p45⟩ := hso (by decide)
        by_cases hn : n < 0
        · have hxx : x = ([], 1) := by rw [hq.out]; simp [joinB, hn]
          subst hxx
          clear hq hso
          have hd : decide (n < 0) = true := decide_eq_true hn
          go_wp2_with (first | (go_at_call 11; refine (HS.out _).mono ?_; rintro e w' ⟨rfl, rfl⟩) | fail)
          go_quiet (fail)
          go_wp2
          go_ret2
          exact ⟨none, 0, rfl, World.ownsRow_nil _ _ _ _, (hor.alloc _).drewN nq⟩
        have hd : decide (n < 0) = false := decide_eq_false hn
        by_cases hm : 1 ≤ n
        · have hxx : x = ([], 1) := by rw [hq.out]; simp [joinB, hm]
          subst hxx
          clear hq hso
          go_wp2_with (first | (go_at_call 11; refine (HS.out _).mono ?_; rintro e w' ⟨rfl, rfl⟩) | fail)
          go_quiet (fail)
          go_wp2
          go_ret2
          exact ⟨none, 0, rfl, World.ownsRow_nil _ _ _ _, (hor.alloc _).drewN nq⟩
        have hq' : Hid (x = joinB (bs ++ [UInt8.ofNat op.toNat]) (encR (l.drop (j + 1)))) := by
          rw [Hid, hq.out]
          simp [hn, hm, joinB_joinB]
        clear hq hso
        have hne : ∀ a, vo = some a → wr.heap.size ≠ a.block := fun a ha => by have := ((RS.of_owns hown.out).2.2.2.2 a ha).2.1; omega
        replace hne := hid hne
        go_wp2_with (first | (go_at_call 11; refine (HS.out _).mono ?_; rintro e w' ⟨rfl, rfl⟩) | fail)
        go_quiet (fail)
        have oq := hid (oI.out.drewN nq)
        have Iq := hid (I0.out.only ((Only.refl [] _).drewN nq) (by simp))
        have hownq := hid (rows_only hown.out oq.out (by simp))
        have sq := oq.out.size
        have sw := hor.size
        go_wp2_with (first | (at_builtin; refine wpList_append_any (ys := bcs [UInt8.ofNat op.toNat]) rfl (.tmp 31) (.tmp 35) elByte Tryd.underlying23 rfl rfl rfl (hownq.out.alloc _) (rows_byte _ _ _ (by rw [UInt8.toNat_ofNat']; omega) (by simp)) rfl (bcs_one _) (by simp) (by omega) (by simp only [World.size_alloc] at *; omega) ?_; rintro ao1 cap1 w1 hA1; have s1 := hA1.grown.size))
        refine ⟨⟨j + 1, bs ++ [UInt8.ofNat op.toNat], ao1, cap1, by omega, by simp; omega, by go_num, by simp, hq', ?_, ?_⟩, by simp [intOf]; omega⟩
        · have := hA1.own
          simp only [← bcs_append] at this
          simpa [Hid] using this
        · exact hA1.next (hownq.out.alloc _) ((hor.next oq.out (by simp)).alloc _)
      · obtain ⟨p0, p45⟩ := hso (by decide)
        by_cases hn : n < 0
        · have hxx : x = ([], 1) := by rw [hq.out]; simp [joinB, hn]
          subst hxx
          clear hq hso
          have hd : decide (n < 0) = true := decide_eq_true hn
          go_wp2_with (first | (go_at_call 11; refine (HS.out _).mono ?_; rintro e w' ⟨rfl, rfl⟩) | fail)
          go_quiet (fail)
          go_wp2
          go_ret2
          exact ⟨none, 0, rfl, World.ownsRow_nil _ _ _ _, (hor.alloc _).drewN nq⟩
        have hd : decide (n < 0) = false := decide_eq_false hn
        by_cases hm : 256 ≤ n
        · have hxx : x = ([], 1) := by rw [hq.out]; simp [joinB, hm]
          subst hxx
          clear hq hso
          go_wp2_with (first | (go_at_call 11; refine (HS.out _).mono ?_; rintro e w' ⟨rfl, rfl⟩) | fail)
          go_quiet (fail)
          go_wp2
          go_ret2
          exact ⟨none, 0, rfl, World.ownsRow_nil _ _ _ _, (hor.alloc _).drewN nq⟩
        have hq' : Hid (x = joinB (bs ++ [UInt8.ofNat op.toNat, UInt8.ofNat n.toNat]) (encR (l.drop (j + 1)))) := by
          rw [Hid, hq.out]
          simp [hn, hm, joinB_joinB]
        clear hq hso
        have hne : ∀ a, vo = some a → wr.heap.size ≠ a.block := fun a ha => by have := ((RS.of_owns hown.out).2.2.2.2 a ha).2.1; omega
        replace hne := hid hne
        go_wp2_with (first | (go_at_call 11; refine (HS.out _).mono ?_; rintro e w' ⟨rfl, rfl⟩) | fail)
        go_quiet (fail)
        have oq := hid (oI.out.drewN nq)
        have Iq := hid (I0.out.only ((Only.refl [] _).drewN nq) (by simp))
        have hownq := hid (rows_only hown.out oq.out (by simp))
        have sq := oq.out.size
        have sw := hor.size
        go_wp2_with (first | (at_builtin; refine wpList_append_any (ys := bcs [UInt8.ofNat n.toNat]) rfl (.tmp 49) (.tmp 53) elByte Tryd.underlying23 rfl rfl rfl (hA1.own.alloc _) (rows_byte _ _ _ (by rw [UInt8.toNat_ofNat']; omega) (by simp)) rfl (bcs_one _) (by simp) (by omega) (by simp only [World.size_alloc] at *; omega) ?_; rintro ao2 cap2 w2 hA2; have s2 := hA2.grown.size) | (at_builtin; refine wpList_append_any (ys := bcs [UInt8.ofNat op.toNat]) rfl (.tmp 31) (.tmp 35) elByte Tryd.underlying23 rfl rfl rfl (hownq.out.alloc _) (rows_byte _ _ _ (by rw [UInt8.toNat_ofNat']; omega) (by simp)) rfl (bcs_one _) (by simp) (by omega) (by simp only [World.size_alloc] at *; omega) ?_; rintro ao1 cap1 w1 hA1; have s1 := hA1.grown.size; have I1 := hid ((Iq.out.alloc _).only hA1.only (block_not hne.out)); obtain ⟨c0, c1, c2, c3⟩ := I1.out; simp only [Nat.zero_add] at c1 c2 c3; have hne1 : Hid (∀ a, ao1 = some a → wr.heap.size ≠ a.block) := place_ne hA1 hne.out (by simp only [World.size_alloc] at *; omega)))
        refine ⟨⟨j + 1, bs ++ [UInt8.ofNat op.toNat, UInt8.ofNat n.toNat], ao2, cap2, by omega, by simp; omega, by go_num, by simp, hq', ?_, ?_⟩, by simp [intOf]; omega⟩
        · have := hA2.own
          simp only [← bcs_append] at this
          simpa [Hid] using this
        · exact hA2.next (hA1.own.alloc _) ((hA1.next (hownq.out.alloc _) ((hor.next oq.out (by simp)).alloc _)).alloc _)
      · obtain ⟨p0, p45⟩ := hso (by decide)
        by_cases hn : n < 0
        · have hxx : x = ([], 1) := by rw [hq.out]; simp [joinB, hn]
          subst hxx
          clear hq hso
          have hd : decide (n < 0) = true := decide_eq_true hn
          go_wp2_with (first | (go_at_call 11; refine (HS.out _).mono ?_; rintro e w' ⟨rfl, rfl⟩) | fail)
          go_quiet (fail)
          go_wp2
          go_ret2
          exact ⟨none, 0, rfl, World.ownsRow_nil _ _ _ _, (hor.alloc _).drewN nq⟩
        have hd : decide (n < 0) = false := decide_eq_false hn
        by_cases hm : 65536 ≤ n
        · have hxx : x = ([], 1) := by rw [hq.out]; simp [joinB, hm]
          subst hxx
          clear hq hso
          go_wp2_with (first | (go_at_call 11; refine (HS.out _).mono ?_; rintro e w' ⟨rfl, rfl⟩) | fail)
          go_quiet (fail)
          go_wp2
          go_ret2
          exact ⟨none, 0, rfl, World.ownsRow_nil _ _ _ _, (hor.alloc _).drewN nq⟩
        have hq' : Hid (x = joinB (bs ++ [UInt8.ofNat op.toNat, UInt8.ofNat (n.toNat / 256), UInt8.ofNat n.toNat]) (encR (l.drop (j + 1)))) := by
          rw [Hid, hq.out]
          simp [hn, hm, joinB_joinB]
        clear hq hso
        have hne : ∀ a, vo = some a → wr.heap.size ≠ a.block := fun a ha => by have := ((RS.of_owns hown.out).2.2.2.2 a ha).2.1; omega
        replace hne := hid hne
        go_wp2_with (first | (go_at_call 11; refine (HS.out _).mono ?_; rintro e w' ⟨rfl, rfl⟩) | fail)
        go_quiet (fail)
        have oq := hid (oI.out.drewN nq)
        have Iq := hid (I0.out.only ((Only.refl [] _).drewN nq) (by simp))
        have hownq := hid (rows_only hown.out oq.out (by simp))
        have sq := oq.out.size
        have sw := hor.size
        go_wp2_with (first | (at_builtin; refine wpList_append_any (ys := bcs [UInt8.ofNat n.toNat]) rfl (.tmp 49) (.tmp 53) elByte Tryd.underlying23 rfl rfl rfl (hA2.own.alloc _) (rows_byte _ _ _ (by rw [UInt8.toNat_ofNat']; omega) (by simp)) rfl (bcs_one _) (by simp) (by omega) (by simp only [World.size_alloc] at *; omega) ?_; rintro ao3 cap3 w3 hA3; have s3 := hA3.grown.size) | (at_builtin; refine wpList_append_any (ys := bcs [UInt8.ofNat (n.toNat / 256)]) rfl (.tmp 42) (.tmp 47) elByte Tryd.underlying23 rfl rfl rfl (hA1.own.alloc _) (rows_byte _ _ _ (by rw [UInt8.toNat_ofNat']; omega) (by simp)) rfl (bcs_one _) (by simp) (by omega) (by simp only [World.size_alloc] at *; omega) ?_; rintro ao2 cap2 w2 hA2; have s2 := hA2.grown.size; have I2 := hid ((I1.out.alloc _).only hA2.only (block_not hne1.out)); obtain ⟨c0, c1, c2, c3⟩ := I2.out; simp only [Nat.zero_add] at c1 c2 c3; have hne2 : Hid (∀ a, ao2 = some a → wr.heap.size ≠ a.block) := place_ne hA2 hne1.out (by simp only [World.size_alloc] at *; omega)) | (at_builtin; refine wpList_append_any (ys := bcs [UInt8.ofNat op.toNat]) rfl (.tmp 31) (.tmp 35) elByte Tryd.underlying23 rfl rfl rfl (hownq.out.alloc _) (rows_byte _ _ _ (by rw [UInt8.toNat_ofNat']; omega) (by simp)) rfl (bcs_one _) (by simp) (by omega) (by simp only [World.size_alloc] at *; omega) ?_; rintro ao1 cap1 w1 hA1; have s1 := hA1.grown.size; have I1 := hid ((Iq.out.alloc _).only hA1.only (block_not hne.out)); obtain ⟨c0, c1, c2, c3⟩ := I1.out; simp only [Nat.zero_add] at c1 c2 c3; have hne1 : Hid (∀ a, ao1 = some a → wr.heap.size ≠ a.block) := place_ne hA1 hne.out (by simp only [World.size_alloc] at *; omega)))
        refine ⟨⟨j + 1, bs ++ [UInt8.ofNat op.toNat, UInt8.ofNat (n.toNat / 256), UInt8.ofNat n.toNat], ao3, cap3, by omega, by simp; omega, by go_num, by simp, hq', ?_, ?_⟩, by simp [intOf]; omega⟩
        · have := hA3.own
          simp only [← bcs_append] at this
          simpa [Hid] using this
        · exact hA3.next (hA2.own.alloc _) ((hA2.next (hA1.own.alloc _) ((hA1.next (hownq.out.alloc _) ((hor.next oq.out (by simp)).alloc _)).alloc _)).alloc _)
    · have g2 : ¬ ((j : Int) < (l.length : Int)) := by omega
      have hxx : x = (bs, 0) := by
        rw [hq.out, List.drop_eq_nil_of_le (by omega)]
        simp [joinB, encR]
      subst hxx
      clear hI hq
      go_wp2
      go_ret2
      exact ⟨vo, vc, rfl, hown.out, hor⟩

end Go.Proofs.YtemjhlhioeopnabDoor
