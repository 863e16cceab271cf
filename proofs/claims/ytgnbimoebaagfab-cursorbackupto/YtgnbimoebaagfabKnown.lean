/-
  The contract of known, the chapter's first example: it answers true. No conditions.
-/
import Derived.Test.YtgnbimoebaagfabWText
namespace Go.Proofs.Ytgnbimoebaagfab
open Go.RowKit

theorem ns_one (w : World) (n : Int) (k : IntKind) (t : TypeId) : NS k (w.alloc (.cells #[.int k n] t)) (some ⟨w.heap.size, 0, none⟩) [n] w.heap.size := by
  refine .inr ⟨0, rfl, fun j hj => ?_⟩
  have : j = 0 := by simpa using hj
  subst this
  rw [cell_new]
  rfl

theorem ss_one (w : World) (b : ByteArray) (t : TypeId) : SS (w.alloc (.cells #[.string b] t)) (some ⟨w.heap.size, 0, none⟩) [b] w.heap.size := by
  refine .inr ⟨0, rfl, fun j hj => ?_⟩
  have : j = 0 := by simpa using hj
  subst this
  rw [cell_new]
  rfl

set_option maxHeartbeats 1000000 in
set_option maxRecDepth 100000 in
theorem known_any (w : World) : Calls Try.prog 6 #[] w fun e w' => e = .returned (.bool true) ∧ Only [] w w' := by
  go_enter Try.func6, Try.ntmps6
  go_wp2_with fail
  refine (newWriter_any w w.heap.size (Nat.le_refl _)).mono ?_
  rintro e w1 ⟨rfl, hw1, ho1⟩
  generalize hp : w.heap.size = p at *
  have hpl := hw1.lt.1
  have HP : Hid (w.heap.size = p) := hp
  clear hp
  go_wp2_with fail
  have HU := wu2_any (hw1.only ((Only.refl [] w1).alloc (.cells #[.int .i64 258] 3)) (by simp) (by simp)) (ns_one w1 258 .i64 3) (fun _ => by simp; omega) (by simp) (lcap := 1)
  refine HU.mono ?_
  rintro e w2 ⟨rfl, g2, hw2, hg2, ho2⟩
  have e2 : wAll 2 ([], 0) [258] = ([1, 2], 0) := by decide
  rw [e2] at hw2
  clear HU
  have hl2 := hw2.lt
  go_wp2_with fail
  have HT := wtext_any (hw2.only ((Only.refl [] w2).alloc (.cells #[.string ⟨#[97, 98]⟩] 9)) (by simp) (by simp)) (ss_one w2 ⟨#[97, 98]⟩ 9) (fun _ => by simp; omega) (by simp) (by intro b hb; simp at hb; subst hb; decide) (lcap := 1)
  refine HT.mono ?_
  rintro e w3 ⟨rfl, g3, hw3, hg3, ho3⟩
  have e3 : wText ([1, 2], 0) [⟨#[97, 98]⟩] = ([1, 2, 2, 97, 98], 0) := by decide
  rw [e3] at hw3
  clear HT
  go_wp2_with fail
  refine (wdone_any hw3 (by simp)).mono ?_
  rintro e w4 ⟨ao, cap, rfl, hown, ho4⟩
  have e4 : wDone ([1, 2, 2, 97, 98], 0) = [1, 2, 2, 97, 98] := by decide
  rw [e4] at hown ⊢
  obtain ⟨hbs, hc, hm, hn, _⟩ := BS.of_owns hown
  have kc := conv_str hbs cap
  simp only [List.length_cons, List.length_nil, Nat.zero_add, Nat.reduceAdd] at kc
  simp only [str] at kc
  have HN := hid (newReader_any hbs hn (by simp))
  go_wp2_with fail
  refine HN.out.mono ?_
  rintro e w5 ⟨r, d, rfl, hr5, ho5, hr, _, _⟩
  have HA := u2_any hr5
  have a1 : rTake ([1, 2, 2, 97, 98], 0, 0) 2 = ([1, 2], [2, 97, 98], 2, 0) := by decide
  have a2 : be [1, 2] = 258 := by decide
  rw [a1, a2] at HA
  have HA := hid HA
  clear a1 a2
  go_wp2_with fail
  refine HA.out.mono ?_
  rintro e w6 ⟨rfl, hr6, ho6⟩
  have HB := text_any hr6
  have a1 : rText ([2, 97, 98], 2, 0) = ([97, 98], [], 5, 0) := by decide
  rw [a1] at HB
  simp only [str] at HB
  have HB := hid HB
  clear a1
  go_wp2_with fail
  refine HB.out.mono ?_
  rintro e w7 ⟨rfl, hr7, ho7⟩
  have HC := u1_any hr7
  have a1 : rTake ([], 5, 0) 1 = ([], [], 5, 11) := by decide
  have a2 : be [] = 0 := by decide
  rw [a1, a2] at HC
  have HC := hid HC
  clear a1 a2
  go_wp2_with fail
  refine HC.out.mono ?_
  rintro e w8 ⟨rfl, hr8, ho8⟩
  go_wp2_with fail
  refine (err_any hr8).mono ?_
  rintro e w9 ⟨rfl, rfl⟩
  go_wp2_with fail
  refine (at_any hr8).mono ?_
  rintro e w9 ⟨rfl, rfl⟩
  go_wp2
  go_ret
  have q := HP.out
  have o2 := (ho1.alloc (.cells #[.int .i64 258] 3)).next ho2 (by simp; omega)
  have o3 := (o2.alloc (.cells #[.string ⟨#[97, 98]⟩] 9)).next ho3 (by simp; omega)
  have o5 := (o3.next ho4 (by simp)).next ho5 (by simp)
  have hs4 := (o3.next ho4 (by simp)).size
  exact ⟨rfl, ((o5.next ho6 (by simp; omega)).next ho7 (by simp; omega)).next ho8 (by simp; omega)⟩

end Go.Proofs.Ytgnbimoebaagfab
