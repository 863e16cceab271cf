/-
  The contract of known: the chapter's example. No conditions.
-/
import Derived.Test.YtmghmmkjcgopaaaGBackP
import Derived.Lib.ConvBytes
namespace Go.Proofs.Ytmghmmkjcgopaaa
open Go.RowKit

theorem conv_str {w : World} {ao : Option Addr} {bs : List UInt8} {d : Nat} (h : BS w ao bs d) (cap : Nat) :
    (convert 23 9 (.slice ao bs.length cap)).run Try.prog w = .ok (.string (str bs)) w := by
  rcases h with rfl | ⟨off, rfl, hc⟩
  · rw [run_convert_bytes_string w 23 9 5 _ _ cap Try.underlying23 Try.underlying5 Try.underlying9]
    cases ao <;> simp [Conv.bytesToString, loadCells] <;> rfl
  · exact run_convert_bytes_back w 23 9 5 ⟨d, off, none⟩ cap bs Try.underlying23 Try.underlying5 Try.underlying9 (fun j hj => by rw [Addr.add_lit]; exact hc j hj)

def mpK : Mp := (3, [true, false], [true])

theorem bitsK : bitsR [mpK] = [0, 3, 2, 1, 160] := by kernel_rfl
theorem parseK : parseB 5 [] [0, 3, 2, 1, 160] = ([mpK], 0) := by kernel_rfl

theorem mps_known (w : World) : MpsV (((w.alloc (.cells #[.bool true, .bool false] 4)).alloc (.cells #[.bool true] 4)).alloc (.cells #[.int .i64 3, .slice (some ⟨w.heap.size, 0, none⟩) 2 2, .slice (some ⟨w.heap.size + 1, 0, none⟩) 1 1] 27)) (fun _ => True) (.slice (some ⟨w.heap.size + 1 + 1, 0, none⟩) 1 1) [mpK] := by
  have h1 := RS.fresh w #[.bool true, .bool false] 4
  have h2 := RS.fresh (w.alloc (.cells #[.bool true, .bool false] 4)) #[.bool true] 4
  have h3 := RS.fresh ((w.alloc (.cells #[.bool true, .bool false] 4)).alloc (.cells #[.bool true] 4)) #[.int .i64 3, .slice (some ⟨w.heap.size, 0, none⟩) 2 2, .slice (some ⟨w.heap.size + 1, 0, none⟩) 1 1] 27
  simp only [World.size_alloc] at h2 h3
  refine ⟨_, ⟨_, _, _, rfl, h3, fun _ => trivial, by decide, by decide, fun e => by cases e⟩, ⟨rfl, fun j hj => ?_⟩⟩
  have : j = 0 := by simpa using hj
  subst this
  show MpC _ _ [.int .i64 3, .slice (some ⟨w.heap.size, 0, none⟩) 2 2, .slice (some ⟨w.heap.size + 1, 0, none⟩) 1 1] mpK
  exact ⟨.slice (some ⟨w.heap.size, 0, none⟩) 2 2, .slice (some ⟨w.heap.size + 1, 0, none⟩) 1 1, rfl, ⟨_, _, w.heap.size, rfl, (h1.only0 ((Only.refl [] _).alloc _)).only0 ((Only.refl [] _).alloc _), fun _ => trivial, Nat.le_refl _, by decide, fun e => by cases e⟩, ⟨_, _, w.heap.size + 1, rfl, h2.only0 ((Only.refl [] _).alloc _), fun _ => trivial, Nat.le_refl _, by decide, fun e => by cases e⟩⟩

set_option maxHeartbeats 2000000 in
theorem known12 (w : World) : Calls Try.prog 5 #[] w fun e w' => e = .returned (.bool true) ∧ Only [] w w' := by
  have HB := hid (mbits_any (mps_known w) (by simp) (by simp [mpK]))
  rw [bitsK] at HB
  have oo : Only [] w (((w.alloc (.cells #[.bool true, .bool false] 4)).alloc (.cells #[.bool true] 4)).alloc (.cells #[.int .i64 3, .slice (some ⟨w.heap.size, 0, none⟩) 2 2, .slice (some ⟨w.heap.size + 1, 0, none⟩) 1 1] 27)) := (((Only.refl [] w).alloc _).alloc _).alloc _
  replace oo := hid oo
  go_enter Try.func5, Try.ntmps5
  go_wp2_with (first
    | (go_at_call 8; refine HB.out.mono ?_; rintro e w1 ⟨ao, cap, rfl, hown, ho1⟩; obtain ⟨hbs, hc, hm, hn, _⟩ := BS.of_owns (bs := [0, 3, 2, 1, 160]) hown; have HP0 := parse_any hbs hn (by decide); rw [show ([0, 3, 2, 1, 160] : List UInt8).length = 5 from rfl, parseK] at HP0; have HP := hid HP0; clear HP0; have HBS := hid hbs; clear hbs hown)
    | (go_at_call 6; refine HP.out.mono ?_; rintro e w2 ⟨v, rfl, hv, ho2⟩; obtain ⟨d, off, cp, v1, v2, rfl, _, c0, c1, c2, s1, s2, hcp⟩ := hv.at (j := 0) (by simp); obtain ⟨d1, o1, cp1, rfl, cb⟩ := s1.bit (j := 0) (by simp [mpK]); have cv := conv_str (HBS.out.only ho2 (by simp)) cap; simp only [mpK, List.getElem_cons_zero, List.length_cons, List.length_nil, Nat.zero_mul, Nat.add_zero, Nat.zero_add] at c0 c1 c2 cb cv hcp; have t1 := str_toList [0, 3, 2, 1, 160]))
  go_ret
  exact ⟨rfl, (oo.out.trans ho1 (by simp)).trans ho2 (by simp)⟩

end Go.Proofs.Ytmghmmkjcgopaaa
