/-
  The contract of maps.Bits. At most 5000 maps of at most 1000 places each.
-/
import Derived.Test.YtmghmmkjcgopaaaGWr3
namespace Go.Proofs.Ytmghmmkjcgopaaa
open Go.RowKit

theorem mPut_len (s : List UInt8 × Int) (m : Mp) (h1 : m.2.1.length ≤ 1000) (h2 : m.2.2.length ≤ 1000) : (mPut s m).1.length ≤ s.1.length + 3000 := by
  unfold mPut
  obtain ⟨t, ht⟩ : ∃ t, t = wAll 1 (wAll 2 s [m.1]) [(m.2.1.length : Int), (m.2.2.length : Int)] := ⟨_, rfl⟩
  rw [← ht]
  have hl : t.1.length ≤ s.1.length + 4 := by
    rw [ht]
    have a1 := wAll_len 1 (wAll 2 s [m.1]) [(m.2.1.length : Int), (m.2.2.length : Int)]
    have a2 := wAll_len 2 s [m.1]
    simp at a1 a2
    omega
  have h3 := wBits_len [] t m.2.1 rfl
  have h4 := wBits_lt [] t m.2.1 (by simp)
  generalize wBits ([], t) m.2.1 = u at *
  obtain ⟨P, x⟩ := u
  obtain ⟨Y, k, h5, h6, h7⟩ := wFill_parts P x h4 m.2.2
  rw [h5]
  show (wPut x Y).1.length ≤ _
  have := congrArg List.length h6
  rw [unpack_len] at this
  simp at this h3 h4
  have := wPut_len x Y
  omega

theorem fold_len (l : List Mp) (h : ∀ m ∈ l, m.2.1.length ≤ 1000 ∧ m.2.2.length ≤ 1000) (k : Nat) : ((l.take k).foldl mPut ([], 0)).1.length ≤ k * 3000 := by
  induction k with
  | zero => simp
  | succ k ih =>
    by_cases hk : k < l.length
    · rw [List.take_succ_eq_append_getElem hk, List.foldl_append]
      have := h l[k] (List.getElem_mem hk)
      have := mPut_len ((l.take k).foldl mPut ([], 0)) l[k] this.1 this.2
      simp only [List.foldl_cons, List.foldl_nil]
      omega
    · have e1 : l.take k = l := List.take_of_length_le (by omega)
      have e2 : l.take (k + 1) = l := List.take_of_length_le (by omega)
      rw [e1] at ih
      rw [e2]
      exact Nat.le_trans ih (Nat.mul_le_mul_right _ (Nat.le_succ k))

theorem bw_new {w : World} {B p g : Nat} {s : List UInt8 × Int} (h : WrE w B p g s) : BW (w.alloc (.cells #[.pointer (some ⟨p, 0, none⟩), .int .u8 0, .int .i64 0] 54)) B w.heap.size p g [] s := by
  have hl := h.lt
  refine ⟨by rw [cell_new]; rfl, by rw [cell_new]; rfl, by rw [cell_new]; rfl, frozen_new _ _ _ _, frozen_new _ _ _ _, h.only ((Only.refl [] w).alloc _) (by simp) (by simp), by omega, by omega, by simp⟩

/-- What is told of maps as bytes. -/
def bitsR (l : List Mp) : List UInt8 := wDone (l.foldl mPut ([], 0))

set_option maxHeartbeats 2000000 in
theorem mbits_any {w : World} {Z : Nat → Prop} {v : Value} {l : List Mp} (hm : MpsV w Z v l) (hl : l.length ≤ 5000) (hp : ∀ m ∈ l, m.2.1.length ≤ 1000 ∧ m.2.2.length ≤ 1000) :
    Calls Try.prog 8 #[v] w fun e w' => ∃ ao cap, e = .returned (.slice ao (bitsR l).length cap) ∧ w'.ownsRow w.heap.size 5 1 (.slice ao (bitsR l).length cap) (bitsR l).length (bcs (bitsR l)) ∧ Only [] w w' := by
  obtain ⟨ao, cap, rfl⟩ : ∃ ao cap, v = .slice ao l.length cap := by
    obtain ⟨cs, ⟨ao, cap, d, hv, _⟩, _⟩ := hm
    exact ⟨ao, cap, hv⟩
  have HM := hid (hm.mono (Q := fun b => b < w.heap.size) (fun b _ hb => hb))
  clear hm
  have HW := hid (newWriter_any w w.heap.size (Nat.le_refl _))
  go_enter Try.func8, Try.ntmps8
  go_wp2_with (go_at_call 18; refine HW.out.mono ?_; rintro e w1 ⟨rfl, hw1, ho1⟩)
  obtain ⟨q, hq⟩ : ∃ q, q = w1.heap.size := ⟨_, rfl⟩
  obtain ⟨p, hpp⟩ : ∃ p, p = w.heap.size := ⟨_, rfl⟩
  have hB := bw_new hw1
  have hO := ho1.alloc (.cells #[.pointer (some ⟨w.heap.size, 0, none⟩), .int .u8 0, .int .i64 0] 54)
  have hqw : w.heap.size ≤ q := by rw [hq]; exact ho1.size
  rw [← hq] at hB ⊢
  generalize w1.alloc (.cells #[.pointer (some ⟨w.heap.size, 0, none⟩), .int .u8 0, .int .i64 0] 54) = w2 at *
  clear hq hw1 ho1 HW
  go_loopw [13] (fun i wr => ∃ (k g : Nat), k ≤ l.length ∧ i = .int .i64 (k : Int) ∧ BW wr w.heap.size q w.heap.size g [] ((l.take k).foldl mPut ([], 0)) ∧ Only [] w wr) (fun i _ => l.length - (intOf i).toNat)
  case atStart => exact ⟨0, w.heap.size, Nat.zero_le _, rfl, hB, hO⟩
  case round =>
    clear hB hO
    obtain ⟨k, g, hk, rfl, hB, hO⟩ := hrel
    have hln := fold_len l hp k
    have HB := hid hB
    have hgl := hB.wr.lt
    by_cases hlt : k < l.length
    · have hsucc := hid (show (l.take (k + 1)).foldl mPut ([], 0) = mPut ((l.take k).foldl mPut ([], 0)) l[k] by rw [List.take_succ_eq_append_getElem hlt, List.foldl_append]; rfl)
      obtain ⟨d, off, cp, v1, v2, hv, hd, c0, c1, c2, s1, s2, hcp⟩ := (HM.out.only hO (by simp)).at hlt
      obtain ⟨hv1, hv2⟩ := hp _ (List.getElem_mem hlt)
      simp only [Value.slice.injEq, true_and] at hv
      obtain ⟨rfl, rfl⟩ := hv
      generalize (l.take k).foldl mPut ([], 0) = s at *
      generalize l[k] = m at *
      obtain ⟨a1, cp1, e1, rfl, sl1⟩ := s1
      obtain ⟨a2, cp2, e2, rfl, sl2⟩ := s2
      have HP := hid (mput_any (HB.out.only ((Only.refl [] wr).alloc (.cells #[.int .i64 m.1, .slice a1 m.2.1.length cp1, .slice a2 m.2.2.length cp2] 27)) (by simp) (by simp) (by simp)) (by omega) (m := m) (v1 := .slice a1 m.2.1.length cp1) (v2 := .slice a2 m.2.2.length cp2) (((show SlV wr _ _ _ _ from ⟨a1, cp1, e1, rfl, sl1⟩).only ((Only.refl [] wr).alloc _) (by simp)).mono (fun b hb _ => by simp; omega)) (((show SlV wr _ _ _ _ from ⟨a2, cp2, e2, rfl, sl2⟩).only ((Only.refl [] wr).alloc _) (by simp)).mono (fun b hb _ => by simp; omega)) hv1 hv2)
      clear sl1 sl2 hB hln
      go_wp2_with (go_at_call 19; refine HP.out.mono ?_; rintro e w3 ⟨rfl, g3, hb3, hg3, ho3⟩)
      refine ⟨⟨k + 1, g3, by omega, by go_num, ?_, ?_⟩, by simp [intOf]; omega⟩
      · rw [hsucc.out]; exact hb3
      · exact (hO.alloc _).next ho3 (by simp; omega)
    · have ht : l.take k = l := List.take_of_length_le (by omega)
      rw [ht] at HB hln
      have hR : bitsR l = wDone (l.foldl mPut ([], 0)) := rfl
      have c0 := HB.out.c0
      have HD := hid (wdone_any HB.out.wr (by omega))
      rw [← hR] at HD
      replace hR := hid hR
      clear hB
      go_wp2_with (go_at_call 20; refine HD.out.mono ?_; rintro e w3 ⟨ao3, cap3, rfl, hown3, ho3⟩)
      go_ret
      exact ⟨ao3, cap3, rfl, rows_mono hown3 hO.size, hO.trans ho3 (by simp)⟩

end Go.Proofs.Ytmghmmkjcgopaaa
