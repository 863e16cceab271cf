/-
  The contract of a reader's Text, and string(b) of a slice of bytes. No conditions beyond the receiver's own shape.
-/
import Derived.Test.YtgnbimoebaagfabRBytes
import Derived.Laws.IdiomStrings
namespace Go.Proofs.Ytgnbimoebaagfab
open Go.RowKit

/-- Bytes as a string. -/
def str (l : List UInt8) : ByteArray := ⟨l.toArray⟩

theorem conv_str {w : World} {ao : Option Addr} {bs : List UInt8} {d : Nat} (h : BS w ao bs d) (cap : Nat) :
    (convert 27 9 (.slice ao bs.length cap)).run Try.prog w = .ok (.string (str bs)) w := by
  rcases h with rfl | ⟨off, rfl, hc⟩
  · rw [run_convert_bytes_string w 27 9 5 _ _ cap Try.underlying27 Try.underlying5 Try.underlying9]
    cases ao <;> simp [Conv.bytesToString, loadCells] <;> rfl
  · exact run_convert_bytes_back w 27 9 5 ⟨d, off, none⟩ cap bs Try.underlying27 Try.underlying5 Try.underlying9 (fun j hj => by rw [Addr.add_lit]; exact hc j hj)

theorem conv_cut {w : World} {ao : Option Addr} {cap : Nat} {bs : List UInt8} {d : Nat} (h : BS w ao bs d) (hc : bs.length ≤ cap) (n : Nat) :
    (convert 27 9 (.slice (cutAt ao cap n) (bs.length - n) (cap - n))).run Try.prog w = .ok (.string (str (bs.drop n))) w := by
  have := conv_str (h.drop n cap hc) (cap - n)
  rwa [List.length_drop] at this

/-- What Text() does to a reader. -/
def textLen (l : List UInt8) : Nat := match l with | [] => 1 | b :: _ => 1 + b.toNat
def rText (s : List UInt8 × Nat × Int) : List UInt8 × (List UInt8 × Nat × Int) := ((rTake s (textLen s.1)).1.tail, (rTake s (textLen s.1)).2)

set_option maxHeartbeats 800000 in
theorem text_any {r d : Nat} {s : List UInt8 × Nat × Int} {w : World} (h : RdE w r d s) :
    Calls Try.prog 21 #[.pointer (some ⟨r, 0, none⟩)] w fun e w' => e = .returned (.string (str (rText s).1)) ∧ RdE w' r d (rText s).2 ∧ Only [r] w w' := by
  have ht := take_at h (textLen s.1)
  unfold rText
  obtain ⟨ao, cap, h⟩ := h
  obtain ⟨c0, c1, c2, f0, f1, f2, data, capLe, capMax, _, fit, _⟩ := h
  have hm : (s.1 = [] ∧ textLen s.1 = 1) ∨ ∃ b l, s.1 = b :: l ∧ textLen s.1 = 1 + b.toNat := by
    cases hs : s.1 with
    | nil => exact .inl ⟨rfl, rfl⟩
    | cons b l => exact .inr ⟨b, l, rfl, rfl⟩
  generalize (rTake s (textLen s.1)).1 = L at *
  generalize (rTake s (textLen s.1)).2 = s' at *
  generalize textLen s.1 = m at *
  generalize s.1 = bs at *
  have HT := hid ht
  clear ht
  by_cases hL : L.length = 0
  · have hL' : ((L.length : Int) == 0) = true := by simp [hL]
    have hnil : L = [] := List.eq_nil_of_length_eq_zero hL
    subst hnil
    clear hL hL'
    rcases hm with ⟨rfl, rfl⟩ | ⟨b, l, rfl, rfl⟩
    · go_enter Try.func21, Try.ntmps21
      go_wp2_with (go_at_call 32; refine (HT.out _ (by simp)).mono ?_; rintro e w' ⟨ao', cap', rfl, hbs, hcap, hcm, hcn, hrd, ho⟩)
      go_ret
      exact ⟨rfl, hrd, ho⟩
    · rcases data with data | ⟨off, rfl, hc⟩
      · cases data
      have hc0 := hc 0 (by simp)
      simp only [Nat.add_zero, List.getElem_cons_zero] at hc0
      clear hc
      have hb := b.toNat_lt
      go_enter Try.func21, Try.ntmps21
      go_wp2_with (go_at_call 32; refine (HT.out _ (by simp)).mono ?_; rintro e w' ⟨ao', cap', rfl, hbs, hcap, hcm, hcn, hrd, ho⟩)
      go_ret
      exact ⟨rfl, hrd, ho⟩
  · have hL' : ((L.length : Int) == 0) = false := by simpa using hL
    rcases hm with ⟨rfl, rfl⟩ | ⟨b, l, rfl, rfl⟩
    · go_enter Try.func21, Try.ntmps21
      go_wp2_with (first | (go_at_call 32; refine (HT.out _ (by simp)).mono ?_; rintro e w' ⟨ao', cap', rfl, hbs, hcap, hcm, hcn, hrd, ho⟩; have k2 := slice_lo_at ao' L.length cap' 1 1 rfl (by omega); have k3 := conv_cut hbs hcap 1))
      go_ret
      exact ⟨rfl, hrd, ho⟩
    · rcases data with data | ⟨off, rfl, hc⟩
      · cases data
      have hc0 := hc 0 (by simp)
      simp only [Nat.add_zero, List.getElem_cons_zero] at hc0
      clear hc
      have hb := b.toNat_lt
      go_enter Try.func21, Try.ntmps21
      go_wp2_with (first | (go_at_call 32; refine (HT.out _ (by simp)).mono ?_; rintro e w' ⟨ao', cap', rfl, hbs, hcap, hcm, hcn, hrd, ho⟩; have k2 := slice_lo_at ao' L.length cap' 1 1 rfl (by omega); have k3 := conv_cut hbs hcap 1))
      go_ret
      exact ⟨rfl, hrd, ho⟩

end Go.Proofs.Ytgnbimoebaagfab
