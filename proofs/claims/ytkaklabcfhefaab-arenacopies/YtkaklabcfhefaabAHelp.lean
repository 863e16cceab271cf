/-
  What the laws that begin with made share. No conditions.
-/
import Derived.Test.YtkaklabcfhefaabAMade
import Derived.Lib.ConvBytes
namespace Go.Proofs.Ytkaklabcfhefaab
open Go.RowKit

set_option linter.unusedSimpArgs false

section
variable {w : World} {N : Nat → Prop} {a : Nat}

theorem Ar.more {s : SW} {w' : World} (h : Ar w N a s) (ho : Only [] w w') : Ar w' (fun b => N b ∨ (w.heap.size ≤ b ∧ b < w'.heap.size)) a s :=
  h.other ho (by simp) fun b hb => by
    rcases hb with c | ⟨c1, c2⟩
    · exact ⟨Nat.lt_of_lt_of_le (h.lim b c) ho.size, .inl c⟩
    · exact ⟨c2, .inr c1⟩

/-- The addresses, in a list that the arena does not touch. -/
theorem All_ar {s : St} (h : Ar w N a s.sw) :
    Calls Try.prog 7 #[.pointer (some ⟨a, 0, none⟩)] w fun e w' => ∃ ao cap d M, e = .returned (.slice ao s.l.length cap) ∧ RS w' ao (ics (adrP s.l)) d ∧ (s.l ≠ [] → M d) ∧ (∀ b, N b → M b) ∧ Ar w' M a s.sw ∧ Only [] w w' ∧ w'.ownsRow w.heap.size 2 1 (.slice ao s.l.length cap) s.l.length (ics (adrP s.l)) := by
  refine (All_any (l := s.l) h.used).mono ?_
  rintro e w' ⟨v, rfl, own, ho⟩
  obtain ⟨ao, cap, rfl⟩ := rows_slice own
  obtain ⟨h1, h2, h3, h4, h5⟩ := RS.of_owns own
  refine ⟨ao, cap, _, _, rfl, h1, fun hn => ?_, fun b hb => .inl hb, h.more ho, ho, own⟩
  cases ao with
  | none =>
    have h0 := h1.none_nil
    have := congrArg List.length h0
    rw [ics_length, adrP_length] at this
    simp at this
    exact absurd this hn
  | some b =>
    obtain ⟨h6, h7, _⟩ := h5 b rfl
    exact .inr ⟨h6, h7⟩

/-- The bytes, in a row that the arena does not touch. -/
theorem Bytes_ar {s : St} (h : Ar w N a s.sw) :
    Calls Try.prog 16 #[.pointer (some ⟨a, 0, none⟩)] w fun e w' => ∃ ao cap d M, e = .returned (.slice ao (8 * (flW s.l).length) cap) ∧ RS w' ao (bcs (encWs (flW s.l))) d ∧ (s.l ≠ [] → M d) ∧ (∀ b, N b → M b) ∧ Ar w' M a s.sw ∧ Only [] w w' ∧ w'.ownsRow w.heap.size 5 1 (.slice ao (8 * (flW s.l).length) cap) (8 * (flW s.l).length) (bcs (encWs (flW s.l))) := by
  refine (Bytes_any (l := s.l) h.used).mono ?_
  rintro e w' ⟨v, rfl, own, ho⟩
  obtain ⟨ao, cap, rfl⟩ := rows_slice own
  obtain ⟨h1, h2, h3, h4, h5⟩ := RS.of_owns own
  refine ⟨ao, cap, _, _, rfl, h1, fun hn => ?_, fun b hb => .inl hb, h.more ho, ho, own⟩
  cases ao with
  | none =>
    have h0 := h1.none_nil
    have := congrArg List.length h0
    rw [bcs_length, encWs_length] at this
    simp at this
    have := few_obs s.l
    exact absurd (List.eq_nil_of_length_eq_zero (by omega)) hn
  | some b =>
    obtain ⟨h6, h7, _⟩ := h5 b rfl
    exact .inr ⟨h6, h7⟩

theorem conv_str {ao : Option Addr} {bs : List UInt8} {n d : Nat} (h : RS w ao (bcs bs) d) (hn : bs.length = n) (cap : Nat) :
    (convert 28 9 (.slice ao n cap)).run Try.prog w = .ok (.string (str bs)) w := by
  subst hn
  rcases h with h | ⟨off, rfl, hc⟩
  · have : bs = [] := by simpa [bcs] using h
    subst this
    rw [run_convert_bytes_string w 28 9 5 _ _ cap Try.underlying28 Try.underlying5 Try.underlying9]
    cases ao <;> simp [Conv.bytesToString, loadCells] <;> rfl
  · exact run_convert_bytes_back w 28 9 5 ⟨d, off, none⟩ cap bs Try.underlying28 Try.underlying5 Try.underlying9 (fun j hj => by rw [Addr.add_lit]; exact hc j _ (bcs_get bs j hj))

theorem makeS_al (s : St) (k n : Int) : (makeS s k n).1.al = s.al := by
  unfold makeS
  split
  · split <;> rfl
  · rfl
theorem makeS_mv (s : St) (k n : Int) : (makeS s k n).1.mv = s.mv := by
  unfold makeS
  split
  · split <;> rfl
  · rfl

theorem fold_al (L : List Cl) (s : St) : (L.foldl (fun s c => (makeS s c.2.1 (c.2.2.1 % 20)).1) s).al = s.al := by
  induction L generalizing s with
  | nil => rfl
  | cons c L ih => rw [List.foldl_cons, ih, makeS_al]

theorem madeTo_al (m : Nat) (L : List Cl) (j : Nat) : (madeTo m L j).al = [] := by
  unfold madeTo
  rw [fold_al]

theorem findP_iff (l : List Ob) (x : Int) : x ∈ adrP l ↔ ∃ j, findP l x = some j := by
  constructor
  · intro h
    obtain ⟨j, hj, rfl⟩ := List.getElem_of_mem h
    rw [adrP_get]
    rw [adrP_length] at hj
    exact ⟨j, findP_at hj⟩
  · rintro ⟨j, h⟩
    obtain ⟨h1, h2⟩ := findP_some h
    rw [h2, ← adrP_get l j (by rw [adrP_length]; exact h1)]
    exact List.getElem_mem _

theorem findP_nil (x : Int) : findP [] x = none := by
  cases h : findP [] x with
  | none => rfl
  | some j =>
    obtain ⟨h1, _⟩ := findP_some h
    simp at h1
end
end Go.Proofs.Ytkaklabcfhefaab
