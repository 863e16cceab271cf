/-
  Plain facts for ArenaCopies: all objects copied, from a place on, round and round. No conditions.
-/
import Derived.Test.YtkaklabcfhefaabAFreshP
namespace Go.Proofs.Ytkaklabcfhefaab
open Go.RowKit

/-- The first i objects that have slots hold 7 times their place in the first. -/
structure PutI (l0 l : List Ob) (i : Nat) : Prop where
  len : lens l = lens l0
  hold : ∀ (t : Nat) (ht : t < l.length), t < i → ∀ (h0 : 0 < l[t].2.length), l[t].2[0] = 7 * (t : Int)

theorem PutI.step {s : St} {l0 : List Ob} {i : Nat} (h : PutI l0 s.l i) (hi : i < s.l.length) :
    PutI l0 (putS s (8 * (ofs l0 i : Int) + 8) 0 (7 * (i : Int))).1.l (i + 1) ∧ (putS s (8 * (ofs l0 i : Int) + 8) 0 (7 * (i : Int))).1.al = s.al ∧ (putS s (8 * (ofs l0 i : Int) + 8) 0 (7 * (i : Int))).1.mv = s.mv := by
  rw [← ofs_lens s.l l0 h.len]
  unfold putS
  rw [findP_at hi]
  simp only [List.getElem?_eq_getElem hi]
  split
  · rename_i hc
    refine ⟨⟨(lens_set s.l i _ hi (by simp)).trans h.len, fun t ht hti h0 => ?_⟩, rfl, rfl⟩
    by_cases e : i = t
    · subst e
      simp only [List.getElem_set_self]
      have hl : 0 < s.l[i].2.length := by omega
      exact List.getElem_set_self _
    · have e2 : (s.l.set i (s.l[i].1, s.l[i].2.set (Int.toNat 0) (7 * (i : Int))))[t] = s.l[t]'(by simpa using ht) := List.getElem_set_ne e _
      have h0' : 0 < (s.l[t]'(by simpa using ht)).2.length := by rw [← e2]; exact h0
      have := h.hold t (by simpa using ht) (by omega) h0'
      simp only [e2]
      exact this
  · rename_i hc
    refine ⟨⟨h.len, fun t ht hti h0 => ?_⟩, rfl, rfl⟩
    by_cases e : i = t
    · subst e
      have h0' : 0 < s.l[i].2.length := h0
      omega
    · exact h.hold t ht (by omega) h0

/-- A list from its c-th on, and then those ahead. -/
def rot (l : List Ob) (c : Nat) : List Ob := l.drop c ++ l.take c

theorem rot_length (l : List Ob) (c : Nat) : (rot l c).length = l.length := by
  unfold rot
  rw [List.length_append, List.length_drop, List.length_take]
  omega

theorem rot_words (l : List Ob) (c : Nat) : (flW (rot l c)).length = (flW l).length := by
  unfold rot
  rw [flW_append, List.length_append]
  have h : (flW l).length = (flW (l.take c ++ l.drop c)).length := by rw [List.take_append_drop]
  rw [flW_append, List.length_append] at h
  omega

theorem rot_at (l : List Ob) (c i : Nat) (hc : c < l.length) (hi : i < l.length) : (rot l c)[i]? = l[(i + c) % l.length]? := by
  unfold rot
  rw [List.getElem?_append, List.length_drop, List.getElem?_drop, List.getElem?_take]
  by_cases h : i < l.length - c
  · rw [if_pos h, Nat.mod_eq_of_lt (by omega), Nat.add_comm]
  · rw [if_neg h, if_pos (by omega)]
    have : (i + c) % l.length = i + c - l.length := by
      rw [Nat.mod_eq_sub_mod (by omega), Nat.mod_eq_of_lt (by omega)]
    rw [this]
    congr 1
    omega

theorem rot_inj {n c t i : Nat} (hc : c < n) (ht : t < n) (hi : i < n) (h : (t + c) % n = (i + c) % n) : t = i := by
  have f : ∀ u, u < n → (u + c) % n = if u + c < n then u + c else u + c - n := fun u hu => by
    split
    · exact Nat.mod_eq_of_lt (by omega)
    · rw [Nat.mod_eq_sub_mod (by omega), Nat.mod_eq_of_lt (by omega)]
  rw [f t ht, f i hi] at h
  split at h <;> split at h <;> omega

/-- What was copied of the first i. -/
def mvTo (l : List Ob) (c i : Nat) : List (Int × Int) := (List.range i).map fun t => (8 * (ofs l ((t + c) % l.length) : Int) + 8, 8 * (ofs (rot l c) t : Int) + 8)

theorem mvTo_succ (l : List Ob) (c i : Nat) : mvTo l c (i + 1) = mvTo l c i ++ [(8 * (ofs l ((i + c) % l.length) : Int) + 8, 8 * (ofs (rot l c) i : Int) + 8)] := by simp [mvTo, List.range_succ]

theorem mvTo_new (l : List Ob) (c i : Nat) (hc : c < l.length) (hi : i < l.length) : lookM (mvTo l c i) (8 * (ofs l ((i + c) % l.length) : Int) + 8) = none := by
  refine lookM_none fun p hp e => ?_
  obtain ⟨t, ht, rfl⟩ := List.mem_map.1 hp
  simp at ht
  have h1 : ofs l ((t + c) % l.length) = ofs l ((i + c) % l.length) := by
    simp only at e
    omega
  have h2 := ofs_inj (Nat.mod_lt _ (by omega)) (Nat.mod_lt _ (by omega)) h1
  have := rot_inj hc (by omega) hi h2
  omega

theorem mvTo_old (l : List Ob) (c i : Nat) (hc : c < l.length) (hi : i < l.length) : lookM (mvTo l c (i + 1)) (8 * (ofs l ((i + c) % l.length) : Int) + 8) = some (8 * (ofs (rot l c) i : Int) + 8) := by
  have hn := mvTo_new l c i hc hi
  rw [mvTo_succ]
  unfold lookM at hn ⊢
  rw [List.find?_append]
  cases h : (mvTo l c i).find? (fun p => p.1 == 8 * (ofs l ((i + c) % l.length) : Int) + 8) with
  | some p => rw [h] at hn; cases hn
  | none => simp

theorem copyS_new {s : St} {x : Int} {j : Nat} {o : Ob} (h1 : findP s.al x = some j) (h2 : lookM (s.mv.getD []) x = none) (h3 : s.al[j]? = some o) (h4 : (makeS s o.1 (o.2.length : Int)).2.2 = 0) :
    copyS s x = ({ s with l := s.l ++ [o], mv := some (s.mv.getD [] ++ [(x, 8 * ((flW s.l).length : Int) + 8)]) }, (8 * ((flW s.l).length : Int) + 8, 0)) := by
  unfold copyS
  simp only [h1, h2, h3, h4, if_true]

theorem copyS_old {s : St} {x y : Int} {j : Nat} (h1 : findP s.al x = some j) (h2 : lookM (s.mv.getD []) x = some y) : copyS s x = (s, (y, 0)) := by
  unfold copyS
  simp only [h1, h2]

/-- The arena when the first i were copied. -/
def copTo (m : Nat) (l : List Ob) (c i : Nat) : St := ⟨m, (rot l c).take i, l, some (mvTo l c i)⟩

theorem copTo_len (m : Nat) (l : List Ob) (c i : Nat) : (flW (copTo m l c i).l).length = ofs (rot l c) i := rfl

theorem copTo_step (m : Nat) (l : List Ob) (c i : Nat) (hc : c < l.length) (hi : i < l.length) (hm : 8 * (flW l).length ≤ m) (hs : ∀ o ∈ l, o.2.length ≤ 65536) :
    copyS (copTo m l c i) (8 * (ofs l ((i + c) % l.length) : Int) + 8) = (copTo m l c (i + 1), (8 * (ofs (rot l c) i : Int) + 8, 0)) := by
  have hj : (i + c) % l.length < l.length := Nat.mod_lt _ (by omega)
  have hri : i < (rot l c).length := by rw [rot_length]; exact hi
  have hat := rot_at l c i hc hi
  rw [List.getElem?_eq_getElem hri, List.getElem?_eq_getElem hj] at hat
  have hat' := Option.some.inj hat
  have hend := ofs_end (rot l c) i hri
  rw [rot_words] at hend
  have hle : (rot l c)[i].2.length ≤ 65536 := by rw [hat']; exact hs _ (List.getElem_mem hj)
  have hr : roomP m (flW ((rot l c).take i)) ((rot l c)[i].2.length : Int) = true := by
    unfold roomP
    have : (flW ((rot l c).take i)).length = ofs (rot l c) i := rfl
    simp only [decide_eq_true_eq]
    omega
  have hmk : (makeS (copTo m l c i) (rot l c)[i].1 ((rot l c)[i].2.length : Int)).2.2 = 0 := by
    have hr' : roomP (copTo m l c i).m (flW (copTo m l c i).l) ((rot l c)[i].2.length : Int) = true := hr
    unfold makeS
    rw [if_pos (by omega), if_pos hr']
  have e1 : (rot l c).take (i + 1) = (rot l c).take i ++ [(rot l c)[i]] := List.take_succ_eq_append_getElem hri
  refine (copyS_new (s := copTo m l c i) (findP_at hj) (mvTo_new l c i hc hi) (by rw [hat']; exact List.getElem?_eq_getElem hj) hmk).trans ?_
  unfold copTo
  rw [e1, mvTo_succ]
  rfl

theorem copTo_again (m : Nat) (l : List Ob) (c i : Nat) (hc : c < l.length) (hi : i < l.length) :
    copyS (copTo m l c (i + 1)) (8 * (ofs l ((i + c) % l.length) : Int) + 8) = (copTo m l c (i + 1), (8 * (ofs (rot l c) i : Int) + 8, 0)) := by
  have hj : (i + c) % l.length < l.length := Nat.mod_lt _ (by omega)
  exact copyS_old (s := copTo m l c (i + 1)) (findP_at hj) (mvTo_old l c i hc hi)

theorem copTo_ofs (l : List Ob) (c i : Nat) : ofs ((rot l c).take (i + 1)) i = ofs (rot l c) i := by
  unfold ofs
  rw [List.take_take, Nat.min_eq_left (by omega)]

end Go.Proofs.Ytkaklabcfhefaab
