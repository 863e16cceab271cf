/-
  What is read of texts that repeat a type. No conditions.
-/
import Derived.Test.YtfpdgfgbonbpjaaDKnown
namespace Go.Proofs.Ytfpdgfgbonbpjaa
open Go.RowKit

/-- A text that is a type's of no dimensions, named so. -/
structure One (s nm : List UInt8) : Prop where
  read : ∀ n r, n ≤ 8 → firstP n (s ++ r) = some (((n : Int), nm), r)
  many : ∀ n r, 8 < n → firstP n (s ++ r) = none
  ne : hasOne s 41 = false
  pos : 0 < s.length
  len : s.length ≤ 34

theorem one_number : One [73] [] := by
  refine ⟨fun n r h => ?_, fun n r h => ?_, rfl, by simp, by simp⟩
  · simp [firstP]
    omega
  · simp [firstP, h]

theorem sign_semi {c : UInt8} (h : sign c = true) : (c != 59) = true := by
  rw [bne_iff_ne]
  intro e
  subst e
  revert h
  decide

theorem one_class (n : List UInt8) (h : nameOK n = true) : One (76 :: (n ++ [59])) n := by
  have ha : n.all sign = true := by
    unfold nameOK at h
    simp only [Bool.and_eq_true] at h
    exact h.2
  have hl : n.length ≤ 32 := by
    unfold nameOK at h
    simp only [Bool.and_eq_true, decide_eq_true_eq] at h
    exact h.1.1.2
  have hc : ∀ c ∈ n, (c != 59) = true := fun c hc => sign_semi (List.all_eq_true.1 ha c hc)
  have ht : ∀ r, (n ++ 59 :: r).takeWhile (· != 59) = n := by
    intro r
    rw [List.takeWhile_append_of_pos (by simpa using hc)]
    simp
  have hd : ∀ r, (n ++ 59 :: r).dropWhile (· != 59) = 59 :: r := by
    intro r
    rw [List.dropWhile_append_of_pos (by simpa using hc)]
    simp
  refine ⟨fun k r hk => ?_, fun k r hk => ?_, rfl, by simp, by simp; omega⟩
  · have e : 76 :: (n ++ [59]) ++ r = 76 :: (n ++ 59 :: r) := by simp
    rw [e]
    simp only [firstP]
    rw [if_neg (by omega), if_neg (by decide), if_neg (by decide), if_pos trivial]
    unfold classP
    rw [ht, hd, h]
    simp
  · simp [firstP, hk]

theorem one_dims {s nm : List UInt8} (h : One s nm) (d k : Nat) (r : List UInt8) : firstP k (List.replicate d 91 ++ s ++ r) = if k + d ≤ 8 then some (((k + d : Nat) : Int), nm, r) |>.map (fun x => ((x.1, x.2.1), x.2.2)) else none := by
  induction d generalizing k with
  | zero =>
    by_cases hk : k ≤ 8
    · simp [h.read k r hk, hk]
    · simp [h.many k r (by omega), hk]
  | succ d ih =>
    rw [List.replicate_succ, List.cons_append, List.cons_append, firstP]
    by_cases hk : 8 < k
    · rw [if_pos hk, if_neg (by omega)]
    · rw [if_neg hk, if_pos rfl, ih (k + 1)]
      have e : k + 1 + d = k + (d + 1) := by omega
      rw [e]

theorem type_dims {s nm : List UInt8} (h : One s nm) (d : Nat) : typeR (List.replicate d 91 ++ s) = if d ≤ 8 then (((d : Int), nm), 0) else ((0, []), 15) := by
  have := one_dims h d 0 []
  rw [List.append_nil] at this
  unfold typeR
  rw [this]
  by_cases hd : d ≤ 8
  · simp [hd]
  · simp [hd]

theorem has_append {s : List UInt8} (hp : 0 < s.length) (hs : hasOne s 41 = false) (r : List UInt8) : hasOne (s ++ r) 41 = false := by
  cases s with
  | nil => simp at hp
  | cons a t => exact hs

theorem params_rep {s nm : List UInt8} (h : One s nm) (p f : Nat) (hf : p < f) (r : List UInt8) : paramsP f ((List.replicate p s).flatten ++ 41 :: r) = some (List.replicate p (0, nm), r) := by
  induction p generalizing f with
  | zero =>
    obtain ⟨f, rfl⟩ : ∃ k, f = k + 1 := ⟨f - 1, by omega⟩
    rfl
  | succ p ih =>
    obtain ⟨f, rfl⟩ : ∃ k, f = k + 1 := ⟨f - 1, by omega⟩
    rw [List.replicate_succ, List.flatten_cons, List.append_assoc, paramsP, has_append h.pos h.ne]
    rw [h.read 0 _ (by omega)]
    simp only [Bool.false_eq_true, if_false]
    rw [ih f (by omega)]
    rfl

theorem sig_rep {s nm : List UInt8} (h : One s nm) (p : Nat) : sigP (40 :: ((List.replicate p s).flatten ++ 41 :: s)) = some (List.replicate p (0, nm), some (0, nm)) := by
  have hlen : p < (40 :: ((List.replicate p s).flatten ++ 41 :: s)).length := by
    have : p ≤ (List.replicate p s).flatten.length := by
      simp
      exact Nat.le_mul_of_pos_right p h.pos
    simp
    simp at this
    omega
  have hp := params_rep h p _ hlen s
  rw [sigP_of (all := List.replicate p (0, nm)) (rest := s) rfl (by rw [List.drop_one, List.tail_cons]; exact hp)]
  have hr := h.read 0 [] (by omega)
  rw [List.append_nil] at hr
  unfold resultP
  rw [if_neg (by
    intro e
    subst e
    have := h.read 0 [] (by omega)
    simp [firstP] at this), hr]
  rfl

theorem sigR_rep {s nm : List UInt8} (h : One s nm) (p : Nat) : sigR (40 :: ((List.replicate p s).flatten ++ 41 :: s)) = if 16 < p then (([], false, (0, [])), 4) else ((List.replicate p (0, nm), false, (0, nm)), 0) := by
  unfold sigR
  rw [sig_rep h p]
  simp

/-- A text so many times. -/
def rep (k : Nat) (s : List UInt8) : List UInt8 := (List.replicate k s).flatten

theorem rep_succ (k : Nat) (s : List UInt8) : rep (k + 1) s = rep k s ++ s := by
  unfold rep
  rw [List.replicate_succ', List.flatten_append]
  simp

theorem rep_len (k : Nat) (s : List UInt8) (hk : k ≤ 22) (hs : s.length ≤ 34) : (rep k s).length ≤ 1000 := by
  have q := Nat.mul_le_mul hk hs
  unfold rep
  rw [List.length_flatten, List.map_replicate, List.sum_replicate_nat]
  omega

theorem sigR_rep' {s nm : List UInt8} (h : One s nm) (p : Nat) : sigR (40 :: (rep p s ++ 41 :: s)) = if 16 < p then (([], false, (0, [])), 4) else ((List.replicate p (0, nm), false, (0, nm)), 0) := sigR_rep h p

theorem run_cat (x y : List UInt8) (h : x.length + y.length ≤ 9223372036854775807) (w : World) : (Op.stringOp .add (str x) (str y)).run Try.prog w = .ok (.string (str (x ++ y))) w := by
  rw [run_string_add_sum w _ _ (by rw [str_size, str_size]; exact h)]
  simp [str, ByteArray.mk_append_mk]

end Go.Proofs.Ytfpdgfgbonbpjaa
