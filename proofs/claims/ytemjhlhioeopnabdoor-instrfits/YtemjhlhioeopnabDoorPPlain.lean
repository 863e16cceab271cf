/-
  What chapter 3 says of entries, as plain functions. No conditions.
-/
import Derived.Test.YtemjhlhioeopnabDoorPEnt
import Derived.Test.YtemjhlhioeopnabDoorDSig
namespace Go.Proofs.YtemjhlhioeopnabDoor

/-- The entry of a number. -/
def enAt (l : List En) (i : Int) : Option En := if 0 ≤ i then l[i.toNat]? else none
def hasE (l : List En) (i kind : Int) : Bool := match enAt l i with
  | some e => decide (e.1 = kind)
  | none => false
/-- The text of a number. -/
def textAt (l : List En) (i : Int) : Option (List UInt8) := match enAt l i with
  | some e => if e.1 = 1 then some e.2.1 else none
  | none => none
/-- An entry without what its kind does not use. -/
def usedE (e : En) : En := if e.1 = 1 then (1, e.2.1, 0, 0, 0, 0) else if e.1 = 2 then (2, [], e.2.2.1, 0, 0, 0) else if e.1 = 3 ∨ e.1 = 4 then (e.1, [], 0, e.2.2.2.1, 0, 0) else (e.1, [], 0, e.2.2.2.1, e.2.2.2.2.1, e.2.2.2.2.2)
def longE (s : List UInt8) : Int := if 255 < s.length then 5 else 0
def wClass (l : List En) (i : Int) : Int := if hasE l i 3 = true then 0 else 16
/-- What is wrong with the text of a number. -/
def wText (l : List En) (i : Int) (f : List UInt8 → Int) : Int := match textAt l i with
  | some s => f s
  | none => 16
def fName (s : List UInt8) : Int := if nameOK s = true then 0 else 14
def fMethod (s : List UInt8) : Int := if methodOK s = true then 0 else 14
def fType (s : List UInt8) : Int := (typeR s).2
def fSig (s : List UInt8) : Int := (sigR s).2
def or3 (x y z : Int) : Int := if x = 0 then (if y = 0 then z else y) else x
/-- What is wrong with an entry. -/
def wrongE (l : List En) (e : En) : Int :=
  if e.1 < 1 ∨ 6 < e.1 then 3 else if e ≠ usedE e then 1 else
  if e.1 = 1 then longE e.2.1 else if e.1 = 2 then 0 else
  if e.1 = 3 then wText l e.2.2.2.1 fName else
  if e.1 = 4 then wText l e.2.2.2.1 fType else
  if e.1 = 5 then or3 (wClass l e.2.2.2.1) (wText l e.2.2.2.2.1 fName) (wText l e.2.2.2.2.2 fType) else
  or3 (wClass l e.2.2.2.1) (wText l e.2.2.2.2.1 fMethod) (wText l e.2.2.2.2.2 fSig)
/-- The first that is wrong. -/
def firstWrong (l : List En) : List En → Nat → Int × Int
  | [], _ => (0, 0)
  | e :: r, i => if wrongE l e = 0 then firstWrong l r (i + 1) else ((i : Int), wrongE l e)
def checkE (l : List En) : Int × Int := if 4096 < l.length then (4096, 4) else firstWrong l l 0
/-- The entry of that number and kind, if it is right. -/
def rightE (l : List En) (i kind : Int) : En × Int := match enAt l i with
  | some e => if e.1 = kind then (if wrongE l e = 0 then (e, 0) else (en0, wrongE l e)) else (en0, 16)
  | none => (en0, 16)
def textR (l : List En) (i : Int) : List UInt8 × Int := ((rightE l i 1).1.2.1, (rightE l i 1).2)
def numberR (l : List En) (i : Int) : Int × Int := ((rightE l i 2).1.2.2.1, (rightE l i 2).2)
def textOf (l : List En) (i : Int) : List UInt8 := match enAt l i with
  | some e => e.2.1
  | none => []
def classR (l : List En) (i : Int) : List UInt8 × Int := if (rightE l i 3).2 = 0 then (textOf l (rightE l i 3).1.2.2.2.1, 0) else ([], (rightE l i 3).2)
def typeAtR (l : List En) (i : Int) : Ty × Int := if (rightE l i 4).2 = 0 then typeR (textOf l (rightE l i 4).1.2.2.2.1) else ((0, []), (rightE l i 4).2)
def memberR (l : List En) (i kind : Int) : (List UInt8 × List UInt8 × List UInt8) × Int :=
  if (rightE l i kind).2 = 0 then
    (if (classR l (rightE l i kind).1.2.2.2.1).2 = 0 then (((classR l (rightE l i kind).1.2.2.2.1).1, textOf l (rightE l i kind).1.2.2.2.2.1, textOf l (rightE l i kind).1.2.2.2.2.2), 0)
     else (([], [], []), (classR l (rightE l i kind).1.2.2.2.1).2))
  else (([], [], []), (rightE l i kind).2)
def fieldR (l : List En) (i : Int) : (List UInt8 × List UInt8 × Ty) × Int :=
  if (memberR l i 5).2 = 0 then (((memberR l i 5).1.1, (memberR l i 5).1.2.1, (typeR (memberR l i 5).1.2.2).1), (typeR (memberR l i 5).1.2.2).2) else (([], [], (0, [])), (memberR l i 5).2)
def methodR (l : List En) (i : Int) : (List UInt8 × List UInt8 × (List Ty × Bool × Ty)) × Int :=
  if (memberR l i 6).2 = 0 then (((memberR l i 6).1.1, (memberR l i 6).1.2.1, (sigR (memberR l i 6).1.2.2).1), (sigR (memberR l i 6).1.2.2).2) else (([], [], ([], false, (0, []))), (memberR l i 6).2)

theorem enAt_some {l : List En} {i : Int} {e : En} (h : enAt l i = some e) : ∃ (j : Nat) (hj : j < l.length), i = (j : Int) ∧ l[j] = e := by
  unfold enAt at h
  split at h
  · rename_i h0
    obtain ⟨hj, he⟩ := List.getElem?_eq_some_iff.1 h
    exact ⟨i.toNat, hj, by omega, he⟩
  · cases h

theorem enAt_none {l : List En} {i : Int} (h : enAt l i = none) : i < 0 ∨ (l.length : Int) ≤ i := by
  unfold enAt at h
  split at h
  · rename_i h0
    have := List.getElem?_eq_none_iff.1 h
    right
    omega
  · left
    omega

theorem enAt_nat {l : List En} (j : Nat) (hj : j < l.length) : enAt l (j : Int) = some l[j] := by
  unfold enAt
  rw [if_pos (by omega)]
  simp [hj]

theorem hasE_kind {l : List En} {i kind : Int} (h : hasE l i kind = true) : ∃ e, enAt l i = some e ∧ e.1 = kind := by
  unfold hasE at h
  split at h
  · rename_i e he
    exact ⟨e, he, of_decide_eq_true h⟩
  · cases h

theorem firstWrong_ok {l : List En} {r : List En} {i : Nat} (h : ∀ e ∈ r, wrongE l e = 0) : firstWrong l r i = (0, 0) := by
  induction r generalizing i with
  | nil => rfl
  | cons e r ih =>
    unfold firstWrong
    rw [if_pos (h e (by simp))]
    exact ih fun e he => h e (by simp [he])

theorem firstWrong_at {l : List En} {r : List En} {i k : Nat} (hk : k < r.length) (h0 : ∀ j (hj : j < k), wrongE l (r[j]'(by omega)) = 0) (h1 : wrongE l r[k] ≠ 0) : firstWrong l r i = (((i + k : Nat) : Int), wrongE l r[k]) := by
  induction r generalizing i k with
  | nil => simp at hk
  | cons e r ih =>
    unfold firstWrong
    cases k with
    | zero =>
      rw [if_neg (by simpa using h1)]
      rfl
    | succ k =>
      have := h0 0 (by omega)
      simp at this
      rw [if_pos this]
      have := ih (i := i + 1) (k := k) (by simpa using hk) (fun j hj => by simpa using h0 (j + 1) (by omega)) (by simpa using h1)
      rw [this]
      simp
      omega

end Go.Proofs.YtemjhlhioeopnabDoor
