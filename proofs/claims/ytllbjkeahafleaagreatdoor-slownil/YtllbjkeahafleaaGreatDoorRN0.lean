/-
  A runner: what a program does where all that it is handed is known, reckoned by the kernel on a memory of its own. A row of cells there is named by a number of its own; how much room lies behind a row that an append made is not known (TOP). All is said as conditions, each with what is asked behind it (K): so the kernel reckons them by the recursors alone. This text: tables and lists.
-/
import Derived.Calls
import Derived.KernelRfl
namespace Go.Proofs.YtllbjkeahafleaaGreatDoor
namespace Rn

/-- A table: the number 0 stands at the root, of the others the odd ones to the left, the even ones to the right. -/
structure T (α : Type) where
  v : Option α
  l : Option (T α)
  r : Option (T α)

section
variable {α : Type}

/-- A number is reckoned first. -/
def fN (n : Nat) (K : Nat → Prop) : Prop := Nat.rec (motive := fun _ => Prop) (K 0) (fun m _ => K (Nat.succ m)) n
def fI (i : Int) (K : Int → Prop) : Prop := match i with
  | .ofNat n => fN n fun n => K (.ofNat n)
  | .negSucc n => fN n fun n => K (.negSucc n)
theorem fN_eq (n : Nat) (K : Nat → Prop) : fN n K = K n := by cases n <;> rfl
theorem fI_eq (n : Int) (K : Int → Prop) : fI n K = K n := by cases n <;> simp only [fI, fN_eq]

/-- What stands at a number. -/
def tget : Nat → Option (T α) → Nat → Option α
  | 0, _, _ => none
  | f + 1, t, k => match t with
    | none => none
    | some ⟨v, l, r⟩ => match k with
      | 0 => v
      | k + 1 => match Nat.beq (Nat.mod k 2) 0 with
        | true => tget f l (Nat.div k 2)
        | false => tget f r (Nat.div k 2)
def getDown (ih : Option (T α) → Nat → Prop) (l r : Option (T α)) (k : Nat) : Prop := Bool.rec (motive := fun _ => Prop) (ih r (Nat.div k 2)) (ih l (Nat.div k 2)) (Nat.beq (Nat.mod k 2) 0)
def getNode (K : Option α → Prop) (ih : Option (T α) → Nat → Prop) (k : Nat) (v : Option α) (l r : Option (T α)) : Prop := Nat.rec (motive := fun _ => Prop) (K v) (fun k _ => getDown ih l r k) k
def tgetK (f : Nat) (t : Option (T α)) (k : Nat) (K : Option α → Prop) : Prop :=
  Nat.rec (motive := fun _ => Option (T α) → Nat → Prop) (fun _ _ => K none)
    (fun _ ih t k => Option.rec (motive := fun _ => Prop) (K none) (fun n => T.casesOn (motive_1 := fun _ => Prop) n (getNode K ih k)) t) f t k
theorem tgetK_eq (K : Option α → Prop) : ∀ (f : Nat) (t : Option (T α)) (k : Nat), tgetK f t k K = K (tget f t k)
  | 0, _, _ => rfl
  | f + 1, none, _ => rfl
  | f + 1, some ⟨v, l, r⟩, 0 => rfl
  | f + 1, some ⟨v, l, r⟩, k + 1 => by
    have h1 := tgetK_eq K f l (Nat.div k 2)
    have h2 := tgetK_eq K f r (Nat.div k 2)
    change (Bool.rec (motive := fun _ => Prop) (tgetK f r (Nat.div k 2) K) (tgetK f l (Nat.div k 2) K) (Nat.beq (Nat.mod k 2) 0) : Prop) = _
    simp only [tget]
    cases Nat.beq (Nat.mod k 2) 0 <;> assumption

/-- A table with another value at a number. -/
def tput : Nat → Option (T α) → Nat → Option α → Option (T α)
  | 0, t, _, _ => t
  | f + 1, t, k, a => match t with
    | none => match k with
      | 0 => some ⟨a, none, none⟩
      | k + 1 => match Nat.beq (Nat.mod k 2) 0 with
        | true => some ⟨none, tput f none (Nat.div k 2) a, none⟩
        | false => some ⟨none, none, tput f none (Nat.div k 2) a⟩
    | some ⟨v, l, r⟩ => match k with
      | 0 => some ⟨a, l, r⟩
      | k + 1 => match Nat.beq (Nat.mod k 2) 0 with
        | true => some ⟨v, tput f l (Nat.div k 2) a, r⟩
        | false => some ⟨v, l, tput f r (Nat.div k 2) a⟩
abbrev PutF (α : Type) := Option (T α) → Nat → (Option (T α) → Prop) → Prop
def putL (K : Option (T α) → Prop) (v : Option α) (r l : Option (T α)) : Prop := K (some ⟨v, l, r⟩)
def putR (K : Option (T α) → Prop) (v : Option α) (l r : Option (T α)) : Prop := K (some ⟨v, l, r⟩)
def putDown (ih : PutF α) (K : Option (T α) → Prop) (v : Option α) (l r : Option (T α)) (k : Nat) : Prop :=
  Bool.rec (motive := fun _ => Prop) (ih r (Nat.div k 2) (putR K v l)) (ih l (Nat.div k 2) (putL K v r)) (Nat.beq (Nat.mod k 2) 0)
def putNode (a : Option α) (ih : PutF α) (k : Nat) (K : Option (T α) → Prop) (v : Option α) (l r : Option (T α)) : Prop :=
  Nat.rec (motive := fun _ => Prop) (K (some ⟨a, l, r⟩)) (fun k _ => putDown ih K v l r k) k
def tputK (f : Nat) (t : Option (T α)) (k : Nat) (a : Option α) (K : Option (T α) → Prop) : Prop :=
  Nat.rec (motive := fun _ => PutF α) (fun t _ K => K t)
    (fun _ ih t k K => Option.rec (motive := fun _ => Prop) (putNode a ih k K none none none) (fun n => T.casesOn (motive_1 := fun _ => Prop) n (putNode a ih k K)) t) f t k K
theorem tputK_eq (a : Option α) : ∀ (f : Nat) (t : Option (T α)) (k : Nat) (K : Option (T α) → Prop), tputK f t k a K = K (tput f t k a)
  | 0, _, _, _ => rfl
  | f + 1, none, 0, _ => rfl
  | f + 1, none, k + 1, K => by
    have h1 := fun K => tputK_eq a f none (Nat.div k 2) K
    change (Bool.rec (motive := fun _ => Prop) (tputK f none (Nat.div k 2) a fun r => K (some ⟨none, none, r⟩)) (tputK f none (Nat.div k 2) a fun l => K (some ⟨none, l, none⟩)) (Nat.beq (Nat.mod k 2) 0) : Prop) = _
    simp only [tput]
    cases Nat.beq (Nat.mod k 2) 0 <;> simp only [h1]
  | f + 1, some ⟨v, l, r⟩, 0, _ => rfl
  | f + 1, some ⟨v, l, r⟩, k + 1, K => by
    have h1 := fun K => tputK_eq a f l (Nat.div k 2) K
    have h2 := fun K => tputK_eq a f r (Nat.div k 2) K
    change (Bool.rec (motive := fun _ => Prop) (tputK f r (Nat.div k 2) a fun r => K (some ⟨v, l, r⟩)) (tputK f l (Nat.div k 2) a fun l => K (some ⟨v, l, r⟩)) (Nat.beq (Nat.mod k 2) 0) : Prop) = _
    simp only [tput]
    cases Nat.beq (Nat.mod k 2) 0 <;> simp only [h1, h2]

/-- What was put is there, and all else is as it was. -/
theorem tget_tput (a : Option α) : ∀ (f : Nat) (t : Option (T α)) (k j : Nat), k + 1 < 2 ^ f → tget f (tput f t k a) j = if j = k then a else tget f t j
  | 0, _, k, _, h => by simp at h
  | f + 1, none, 0, j, _ => by
    cases j with
    | zero => rfl
    | succ j => simp only [tput, tget]; cases Nat.beq (Nat.mod j 2) 0 <;> cases f <;> simp [tget]
  | f + 1, some ⟨v, l, r⟩, 0, j, _ => by
    cases j with
    | zero => rfl
    | succ j => simp only [tput, tget]; cases Nat.beq (Nat.mod j 2) 0 <;> simp
  | f + 1, none, k + 1, j, h => by
    have hk : k / 2 + 1 < 2 ^ f := by rw [Nat.pow_succ] at h; omega
    have IH := fun j => tget_tput a f none (k / 2) j hk
    have e0 : ∀ j, tget f (none : Option (T α)) j = none := fun j => by cases f <;> rfl
    cases j with
    | zero =>
      simp only [tput]
      cases Nat.beq (Nat.mod k 2) 0 <;> simp [tget]
    | succ j =>
      simp only [tput]
      have hb : ∀ x : Nat, Nat.beq (Nat.mod x 2) 0 = decide (x % 2 = 0) := fun x => by
        change Nat.beq (x % 2) 0 = _
        cases hx : Nat.beq (x % 2) 0
        · have := Nat.ne_of_beq_eq_false hx; simp [this]
        · have := Nat.eq_of_beq_eq_true hx; simp [this]
      have hd : ∀ x : Nat, Nat.div x 2 = x / 2 := fun _ => rfl
      rw [hb k]
      by_cases h1 : k % 2 = 0
      · simp only [h1, decide_true, tget, hb j]
        by_cases h2 : j % 2 = 0
        · simp only [h2, decide_true, hd, IH, e0]
          by_cases h3 : j = k
          · simp [h3]
          · have : ¬ j / 2 = k / 2 := by omega
            simp [h3, this]
        · have : ¬ j = k := by rintro rfl; exact h2 h1
          simp [h2, e0, this]
      · simp only [h1, decide_false, tget, hb j]
        by_cases h2 : j % 2 = 0
        · have : ¬ j = k := by rintro rfl; exact h1 h2
          simp [h2, e0, this]
        · simp only [h2, decide_false, hd, IH, e0]
          by_cases h3 : j = k
          · simp [h3]
          · have : ¬ j / 2 = k / 2 := by omega
            simp [h3, this]
  | f + 1, some ⟨v, l, r⟩, k + 1, j, h => by
    have hk : k / 2 + 1 < 2 ^ f := by rw [Nat.pow_succ] at h; omega
    have IHl := fun j => tget_tput a f l (k / 2) j hk
    have IHr := fun j => tget_tput a f r (k / 2) j hk
    cases j with
    | zero =>
      simp only [tput]
      cases Nat.beq (Nat.mod k 2) 0 <;> simp [tget]
    | succ j =>
      simp only [tput]
      have hb : ∀ x : Nat, Nat.beq (Nat.mod x 2) 0 = decide (x % 2 = 0) := fun x => by
        change Nat.beq (x % 2) 0 = _
        cases hx : Nat.beq (x % 2) 0
        · have := Nat.ne_of_beq_eq_false hx; simp [this]
        · have := Nat.eq_of_beq_eq_true hx; simp [this]
      have hd : ∀ x : Nat, Nat.div x 2 = x / 2 := fun _ => rfl
      rw [hb k]
      by_cases h1 : k % 2 = 0
      · simp only [h1, decide_true, tget, hb j]
        by_cases h2 : j % 2 = 0
        · simp only [h2, decide_true, hd, IHl]
          by_cases h3 : j = k
          · simp [h3]
          · have : ¬ j / 2 = k / 2 := by omega
            simp [h3, this]
        · have : ¬ j = k := by rintro rfl; exact h2 h1
          simp [h2, this]
      · simp only [h1, decide_false, tget, hb j]
        by_cases h2 : j % 2 = 0
        · have : ¬ j = k := by rintro rfl; exact h1 h2
          simp [h2, this]
        · simp only [h2, decide_false, hd, IHr]
          by_cases h3 : j = k
          · simp [h3]
          · have : ¬ j / 2 = k / 2 := by omega
            simp [h3, this]

/-- The n-th of a list. -/
def nthK (l : List α) (n : Nat) (K : α → Prop) : Prop :=
  List.rec (motive := fun _ => Nat → Prop) (fun _ => False)
    (fun x _ ih n => Nat.rec (motive := fun _ => Prop) (K x) (fun n _ => ih n) n) l n
/-- A list in rows of sixteen. -/
def chunk : Nat → List α → List (List α)
  | 0, _ => []
  | f + 1, l => match l with
    | [] => []
    | x :: l => (x :: l).take 16 :: chunk f ((x :: l).drop 16)
theorem chunk_get : ∀ (f : Nat) (l : List α) (i j : Nat) (c : List α) (x : α), (chunk f l)[i]? = some c → c[j]? = some x → l[16 * i + j]? = some x
  | 0, _, _, _, _, _, h, _ => by simp [chunk] at h
  | f + 1, [], _, _, _, _, h, _ => by simp [chunk] at h
  | f + 1, y :: l, 0, j, c, x, h, hx => by
    simp only [chunk, List.getElem?_cons_zero, Option.some.injEq] at h
    subst h
    rw [List.getElem?_take] at hx
    split at hx
    · simpa using hx
    · cases hx
  | f + 1, y :: l, i + 1, j, c, x, h, hx => by
    simp only [chunk, List.getElem?_cons_succ] at h
    have := chunk_get f _ i j c x h hx
    rw [List.getElem?_drop] at this
    rw [← this]
    congr 1
    omega
theorem nthK_iff (K : α → Prop) : ∀ (l : List α) (n : Nat), nthK l n K ↔ ∃ x, l[n]? = some x ∧ K x
  | [], n => by simp [nthK]
  | x :: l, 0 => by
    change K x ↔ _
    simp
  | x :: l, n + 1 => by
    have := nthK_iff K l n
    change nthK l n K ↔ _
    simpa using this
/-- A list without its first ones. -/
def dropK (n : Nat) (l : List α) (K : List α → Prop) : Prop :=
  Nat.rec (motive := fun _ => List α → Prop) (fun l => K l)
    (fun _ ih l => match l with
      | [] => False
      | _ :: l => ih l) n l
theorem dropK_iff (K : List α → Prop) : ∀ (n : Nat) (l : List α), dropK n l K ↔ n ≤ l.length ∧ K (l.drop n)
  | 0, l => by change K l ↔ _; simp
  | n + 1, [] => by simp [dropK]
  | n + 1, x :: l => by have := dropK_iff K n l; unfold dropK at this ⊢; simpa using this
/-- Just so many of its first ones. -/
def takeK (n : Nat) (l : List α) (K : List α → Prop) : Prop :=
  Nat.rec (motive := fun _ => List α → (List α → Prop) → Prop) (fun _ K => K [])
    (fun _ ih l K => match l with
      | [] => False
      | x :: l => ih l fun t => K (x :: t)) n l K
theorem takeK_iff : ∀ (n : Nat) (l : List α) (K : List α → Prop), takeK n l K ↔ n ≤ l.length ∧ K (l.take n)
  | 0, l, K => by change K [] ↔ _; simp
  | n + 1, [], K => by simp [takeK]
  | n + 1, x :: l, K => by have := takeK_iff n l fun t => K (x :: t); unfold takeK at this ⊢; simpa using this
/-- Over the first ones others are written. -/
def overK (ys l : List α) (K : List α → Prop) : Prop :=
  List.rec (motive := fun _ => List α → (List α → Prop) → Prop) (fun l K => K l)
    (fun y _ ih l K => match l with
      | [] => False
      | _ :: l => ih l fun t => K (y :: t)) ys l K
theorem overK_iff : ∀ (ys l : List α) (K : List α → Prop), overK ys l K ↔ ys.length ≤ l.length ∧ K (ys ++ l.drop ys.length)
  | [], l, K => by simp [overK]
  | y :: ys, [], K => by simp [overK]
  | y :: ys, x :: l, K => by have := overK_iff ys l fun t => K (y :: t); unfold overK at this ⊢; simpa using this
def overAtK (n : Nat) (ys l : List α) (K : List α → Prop) : Prop :=
  Nat.rec (motive := fun _ => List α → (List α → Prop) → Prop) (fun l K => overK ys l K)
    (fun _ ih l K => match l with
      | [] => False
      | x :: l => ih l fun t => K (x :: t)) n l K
theorem overAtK_iff (ys : List α) : ∀ (n : Nat) (l : List α) (K : List α → Prop), overAtK n ys l K ↔ n + ys.length ≤ l.length ∧ K (l.take n ++ ys ++ l.drop (n + ys.length))
  | 0, l, K => by change overK ys l K ↔ _; simp [overK_iff]
  | n + 1, [], K => by simp [overAtK]
  | n + 1, x :: l, K => by
    have := overAtK_iff ys n l fun t => K (x :: t)
    unfold overAtK at this ⊢
    have e : n + 1 + ys.length = (n + ys.length) + 1 := by omega
    simp only [this, List.length_cons, e, Nat.add_le_add_iff_right, List.take_succ_cons, List.drop_succ_cons, List.cons_append]
/-- One list behind another one. -/
def appK (xs l : List α) (K : List α → Prop) : Prop :=
  List.rec (motive := fun _ => (List α → Prop) → Prop) (fun K => K l) (fun x _ ih K => ih fun t => K (x :: t)) xs K
theorem appK_eq (l : List α) : ∀ (xs : List α) (K : List α → Prop), appK xs l K = K (xs ++ l)
  | [], _ => rfl
  | x :: xs, K => by have := appK_eq l xs fun t => K (x :: t); unfold appK at this ⊢; simpa using this
/-- A list so many times. -/
def repsK (z : List α) (n : Nat) (K : List α → Prop) : Prop :=
  Nat.rec (motive := fun _ => (List α → Prop) → Prop) (fun K => K []) (fun _ ih K => ih fun t => appK z t K) n K
theorem repsK_eq (z : List α) : ∀ (n : Nat) (K : List α → Prop), repsK z n K = K (List.replicate n z).flatten
  | 0, _ => rfl
  | n + 1, K => by
    have := repsK_eq z n fun t => appK z t K
    unfold repsK at this ⊢
    simpa [appK_eq, List.replicate_succ] using this
/-- How long a list is. -/
def lenK (l : List α) (K : Nat → Prop) : Prop :=
  List.rec (motive := fun _ => Nat → Prop) (fun n => fN n K) (fun _ _ ih n => fN (Nat.succ n) fun n => ih n) l 0
theorem lenK_go (K : Nat → Prop) : ∀ (l : List α) (n : Nat), (List.rec (motive := fun _ => Nat → Prop) (fun n => fN n K) (fun _ _ ih n => fN (Nat.succ n) fun n => ih n) l n : Prop) = K (n + l.length)
  | [], n => by simp [fN_eq]
  | x :: l, n => by
    change (fN (Nat.succ n) fun n => _) = _
    rw [fN_eq]
    refine (lenK_go K l (n + 1)).trans (congrArg K ?_)
    simp only [List.length_cons]
    omega
theorem lenK_eq (l : List α) (K : Nat → Prop) : lenK l K = K l.length := by
  unfold lenK
  rw [lenK_go]
  simp
end

end Rn
end Go.Proofs.YtllbjkeahafleaaGreatDoor
