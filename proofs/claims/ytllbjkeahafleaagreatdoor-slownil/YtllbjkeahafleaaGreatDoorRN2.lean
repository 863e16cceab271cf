/-
  What the runner's memory says of the machine's: each row of the one lies somewhere in the other (Sl: its block, from which cell on, how many cells there are, how many an element has); values are alike but for where rows lie, and for capacities that are not known.
-/
import Derived.Test.YtllbjkeahafleaaGreatDoorRN1
import Derived.Laws.IdiomCopy
namespace Go.Proofs.YtllbjkeahafleaaGreatDoor
namespace Rn

/-- Where a row lies. -/
structure Sl where
  b : Nat
  base : Nat
  room : Nat
  u : Nat
abbrev Fi := Nat → Option Sl

def All2 {α β : Type} (R : α → β → Prop) : List α → List β → Prop
  | [], l => l = []
  | x :: xs, l => match l with
    | [] => False
    | y :: ys => R x y ∧ All2 R xs ys
section
variable {α β : Type} {R : α → β → Prop}
theorem All2.mono {R' : α → β → Prop} (h : ∀ x y, R x y → R' x y) : ∀ {xs : List α} {ys : List β}, All2 R xs ys → All2 R' xs ys
  | [], _, g => g
  | _ :: _, [], g => g
  | _ :: _, _ :: _, g => ⟨h _ _ g.1, All2.mono h g.2⟩
theorem All2.length : ∀ {xs : List α} {ys : List β}, All2 R xs ys → ys.length = xs.length
  | [], _, g => by cases g; rfl
  | _ :: _, [], g => g.elim
  | _ :: _, _ :: _, g => by simp [All2.length g.2]
theorem All2.app : ∀ {xs xs' : List α} {ys ys' : List β}, All2 R xs ys → All2 R xs' ys' → All2 R (xs ++ xs') (ys ++ ys')
  | [], _, _, _, g, g' => by cases g; exact g'
  | _ :: _, _, [], _, g, _ => g.elim
  | _ :: _, _, _ :: _, _, g, g' => ⟨g.1, All2.app g.2 g'⟩
theorem All2.take : ∀ (n : Nat) {xs : List α} {ys : List β}, All2 R xs ys → All2 R (xs.take n) (ys.take n)
  | 0, _, _, _ => by simp [All2]
  | _ + 1, [], _, g => by cases g; simp [All2]
  | _ + 1, _ :: _, [], g => g.elim
  | n + 1, _ :: _, _ :: _, g => ⟨g.1, All2.take n g.2⟩
theorem All2.drop : ∀ (n : Nat) {xs : List α} {ys : List β}, All2 R xs ys → All2 R (xs.drop n) (ys.drop n)
  | 0, _, _, g => by simpa using g
  | _ + 1, [], _, g => by cases g; simp [All2]
  | _ + 1, _ :: _, [], g => g.elim
  | n + 1, _ :: _, _ :: _, g => by simpa using All2.drop n g.2
theorem All2.get : ∀ {xs : List α} {ys : List β}, All2 R xs ys → ∀ (n : Nat) (x : α), xs[n]? = some x → ∃ y, ys[n]? = some y ∧ R x y
  | [], _, _, _, _, h => by simp at h
  | _ :: _, [], g, _, _, _ => g.elim
  | _ :: _, _ :: _, g, 0, x, h => by simp at h; subst h; exact ⟨_, rfl, g.1⟩
  | _ :: _, _ :: _, g, n + 1, x, h => by simpa using All2.get g.2 n x (by simpa using h)
theorem All2.of_get : ∀ {xs : List α} {ys : List β}, xs.length = ys.length → (∀ (n : Nat) (x : α) (y : β), xs[n]? = some x → ys[n]? = some y → R x y) → All2 R xs ys
  | [], [], _, _ => rfl
  | [], _ :: _, h, _ => by simp at h
  | _ :: _, [], h, _ => by simp at h
  | x :: xs, y :: ys, h, g => ⟨g 0 x y rfl rfl, All2.of_get (by simpa using h) fun n a b ha hb => g (n + 1) a b (by simpa using ha) (by simpa using hb)⟩
end

/-- A value of one cell. -/
def Fl (v : Value) : Prop := match v with
  | .agg _ => False
  | .tuple _ => False
  | _ => True

/-- What is left of a number by another one. -/
def left (x n : Int) : Int := if x.tmod n < 0 then x.tmod n + n else x.tmod n
/-- A number of which a mark tells what is left. -/
def Marked (r : Nat) (x : Int) : Prop := -9223372036854775808 ≤ x ∧ x < 9223372036854775808 ∧ left x ((r / MK : Nat) : Int) = ((r % MK : Nat) : Int)
/-- What is known of a value, one of eight: its cells. -/
def kcells (c : Nat) : List Value := match c with
  | 0 => [.int .i64 1, .int .i64 0, .string ⟨⟨[]⟩⟩, .int .i64 0]
  | 1 => [.int .i64 2, .int .i64 0, .string ⟨⟨[]⟩⟩, .int .i64 0]
  | 2 => [.int .i64 3, .int .i64 0, .string ⟨⟨[65]⟩⟩, .int .i64 0]
  | 3 => [.int .i64 6, .int .i64 0, .string ⟨⟨[]⟩⟩, .int .i64 0]
  | 4 => [.int .i64 4, .int .i64 0, .string ⟨⟨[65]⟩⟩, .int .i64 9]
  | 5 => [.int .i64 3, .int .i64 1, .string ⟨⟨[]⟩⟩, .int .i64 0]
  | 6 => [.int .i64 3, .int .i64 1, .string ⟨⟨[65]⟩⟩, .int .i64 0]
  | _ => [.int .i64 3, .int .i64 0, .string ⟨⟨[79, 98, 106, 101, 99, 116]⟩⟩, .int .i64 0]
/-- The value of a symbol. -/
def symV (m c : Nat) : Value := match m with
  | 0 => .int .i64 ((c : Int) - 9223372036854775808)
  | 1 => .int .i64 ((c : Int) - 9223372036854775808)
  | 6 => .int .i64 c
  | m => match Nat.ble 16 m with
    | true => .int .i64 ((c : Int) - 9223372036854775808)
    | false => (kcells c).getD (m - 2) (.bool false)
def symOK (m c : Nat) : Prop := match m with
  | 0 => c < 18446744073709551616
  | 1 => c < 18446744073709551616
  | 6 => LONG ≤ c ∧ c ≤ MAXL
  | m => match Nat.ble 16 m with
    | true => c < 18446744073709551616 ∧ ∃ k, k < 8 ∧ left ((c : Int) - 9223372036854775808) 8 = ((k : Nat) : Int) ∧ bitOf (m - 16) k = true
    | false => c < 8 ∧ m < 6
theorem kcells_shape (c : Nat) : ∃ a b s d, kcells c = [.int .i64 a, .int .i64 b, .string s, .int .i64 d] := by
  unfold kcells
  split <;> exact ⟨_, _, _, _, rfl⟩
theorem symV_int {m c : Nat} (h : symOK m c) (hm : symInt m = true) : ∃ n, symV m c = .int .i64 n := by
  obtain ⟨a, b, s, d, e⟩ := kcells_shape c
  have hm' : m = 0 ∨ m = 1 ∨ m = 2 ∨ m = 3 ∨ m = 5 ∨ m = 6 := by
    unfold symInt at hm
    split at hm
    · cases hm
    · rename_i h4
      have h5 := Nat.le_of_ble_eq_true hm
      have h6 := Nat.ne_of_beq_eq_false h4
      omega
  rcases hm' with rfl | rfl | rfl | rfl | rfl | rfl <;> first | exact ⟨_, rfl⟩ | (simp only [symV, e]; exact ⟨_, rfl⟩)
theorem symV_str {m c : Nat} (hm : symStr m = true) : ∃ s, symV m c = .string s := by
  obtain ⟨a, b, s, d, e⟩ := kcells_shape c
  have := Nat.eq_of_beq_eq_true hm
  subst this
  exact ⟨s, by simp only [symV, e]; rfl⟩
theorem symV_or {m c : Nat} (h : symOK m c) (hm : m ≤ 6) : (∃ n, symV m c = .int .i64 n) ∨ ∃ s, symV m c = .string s := by
  by_cases h4 : m = 4
  · subst h4
    exact .inr (symV_str rfl)
  · refine .inl (symV_int h ?_)
    unfold symInt
    split
    · rename_i h5
      exact absurd (Nat.eq_of_beq_eq_true h5) h4
    · exact Nat.ble_eq_true_of_le hm
theorem symV_flat {m c : Nat} (h : symOK m c) : Fl (symV m c) := by
  by_cases hm : m ≤ 6
  · rcases symV_or h hm with ⟨n, e⟩ | ⟨s, e⟩ <;> rw [e] <;> exact trivial
  · have h0 : m ≠ 0 ∧ m ≠ 1 ∧ m ≠ 6 := by omega
    have h16 : Nat.ble 16 m = true := by
      cases hb : Nat.ble 16 m with
      | true => rfl
      | false =>
        exfalso
        unfold symOK at h
        split at h <;> first
          | omega
          | (rw [hb] at h; have := h.2; omega)
    have e : symV m c = .int .i64 ((c : Int) - 9223372036854775808) := by
      unfold symV
      split <;> first
        | omega
        | (rw [h16])
    rw [e]
    exact trivial
/-- So many times a number, and so much more. -/
def linV (a b c : Nat) : Int := IntKind.i64.wrap ((a : Int) * ((c : Int) - 9223372036854775808) + (b : Int))
/-- A value's outside: what it is, and where it leads to. -/
def Sh (φ : Fi) (R : Value → Value → Prop) (v v' : Value) : Prop := match v with
  | .bool b => v' = .bool b
  | .int k n => v' = .int k n
  | .string s => v' = .string s
  | .pointer none => v' = .pointer none
  | .pointer (some ⟨r, o, none⟩) => ∃ s, φ r = some s ∧ v' = .pointer (some ⟨s.b, s.base + o, none⟩)
  | .pointer (some ⟨g, o, some _⟩) => v' = .pointer (some ⟨g, o, none⟩)
  | .slice none n c => v' = .slice none n c
  | .slice (some ⟨r, o, none⟩) n c =>
    (r = NOWHERE ∧ n = 0 ∧ ∃ a c', v' = .slice (some a) 0 c' ∧ (c ≠ TOP → c' = c)) ∨
    (r ≠ NOWHERE ∧ ∃ s c', φ r = some s ∧ v' = .slice (some ⟨s.b, s.base + o, none⟩) n c' ∧ (c ≠ TOP → c' = c) ∧ (c = TOP → n ≤ c' ∧ o + c' * s.u = s.room ∧ 1 ≤ s.u ∧ c' ≤ MAXL))
  | .slice (some ⟨r, o, some _⟩) n c => n = 0 ∧ c = TOP ∧ ∃ s a c', φ r = some s ∧ v' = .slice (some a) 0 c' ∧ (c' ≠ 0 → a = ⟨s.b, s.base + o, none⟩ ∧ o + c' * s.u = s.room ∧ 1 ≤ s.u ∧ c' ≤ MAXL)
  | .map none => v' = .map none
  | .map (some r) => ∃ s, φ r = some s ∧ v' = .map (some s.b)
  | .func fn a b => ∃ a' b', v' = .func fn a' b' ∧ All2 R a.toList a'.toList ∧ All2 R b.toList b'.toList
  | .nilFunc => v' = .nilFunc
  | .nilIface => v' = .nilIface
  | .iface t x => ∃ x', v' = .iface t x' ∧ R x x'
  | .agg xs => ∃ ys : Array Value, v' = .agg ys ∧ All2 (fun x y => R x y ∧ Fl x) xs.toList ys.toList
  | .tuple xs => ∃ ys : Array Value, v' = .tuple ys ∧ All2 R xs.toList ys.toList
  | .chan none => Fl v'
  | .chan (some r) => ∃ x : Int, v' = .int .i64 x ∧ Marked r x
  | .float .f64 r => ∃ s, φ r = some s ∧ v' = .func (.yield s.b) #[] #[]
  | .float .f32 n => ∃ s, φ (lR n) = some s ∧ s.b < MW ∧ v' = .int .i64 (linV (lA n) (lB n) s.b)
  | .complex .f32 r m => ∃ s, φ r = some s ∧ symOK m s.b ∧ v' = symV m s.b
  | .complex .f64 r q => ∃ s t c', φ r = some s ∧ φ q = some t ∧ LONG ≤ t.b ∧ t.b ≤ MAXL ∧ v' = .slice (some ⟨s.b, s.base, none⟩) t.b c'

theorem Sh.mono {φ φ' : Fi} {R R' : Value → Value → Prop} (hφ : ∀ r s, φ r = some s → φ' r = some s) (h : ∀ x y, R x y → R' x y) {v v' : Value} (g : Sh φ R v v') : Sh φ' R' v v' := by
  unfold Sh at g ⊢
  split at g <;> try exact g
  · obtain ⟨s, h1, h2⟩ := g; exact ⟨s, hφ _ _ h1, h2⟩
  · rcases g with g | ⟨h0, s, c', h1, h2⟩
    · exact .inl g
    · exact .inr ⟨h0, s, c', hφ _ _ h1, h2⟩
  · obtain ⟨h0, h1, s, a, c', h2, h3⟩ := g; exact ⟨h0, h1, s, a, c', hφ _ _ h2, h3⟩
  · obtain ⟨s, h1, h2⟩ := g; exact ⟨s, hφ _ _ h1, h2⟩
  · obtain ⟨a, b, h1, h2, h3⟩ := g; exact ⟨a, b, h1, h2.mono h, h3.mono h⟩
  · obtain ⟨x, h1, h2⟩ := g; exact ⟨x, h1, h _ _ h2⟩
  · obtain ⟨ys, h1, h2⟩ := g; exact ⟨ys, h1, h2.mono fun x y k => ⟨h _ _ k.1, k.2⟩⟩
  · obtain ⟨ys, h1, h2⟩ := g; exact ⟨ys, h1, h2.mono h⟩
  · obtain ⟨s, h1, h2⟩ := g; exact ⟨s, hφ _ _ h1, h2⟩
  · obtain ⟨s, h1, h2⟩ := g; exact ⟨s, hφ _ _ h1, h2⟩
  · obtain ⟨s, h1, h2⟩ := g; exact ⟨s, hφ _ _ h1, h2⟩
  · obtain ⟨s, t, c', h1, h2, h3⟩ := g; exact ⟨s, t, c', hφ _ _ h1, hφ _ _ h2, h3⟩

def VN (φ : Fi) : Nat → Value → Value → Prop
  | 0 => fun _ _ => False
  | n + 1 => Sh φ (VN φ n)
/-- Two values are alike. -/
def VR (φ : Fi) (v v' : Value) : Prop := ∃ n, VN φ n v v'
/-- Two cells are alike. -/
def CR (φ : Fi) (v v' : Value) : Prop := VR φ v v' ∧ Fl v

theorem VN.mono (φ : Fi) : ∀ {n m : Nat} {v v' : Value}, n ≤ m → VN φ n v v' → VN φ m v v'
  | 0, _, _, _, _, h => h.elim
  | _ + 1, 0, _, _, hl, _ => absurd hl (by omega)
  | n + 1, m + 1, _, _, hl, h => Sh.mono (fun _ _ h => h) (fun _ _ g => VN.mono φ (Nat.le_of_succ_le_succ hl) g) h
theorem VR.inv {φ : Fi} {v v' : Value} (h : VR φ v v') : Sh φ (VR φ) v v' := by
  obtain ⟨n, h⟩ := h
  cases n with
  | zero => exact h.elim
  | succ n => exact Sh.mono (fun _ _ h => h) (fun _ _ g => ⟨n, g⟩) h
theorem All2.depth {φ : Fi} {p : Value → Prop} : ∀ {xs ys : List Value}, All2 (fun x y => VR φ x y ∧ p x) xs ys → ∃ n, All2 (fun x y => VN φ n x y ∧ p x) xs ys
  | [], _, g => ⟨0, g⟩
  | _ :: _, [], g => g.elim
  | _ :: _, _ :: _, ⟨⟨⟨n, h⟩, hp⟩, g⟩ => by
    obtain ⟨m, k⟩ := All2.depth g
    exact ⟨max n m, ⟨VN.mono φ (by omega) h, hp⟩, k.mono fun _ _ q => ⟨VN.mono φ (by omega) q.1, q.2⟩⟩
theorem All2.depth' {φ : Fi} {xs ys : List Value} (g : All2 (VR φ) xs ys) : ∃ n, All2 (VN φ n) xs ys := by
  obtain ⟨n, h⟩ := All2.depth (p := fun _ => True) (g.mono fun _ _ k => ⟨k, trivial⟩)
  exact ⟨n, h.mono fun _ _ k => k.1⟩
theorem VR.mk {φ : Fi} {v v' : Value} (g : Sh φ (VR φ) v v') : VR φ v v' := by
  cases v with
  | func fn a b =>
    obtain ⟨a', b', h1, h2, h3⟩ := g
    obtain ⟨n, h2⟩ := h2.depth'
    obtain ⟨m, h3⟩ := h3.depth'
    exact ⟨max n m + 1, a', b', h1, h2.mono fun _ _ k => VN.mono φ (by omega) k, h3.mono fun _ _ k => VN.mono φ (by omega) k⟩
  | iface t x =>
    obtain ⟨x', h1, n, h2⟩ := g
    exact ⟨n + 1, x', h1, h2⟩
  | agg xs =>
    obtain ⟨ys, h1, h2⟩ := g
    obtain ⟨n, h2⟩ := All2.depth h2
    exact ⟨n + 1, ys, h1, h2⟩
  | tuple xs =>
    obtain ⟨ys, h1, h2⟩ := g
    obtain ⟨n, h2⟩ := h2.depth'
    exact ⟨n + 1, ys, h1, h2⟩
  | pointer a =>
    refine ⟨1, ?_⟩
    cases a with
    | none => exact g
    | some a => obtain ⟨r, o, sp⟩ := a; cases sp with | none => exact g | some _ => exact g
  | slice a n c =>
    refine ⟨1, ?_⟩
    cases a with
    | none => exact g
    | some a => obtain ⟨r, o, sp⟩ := a; cases sp with | none => exact g | some _ => exact g
  | map r => refine ⟨1, ?_⟩; cases r <;> exact g
  | bool _ => exact ⟨1, g⟩
  | int _ _ => exact ⟨1, g⟩
  | float k _ => refine ⟨1, ?_⟩; cases k <;> exact g
  | complex k _ _ => refine ⟨1, ?_⟩; cases k <;> exact g
  | string _ => exact ⟨1, g⟩
  | chan r => refine ⟨1, ?_⟩; cases r <;> exact g
  | nilFunc => exact ⟨1, g⟩
  | nilIface => exact ⟨1, g⟩
theorem VR.mono {φ φ' : Fi} (hφ : ∀ r s, φ r = some s → φ' r = some s) {v v' : Value} (h : VR φ v v') : VR φ' v v' := by
  obtain ⟨n, h⟩ := h
  refine ⟨n, ?_⟩
  induction n generalizing v v' with
  | zero => exact h.elim
  | succ n ih => exact Sh.mono hφ (fun _ _ g => ih g) h
theorem CR.mono {φ φ' : Fi} (hφ : ∀ r s, φ r = some s → φ' r = some s) {v v' : Value} (h : CR φ v v') : CR φ' v v' := ⟨h.1.mono hφ, h.2⟩
theorem VR.flat {φ : Fi} {v v' : Value} (h : VR φ v v') (hf : Fl v) : Fl v' := by
  have g := h.inv
  unfold Sh at g
  split at g <;> first
    | (subst g; exact trivial)
    | (obtain ⟨_, _, hk, rfl⟩ := g; exact symV_flat hk)
    | (obtain ⟨_, _, _, _, _, _, _, rfl⟩ := g; exact trivial)
    | (obtain ⟨_, _, rfl⟩ := g; exact trivial)
    | (rcases g with ⟨_, _, _, _, rfl, _⟩ | ⟨_, _, _, _, rfl, _⟩ <;> exact trivial)
    | (obtain ⟨_, _, _, _, _, _, rfl, _⟩ := g; exact trivial)
    | (obtain ⟨_, _, rfl, _⟩ := g; exact trivial)
    | (obtain ⟨_, rfl, _⟩ := g; first | exact trivial | exact hf.elim)
    | exact g
    | exact g.elim

/-- A slice that is there. -/
theorem slice_shape {φ : Fi} {ad : Addr} {n c : Nat} {v' : Value} (h : VR φ (.slice (some ad) n c) v') : ∃ a c', v' = .slice (some a) n c' ∧ (c ≠ TOP → c' = c) ∧ (c = TOP → n ≤ c') := by
  obtain ⟨r, o, sp⟩ := ad
  cases sp with
  | some _ =>
    obtain ⟨rfl, rfl, _, a, c', _, rfl, _⟩ := h.inv
    exact ⟨a, c', rfl, fun e => absurd rfl e, fun _ => Nat.zero_le _⟩
  | none =>
    rcases h.inv with ⟨_, rfl, a, c', rfl, hc⟩ | ⟨_, q, c', _, rfl, hc1, hc2⟩
    · exact ⟨_, _, rfl, hc, fun _ => Nat.zero_le _⟩
    · exact ⟨_, _, rfl, hc1, fun e => (hc2 e).1⟩
theorem fl_one {v : Value} (h : Fl v) : v.oneCell' = true := by cases v <;> first | rfl | exact h.elim

/-- Of a type that is marked so each value lies in a block of its own, of two cells. -/
def solo (B : Tb) (e : Nat) : Bool := match tget W B e with
  | some i => i.solo
  | none => false
theorem no_solo {B : Tb} {e : Nat} {i : TI} {p : Prop} (h : tget W B e = some i) (hs : i.solo = false) : solo B e = true → p := fun g => by
  simp only [solo, h, hs] at g
  cases g
/-- What a row of the runner's says of the world. -/
def RR (B : Tb) (φ : Fi) (w : World) (s : Sl) (o : Obj) : Prop := match o with
  | .cells cs e fz => s.b < w.heap.size ∧ (∀ i, tget W B e = some i → s.u = i.size) ∧ cs.size ≤ s.room ∧ (fz.1 = 0 → ∃ n, w.shape? s.b = some (e, n) ∧ (solo B e = true → s.base = 0 ∧ n = 2)) ∧ (∀ j, j < s.room → (w.cell? ⟨s.b, s.base + j, none⟩).isSome = true) ∧
      (fz = (0, 0) → ∀ j, w.frozen? ⟨s.b, j, none⟩ = false) ∧
      (∀ (i : Nat) (v : Value), cs[i]? = some v → ∃ v', w.cell? ⟨s.b, s.base + i, none⟩ = some v' ∧ CR φ v v')
  | .map es clock => ∃ es' : Array MapEntry, w.heap[s.b]? = some (.map es' clock) ∧ All2 (fun (e e' : MapEntry) => VR φ e.key e'.key ∧ VR φ e.val e'.val ∧ e'.born = e.born) es.toList es'.toList
  | .mapIter none since seen last => s.base = 0 ∧ w.heap[s.b]? = some (.mapIter none since seen last)
  | .mapIter (some m) since seen last => s.base = 0 ∧ ∃ sm, φ m = some sm ∧ w.heap[s.b]? = some (.mapIter (some sm.b) since seen last)
  | _ => False

/-- The package-level variables' rows lie at their own places. -/
def GlOK (φ : Fi) : Prop := ∀ r s, r < GL → φ r = some s → s.b = r ∧ s.base = 0
theorem GlOK.new {φ : Fi} {n : Nat} {s : Sl} (h : GlOK φ) (hn : GL ≤ n) : GlOK (fun r => if r = n then some s else φ r) := fun r s' hr hs => by
  have : r ≠ n := by simp only [GL] at hr hn; omega
  simp only [this, if_false] at hs
  exact h r s' hr hs
theorem GlOK.none : GlOK (fun _ => none) := fun _ _ _ h => by cases h
/-- The runner's memory, and where its rows lie, in a world. -/
structure WR (B : Tb) (φ : Fi) (h : Hp) (w : World) : Prop where
  rows : ∀ r o, tget W h.rows r = some o → ∃ s, φ r = some s ∧ RR B φ w s o
  apart : ∀ r r' o o' s, h.low ≤ r' → tget W h.rows r = some o → tget W h.rows r' = some o' → φ r = some s → (∃ s', φ r' = some s' ∧ s'.b = s.b) → r = r'
  below : ∀ r, h.next ≤ r → φ r = none
  live : ∀ r o, tget W h.rows r = some o → r < h.next ∧ r ≠ NOWHERE
  few : h.next ≤ MOST + 1
  low : GL ≤ h.next ∧ GlOK φ

/-- What lies outside of memory is as it was. -/
def Sm (w w' : World) : Prop := w'.os = w.os ∧ w'.tape = w.tape ∧ w'.output = w.output
theorem Sm.refl (w : World) : Sm w w := ⟨rfl, rfl, rfl⟩
theorem Sm.trans {w1 w2 w3 : World} (a : Sm w1 w2) (b : Sm w2 w3) : Sm w1 w3 := ⟨b.1.trans a.1, b.2.1.trans a.2.1, b.2.2.trans a.2.2⟩
/-- What a step may have turned: of the blocks that were there only those of the runner's rows; where rows lay they lie. -/
structure St (φ : Fi) (h : Hp) (w : World) (φ' : Fi) (h' : Hp) (w' : World) : Prop where
  ext : ∀ r s, φ r = some s → φ' r = some s
  size : w.heap.size ≤ w'.heap.size
  keep : ∀ b, b < w.heap.size → (∀ r o s, tget W h.rows r = some o → φ r = some s → s.b ≠ b) → w'.heap[b]? = w.heap[b]?
  new : ∀ r o s, tget W h'.rows r = some o → φ' r = some s → w.heap.size ≤ s.b ∨ ∃ r' o' s', tget W h.rows r' = some o' ∧ φ r' = some s' ∧ s'.b = s.b
  sm : Sm w w'
  lo : h'.low = h.low
  still : ∀ r o s, r < h.low → tget W h.rows r = some o → φ r = some s → s.b < w.heap.size → tget W h'.rows r = some o ∧ w'.heap[s.b]? = w.heap[s.b]?

theorem RR.lt {B : Tb} {φ : Fi} {w : World} {s : Sl} {o : Obj} (h : RR B φ w s o) : s.b < w.heap.size := by
  unfold RR at h
  split at h
  · exact h.1
  · obtain ⟨_, h, _⟩ := h
    exact (Array.getElem?_eq_some_iff.1 h).1
  · exact (Array.getElem?_eq_some_iff.1 h.2).1
  · obtain ⟨_, _, _, h⟩ := h
    exact (Array.getElem?_eq_some_iff.1 h).1
  · exact h.elim

theorem St.refl (φ : Fi) (h : Hp) (w : World) : St φ h w φ h w := ⟨fun _ _ h => h, Nat.le_refl _, fun _ _ _ => rfl, fun r o s h1 h2 => .inr ⟨r, o, s, h1, h2, rfl⟩, Sm.refl _, rfl, fun _ _ _ _ h1 _ _ => ⟨h1, rfl⟩⟩
theorem St.trans {φ1 φ2 φ3 : Fi} {h1 h2 h3 : Hp} {w1 w2 w3 : World} (a : St φ1 h1 w1 φ2 h2 w2) (b : St φ2 h2 w2 φ3 h3 w3) : St φ1 h1 w1 φ3 h3 w3 := {
  ext := fun r s h => b.ext r s (a.ext r s h)
  size := Nat.le_trans a.size b.size
  keep := fun x hx hn => by
    rw [b.keep x (Nat.lt_of_lt_of_le hx a.size) fun r o s h1 h2 => ?_, a.keep x hx hn]
    rcases a.new r o s h1 h2 with h | ⟨r', o', s', h3, h4, h5⟩
    · omega
    · exact h5 ▸ hn r' o' s' h3 h4
  new := fun r o s h1 h2 => by
    rcases b.new r o s h1 h2 with h | ⟨r', o', s', h3, h4, h5⟩
    · exact .inl (Nat.le_trans a.size h)
    · rcases a.new r' o' s' h3 h4 with h | ⟨r2, o2, s2, h6, h7, h8⟩
      · exact .inl (by omega)
      · exact .inr ⟨r2, o2, s2, h6, h7, h8.trans h5⟩
  sm := a.sm.trans b.sm
  lo := b.lo.trans a.lo
  still := fun r o s hr h1 h2 h3 => by
    obtain ⟨g1, g2⟩ := a.still r o s hr h1 h2 h3
    obtain ⟨g3, g4⟩ := b.still r o s (by rw [a.lo]; exact hr) g1 (a.ext r s h2) (Nat.lt_of_lt_of_le h3 a.size)
    exact ⟨g3, g4.trans g2⟩ }
theorem St.drew (φ : Fi) (h : Hp) (w : World) : St φ h w φ h { w with drawn := w.drawn + 1 } := ⟨fun _ _ h => h, Nat.le_refl _, fun _ _ _ => rfl, fun r o s h1 h2 => .inr ⟨r, o, s, h1, h2, rfl⟩, ⟨rfl, rfl, rfl⟩, rfl, fun _ _ _ _ h1 _ _ => ⟨h1, rfl⟩⟩

/-- What is read of a block that is as it was. -/
theorem cell_of_heap {w w' : World} {a : Addr} (h : w'.heap[a.block]? = w.heap[a.block]?) : w'.cell? a = w.cell? a := by simp only [World.cell?, h]
theorem frozen_of_heap {w w' : World} {a : Addr} (h : w'.heap[a.block]? = w.heap[a.block]?) : w'.frozen? a = w.frozen? a := by simp only [World.frozen?, h]
theorem shape_of_heap {w w' : World} {b : Nat} (h : w'.heap[b]? = w.heap[b]?) : w'.shape? b = w.shape? b := by simp only [World.shape?, h]
theorem RR.keep {B : Tb} {φ φ' : Fi} {w w' : World} {s : Sl} {o : Obj} (h : RR B φ w s o) (hφ : ∀ r s, φ r = some s → φ' r = some s) (hs : w.heap.size ≤ w'.heap.size) (hb : w'.heap[s.b]? = w.heap[s.b]?) : RR B φ' w' s o := by
  unfold RR at h ⊢
  split at h
  · obtain ⟨h1, hu, h2, h3, h4, h5, h6⟩ := h
    refine ⟨by omega, hu, h2, by rw [shape_of_heap hb]; exact h3, fun j hj => by rw [cell_of_heap (a := ⟨s.b, s.base + j, none⟩) hb]; exact h4 j hj, fun hf j => by rw [frozen_of_heap (a := ⟨s.b, j, none⟩) hb]; exact h5 hf j, fun i v hv => ?_⟩
    obtain ⟨v', h7, h8⟩ := h6 i v hv
    exact ⟨v', by rw [cell_of_heap (a := ⟨s.b, s.base + i, none⟩) hb]; exact h7, h8.mono hφ⟩
  · obtain ⟨es', h1, h2⟩ := h
    exact ⟨es', by rw [hb]; exact h1, h2.mono fun _ _ k => ⟨k.1.mono hφ, k.2.1.mono hφ, k.2.2⟩⟩
  · rw [hb]; exact h
  · obtain ⟨h0, sm, h1, h2⟩ := h
    exact ⟨h0, sm, hφ _ _ h1, by rw [hb]; exact h2⟩
  · exact h.elim

end Rn
end Go.Proofs.YtllbjkeahafleaaGreatDoor
