/-
  What the proof leans on, part 10 of 23. The conditions stand in each theorem.
-/
import Derived.Test.YtildemmkhndhjaaGreatDoorB09
import Derived.Test.YtildemmkhndhjaaGreatDoorB08
namespace Go.Proofs.YtildemmkhndhjaaGreatDoor
open Go.RowKit

theorem be_cons (c : UInt8) (l : List UInt8) : be (c :: l) = c.toNat * 256 ^ l.length + be l := by
  suffices h : ∀ (l : List UInt8) (n : Nat), l.foldl (fun n c => n * 256 + c.toNat) n = n * 256 ^ l.length + be l by
    show (c :: l).foldl (fun n c => n * 256 + c.toNat) 0 = _
    rw [List.foldl_cons, h]
    simp
  intro l
  induction l with
  | nil => intro n; simp [be]
  | cons d l ih =>
    intro n
    rw [List.foldl_cons, ih, List.length_cons, Nat.pow_succ]
    have h2 : be (d :: l) = d.toNat * 256 ^ l.length + be l := by
      show (d :: l).foldl (fun n c => n * 256 + c.toNat) 0 = _
      rw [List.foldl_cons, ih]
      simp
    rw [h2, Nat.add_mul, Nat.mul_assoc, Nat.mul_comm 256]
    omega

theorem be_toBE (x k : Nat) : be (toBE x k) = x % 256 ^ k := by
  induction k with
  | zero => simp [toBE, be, Nat.mod_one]
  | succ k ih =>
    have h1 := Nat.mod_mul (x := x) (a := 256 ^ k) (b := 256)
    have e : (256 : Nat) ^ (k + 1) = 256 ^ k * 256 := Nat.pow_succ _ _
    have e2 : (2 : Nat) ^ 8 = 256 := by decide
    rw [toBE, be_cons, ih, toBE_length, UInt8.toNat_ofNat', e, h1, e2, Nat.mul_comm]
    omega

theorem back_u64 (n : Int) (h : -9223372036854775808 ≤ n ∧ n ≤ 9223372036854775807) : wrap64 ((be (toBE (toU64 n) 8) : Nat) : Int) = n := by
  rw [be_toBE]
  have e : (256 : Nat) ^ 8 = 18446744073709551616 := by decide
  rw [e]
  unfold toU64
  simp only [wrap64]
  omega

/-- More bytes behind change nothing. -/
def Ext {α : Type} (p : Pr α) : Prop := ∀ (l : List UInt8) (n : Nat) (x : α) (l' : List UInt8) (n' : Nat) (q : List UInt8), p (l, n) = .inr (x, l', n') → p (l ++ q, n) = .inr (x, l' ++ q, n')

theorem ext_done {α : Type} (x : α) : Ext (pDone x) := by
  intro l n y l' n' q h
  simp only [pDone, Sum.inr.injEq, Prod.mk.injEq] at h ⊢
  obtain ⟨rfl, rfl, rfl⟩ := h
  exact ⟨rfl, rfl, rfl⟩

theorem ext_fail {α : Type} (k : Nat) (e : Int) : Ext (pFail k e : Pr α) := by
  intro l n y l' n' q h
  cases h

theorem ext_bind {α β : Type} {p : Pr α} {f : α → Pr β} (hp : Ext p) (hf : ∀ x, Ext (f x)) : Ext (pBind p f) := by
  intro l n y l' n' q h
  unfold pBind at h ⊢
  cases hpl : p (l, n) with
  | inl e => rw [hpl] at h; cases h
  | inr z =>
    obtain ⟨x, l1, n1⟩ := z
    rw [hpl] at h
    rw [hp l n x l1 n1 q hpl]
    exact hf x l1 n1 y l' n' q h

theorem ext_take (k : Nat) : Ext (pTake k) := by
  intro l n x l' n' q h
  unfold pTake at h ⊢
  simp only at h ⊢
  split at h
  · cases h
  · rename_i hk
    simp only [Sum.inr.injEq, Prod.mk.injEq] at h
    obtain ⟨rfl, rfl, rfl⟩ := h
    rw [if_neg (by rw [List.length_append]; omega), List.take_append_of_le_length (by omega), List.drop_append_of_le_length (by omega)]

theorem ext_u (k : Nat) : Ext (pU k) := ext_bind (ext_take k) fun _ => ext_done _
theorem ext_n8 : Ext pN8 := ext_bind (ext_take 8) fun _ => ext_done _

theorem ext_text : Ext pText := by
  intro l n x l' n' q h
  cases l with
  | nil => simp [pText, pBind, pTake, textLen] at h
  | cons b l =>
    have e : textLen ((b :: l) ++ q) = textLen (b :: l) := rfl
    unfold pText at h ⊢
    simp only at h ⊢
    rw [e]
    exact ext_bind (ext_take _) (fun _ => ext_done _) _ _ _ _ _ q h

theorem ext_list {α : Type} {p : Pr α} (hp : Ext p) : ∀ n, Ext (pList p n) := by
  intro n
  induction n with
  | zero => exact ext_done _
  | succ n ih => exact ext_bind hp fun _ => ext_bind ih fun _ => ext_done _

theorem ext_if {α : Type} {c : Prop} [Decidable c] {p q : Pr α} (hp : Ext p) (hq : Ext q) : Ext (if c then p else q) := by
  split
  · exact hp
  · exact hq

/-- The same, where what reads knows where it began. -/
theorem ext_at {α : Type} {p : Nat → Pr α} (hp : ∀ k, Ext (p k)) : Ext (fun r => p r.2 r) := fun l n x l' n' q h => hp n l n x l' n' q h

theorem ext_rows {α : Type} (k most : Nat) {p : Pr α} (hp : Ext p) : Ext (pRows k most p) :=
  ext_at (p := fun a => pBind (pU k) fun n => if most < n then pFail a 4 else pList p n) fun _ => ext_bind (ext_u k) fun _ => ext_if (ext_fail _ _) (ext_list hp _)

theorem ext_spell {α : Type} (f : List UInt8 → α × Int) : Ext (pSpell f) :=
  ext_at (p := fun a => pBind pText fun s => if (f s).2 = 0 then pDone (f s).1 else pFail a (f s).2) fun _ => ext_bind ext_text fun _ => ext_if (ext_done _) (ext_fail _ _)

theorem ext_entry : Ext pEntry :=
  ext_at (p := fun a => pBind (pU 1) fun k =>
    if k = 1 then pBind pText fun s => pDone (1, s, 0, 0, 0, 0)
    else if k = 2 then pBind pN8 fun n => pDone (2, [], n, 0, 0, 0)
    else if k = 3 ∨ k = 4 then pBind (pU 2) fun a => pDone ((k : Int), [], 0, (a : Int), 0, 0)
    else if k = 5 ∨ k = 6 then pBind (pU 2) fun a => pBind (pU 2) fun b => pBind (pU 2) fun c => pDone ((k : Int), [], 0, (a : Int), (b : Int), (c : Int))
    else pFail a 3) fun _ => ext_bind (ext_u 1) fun _ => ext_if (ext_bind ext_text fun _ => ext_done _) (ext_if (ext_bind ext_n8 fun _ => ext_done _) (ext_if (ext_bind (ext_u 2) fun _ => ext_done _)
      (ext_if (ext_bind (ext_u 2) fun _ => ext_bind (ext_u 2) fun _ => ext_bind (ext_u 2) fun _ => ext_done _) (ext_fail _ _))))

theorem ext_field : Ext pField := ext_bind (ext_u 1) fun _ => ext_bind ext_text fun _ => ext_bind (ext_spell _) fun _ => ext_done _
theorem ext_hand : Ext pHand := ext_bind (ext_u 2) fun _ => ext_bind (ext_u 2) fun _ => ext_bind (ext_u 2) fun _ => ext_bind ext_text fun _ => ext_done _
theorem ext_method : Ext pMethod := ext_bind (ext_u 1) fun _ => ext_bind ext_text fun _ => ext_bind (ext_spell _) fun _ => ext_if (ext_done _)
  (ext_bind (ext_u 1) fun _ => ext_bind (ext_u 1) fun _ => ext_bind (ext_u 2) fun _ => ext_bind (ext_take _) fun _ => ext_bind (ext_rows _ _ ext_hand) fun _ => ext_done _)
theorem ext_class : Ext pClass := ext_bind (ext_u 1) fun _ => ext_bind ext_text fun _ => ext_bind ext_text fun _ => ext_bind (ext_rows _ _ ext_text) fun _ => ext_bind (ext_rows _ _ ext_field) fun _ => ext_bind (ext_rows _ _ ext_method) fun _ => ext_done _
theorem ext_magic : Ext pMagic := ext_bind (ext_take 4) fun _ => ext_if (ext_done _) (ext_fail _ _)

/-- A module, whatever is left. -/
def pBody : Pr Mo := pBind pMagic fun _ => pBind (pRows 2 4096 pEntry) fun l => pBind (pRows 1 64 pClass) fun cs => pDone ⟨l, cs⟩
theorem ext_body : Ext pBody := ext_bind ext_magic fun _ => ext_bind (ext_rows _ _ ext_entry) fun _ => ext_bind (ext_rows _ _ ext_class) fun _ => ext_done _

theorem module_body (r : Rs) : pModule r = match pBody r with
    | .inl e => .inl e
    | .inr (m, r') => pEnd m r' := by
  unfold pModule pBody pBind
  cases pMagic r with
  | inl e => rfl
  | inr z =>
    simp only
    cases pRows 2 4096 pEntry z.2 with
    | inl e => rfl
    | inr z =>
      simp only
      cases pRows 1 64 pClass z.2 with
      | inl e => rfl
      | inr z => rfl

/-- What is written is read again. -/
def Bk {α : Type} (p : Pr α) (b : List UInt8) (x : α) : Prop := ∀ (q : List UInt8) (n : Nat), p (b ++ q, n) = .inr (x, q, n + b.length)

theorem bk_done {α : Type} (x : α) : Bk (pDone x) [] x := fun _ _ => rfl

theorem bk_bind {α β : Type} {p : Pr α} {f : α → Pr β} {a b : List UInt8} {x : α} {y : β} (hp : Bk p a x) (hf : Bk (f x) b y) : Bk (pBind p f) (a ++ b) y := by
  intro q n
  unfold pBind
  rw [List.append_assoc, hp]
  simp only
  rw [hf, List.length_append, Nat.add_assoc]

theorem bk_last {α β : Type} {p : Pr α} {f : α → Pr β} {a : List UInt8} {x : α} {y : β} (hp : Bk p a x) (hf : f x = pDone y) : Bk (pBind p f) a y := by
  intro q n
  unfold pBind
  rw [hp]
  simp only
  rw [hf]
  rfl

theorem bk_take (l : List UInt8) {k : Nat} (hk : k = l.length) : Bk (pTake k) l l := by
  subst hk
  intro q n
  unfold pTake
  simp

theorem bk_u1 (x : Int) (h : 0 ≤ x ∧ x < 256) : Bk (pU 1) (e1 x) x.toNat := by
  refine bk_last (bk_take _ rfl) ?_
  have : be (e1 x) = x.toNat := by
    have := be_toBE x.toNat 1
    have e : toBE x.toNat 1 = e1 x := by simp [toBE, e1]
    rw [e] at this
    rw [this]
    omega
  rw [this]

theorem bk_u2 (x : Int) (h : 0 ≤ x ∧ x < 65536) : Bk (pU 2) (e2 x) x.toNat := by
  refine bk_last (bk_take _ (by rw [e2, toBE_length])) ?_
  have : be (e2 x) = x.toNat := by
    rw [e2, be_toBE]
    omega
  rw [this]

theorem bk_n8 (x : Int) (h : -9223372036854775808 ≤ x ∧ x ≤ 9223372036854775807) : Bk pN8 (e8 x) x := by
  refine bk_last (bk_take _ (by rw [e8, toBE_length])) ?_
  rw [e8, back_u64 x h]

theorem bk_text (s : List UInt8) (h : s.length ≤ 255) : Bk pText (eT s) s := by
  intro q n
  have e : textLen (eT s ++ q) = (eT s).length := by
    show 1 + (UInt8.ofNat s.length).toNat = _
    rw [UInt8.toNat_ofNat', eT, List.length_cons]
    omega
  unfold pText
  simp only
  rw [e]
  exact bk_last (f := fun l => pDone l.tail) (y := s) (bk_take (eT s) rfl) rfl q n

theorem bk_list {α : Type} {p : Pr α} {enc : α → List UInt8} : ∀ (l : List α), (∀ x ∈ l, Bk p (enc x) x) → Bk (pList p l.length) (l.flatMap enc) l := by
  intro l
  induction l with
  | nil => intro _; exact bk_done _
  | cons x l ih =>
    intro h
    rw [List.flatMap_cons]
    exact bk_bind (h x (by simp)) (bk_last (ih fun y hy => h y (by simp [hy])) rfl)

theorem bk_at {α : Type} {p : Nat → Pr α} {b : List UInt8} {x : α} (hp : ∀ k, Bk (p k) b x) : Bk (fun r => p r.2 r) b x := fun q n => hp n q n

theorem bk_rows1 {α : Type} {most : Nat} {p : Pr α} {enc : α → List UInt8} (l : List α) (hm : l.length ≤ most) (hl : l.length < 256) (h : ∀ x ∈ l, Bk p (enc x) x) : Bk (pRows 1 most p) (e1 (l.length : Int) ++ l.flatMap enc) l :=
  bk_at (p := fun a => pBind (pU 1) fun n => if most < n then pFail a 4 else pList p n) fun _ => bk_bind (bk_u1 _ (by omega)) (by
    rw [Int.toNat_natCast, if_neg (by omega)]
    exact bk_list l h)

theorem bk_rows2 {α : Type} {most : Nat} {p : Pr α} {enc : α → List UInt8} (l : List α) (hm : l.length ≤ most) (hl : l.length < 65536) (h : ∀ x ∈ l, Bk p (enc x) x) : Bk (pRows 2 most p) (e2 (l.length : Int) ++ l.flatMap enc) l :=
  bk_at (p := fun a => pBind (pU 2) fun n => if most < n then pFail a 4 else pList p n) fun _ => bk_bind (bk_u2 _ (by omega)) (by
    rw [Int.toNat_natCast, if_neg (by omega)]
    exact bk_list l h)

theorem bk_spell {α : Type} {f : List UInt8 → α × Int} {s : List UInt8} {x : α} (h : s.length ≤ 255) (hf : f s = (x, 0)) : Bk (pSpell f) (eT s) x :=
  bk_at (p := fun a => pBind pText fun s => if (f s).2 = 0 then pDone (f s).1 else pFail a (f s).2) fun _ => bk_last (bk_text s h) (by rw [hf]; rfl)

/-- What of a module finds room in its bytes. -/
structure EnGood (e : En) : Prop where
  kind : 1 ≤ e.1 ∧ e.1 ≤ 6
  used : e = usedE e
  text : e.2.1.length ≤ 255
  num : -9223372036854775808 ≤ e.2.2.1 ∧ e.2.2.1 ≤ 9223372036854775807
  a : 0 ≤ e.2.2.2.1 ∧ e.2.2.2.1 < 65536
  b : 0 ≤ e.2.2.2.2.1 ∧ e.2.2.2.2.1 < 65536
  c : 0 ≤ e.2.2.2.2.2 ∧ e.2.2.2.2.2 < 65536
structure FdGood (f : Fd) : Prop where
  flags : f.1 = 0 ∨ f.1 = 4
  name : f.2.1.length ≤ 32
  type : tyCheck f.2.2 = 0
structure HdGood (h : Hd) : Prop where
  a : 0 ≤ h.1 ∧ h.1 ≤ 1024
  b : 0 ≤ h.2.1 ∧ h.2.1 ≤ 1024
  c : 0 ≤ h.2.2.1 ∧ h.2.2.1 ≤ 1024
  name : h.2.2.2.length ≤ 32
structure MeGood (m : Me) : Prop where
  flags : m.flags = 0 ∨ m.flags = 2 ∨ m.flags = 4
  name : m.name.length ≤ 32
  sig : sigCheck m.sig.1 m.sig.2.1 m.sig.2.2 = 0
  text : (sgText m.sig).length ≤ 255
  none : m.flags = 2 → m.stack = 0 ∧ m.locals = 0 ∧ m.code = [] ∧ m.hands = []
  stack : 0 ≤ m.stack ∧ m.stack ≤ 64
  locals : 0 ≤ m.locals ∧ m.locals ≤ 64
  code : m.code.length ≤ 1024
  many : m.hands.length ≤ 32
  hands : ∀ h ∈ m.hands, HdGood h
structure ClGood (c : Cl) : Prop where
  flags : c.flags = 0 ∨ c.flags = 1 ∨ c.flags = 2
  name : c.name.length ≤ 32
  super : c.super.length ≤ 32
  manyF : c.faces.length ≤ 16
  manyD : c.fields.length ≤ 64
  manyM : c.methods.length ≤ 64
  faces : ∀ s ∈ c.faces, s.length ≤ 32
  fields : ∀ f ∈ c.fields, FdGood f
  methods : ∀ m ∈ c.methods, MeGood m
structure MoGood (m : Mo) : Prop where
  manyP : m.pool.length ≤ 4096
  manyC : m.classes.length ≤ 64
  pool : ∀ e ∈ m.pool, EnGood e
  classes : ∀ c ∈ m.classes, ClGood c

theorem tyText_len {t : Ty} (h : tyCheck t = 0) : (tyText t).length ≤ 255 := by
  have hf := check_fit h
  obtain ⟨h0, h8, h32⟩ := hf
  unfold tyText
  rw [List.length_append, List.length_replicate]
  split
  · simp
    omega
  · simp
    omega

theorem bk_entry {e : En} (h : EnGood e) : Bk pEntry (encEn e) e := by
  obtain ⟨k, s, n, a, b, c⟩ := e
  obtain ⟨hk, hu, ht, hn, ha, hb, hc⟩ := h
  simp only at hk ht hn ha hb hc
  unfold encEn
  refine bk_at (p := fun a => pBind (pU 1) fun k =>
    if k = 1 then pBind pText fun s => pDone (1, s, 0, 0, 0, 0)
    else if k = 2 then pBind pN8 fun n => pDone (2, [], n, 0, 0, 0)
    else if k = 3 ∨ k = 4 then pBind (pU 2) fun a => pDone ((k : Int), [], 0, (a : Int), 0, 0)
    else if k = 5 ∨ k = 6 then pBind (pU 2) fun a => pBind (pU 2) fun b => pBind (pU 2) fun c => pDone ((k : Int), [], 0, (a : Int), (b : Int), (c : Int))
    else pFail a 3) fun at_ => bk_bind (bk_u1 _ (by omega)) ?_
  have ca : ((a.toNat : Nat) : Int) = a := by omega
  have cb : ((b.toNat : Nat) : Int) = b := by omega
  have cc : ((c.toNat : Nat) : Int) = c := by omega
  simp only
  by_cases k1 : k = 1
  · subst k1
    simp [usedE] at hu
    obtain ⟨rfl, rfl, rfl, rfl⟩ := hu
    simp only [if_true]
    exact bk_last (bk_text s ht) rfl
  by_cases k2 : k = 2
  · subst k2
    simp [usedE] at hu
    obtain ⟨rfl, rfl, rfl, rfl⟩ := hu
    exact bk_last (bk_n8 n hn) rfl
  have t1 : ¬ k.toNat = 1 := by omega
  have t2 : ¬ k.toNat = 2 := by omega
  by_cases k3 : k = 3 ∨ k = 4
  · have t3 : k.toNat = 3 ∨ k.toNat = 4 := by omega
    simp [usedE, k1, k2, k3] at hu
    obtain ⟨rfl, rfl, rfl, rfl⟩ := hu
    rw [if_neg t1, if_neg t2, if_pos t3, if_neg k1, if_neg k2, if_pos k3]
    refine bk_last (bk_u2 a ha) ?_
    rw [ca, show ((k.toNat : Nat) : Int) = k by omega]
  · have t3 : ¬ (k.toNat = 3 ∨ k.toNat = 4) := by omega
    have t5 : k.toNat = 5 ∨ k.toNat = 6 := by omega
    simp [usedE, k1, k2, k3] at hu
    obtain ⟨rfl, rfl⟩ := hu
    rw [if_neg t1, if_neg t2, if_neg t3, if_pos t5, if_neg k1, if_neg k2, if_neg k3]
    refine bk_bind (bk_u2 a ha) (bk_bind (bk_u2 b hb) (bk_last (bk_u2 c hc) ?_))
    rw [ca, cb, cc, show ((k.toNat : Nat) : Int) = k by omega]

theorem bk_field {f : Fd} (h : FdGood f) : Bk pField (encFd f) f := by
  obtain ⟨k, s, t⟩ := f
  obtain ⟨hk, hs, ht⟩ := h
  simp only at hk hs ht
  refine bk_bind (bk_u1 k (by omega)) (bk_bind (bk_text s (by omega)) (bk_last (bk_spell (tyText_len ht) (type_text ht)) ?_))
  rw [show ((k.toNat : Nat) : Int) = k by omega]

theorem bk_hand {h : Hd} (g : HdGood h) : Bk pHand (encHd h) h := by
  obtain ⟨a, b, c, s⟩ := h
  obtain ⟨ha, hb, hc, hs⟩ := g
  simp only at ha hb hc hs
  refine bk_bind (bk_u2 a (by omega)) (bk_bind (bk_u2 b (by omega)) (bk_bind (bk_u2 c (by omega)) (bk_last (bk_text s (by omega)) ?_)))
  rw [show ((a.toNat : Nat) : Int) = a by omega, show ((b.toNat : Nat) : Int) = b by omega, show ((c.toNat : Nat) : Int) = c by omega]

theorem bk_method {m : Me} (g : MeGood m) : Bk pMethod (encMe m) m := by
  obtain ⟨k, s, sg, st, lo, code, hs⟩ := m
  obtain ⟨hk, hn, hg, ht, h2, hst, hlo, hc, hm, hh⟩ := g
  simp only at hk hn hg ht h2 hst hlo hc hm hh
  refine bk_bind (bk_u1 k (by omega)) (bk_bind (bk_text s (by omega)) (bk_bind (bk_spell ht (sig_text hg)) ?_))
  simp only
  by_cases k2 : k = 2
  · subst k2
    obtain ⟨rfl, rfl, rfl, rfl⟩ := h2 rfl
    simp only [if_true]
    exact bk_done _
  · rw [if_neg (by omega), if_neg k2]
    refine bk_bind (bk_u1 st (by omega)) (bk_bind (bk_u1 lo (by omega)) (bk_bind (bk_u2 _ (by omega)) (bk_bind (bk_take code (by omega)) (bk_last (bk_rows1 hs (by omega) (by omega) fun h hh' => bk_hand (hh h hh')) ?_))))
    rw [show ((k.toNat : Nat) : Int) = k by omega, show ((st.toNat : Nat) : Int) = st by omega, show ((lo.toNat : Nat) : Int) = lo by omega]

theorem bk_class {c : Cl} (g : ClGood c) : Bk pClass (encCl c) c := by
  obtain ⟨k, s, u, fa, fi, me⟩ := c
  obtain ⟨hk, hn, hu, mf, md, mm, hf, hd, hm⟩ := g
  simp only at hk hn hu mf md mm hf hd hm
  unfold encCl
  simp only
  rw [← List.append_assoc (e1 (fa.length : Int)), ← List.append_assoc (e1 (fi.length : Int))]
  refine bk_bind (bk_u1 k (by omega)) (bk_bind (bk_text s (by omega)) (bk_bind (bk_text u (by omega)) (bk_bind (bk_rows1 fa (by omega) (by omega) fun x hx => bk_text x (by have := hf x hx; omega))
    (bk_bind (bk_rows1 fi (by omega) (by omega) fun x hx => bk_field (hd x hx)) (bk_last (bk_rows1 me (by omega) (by omega) fun x hx => bk_method (hm x hx)) ?_)))))
  rw [show ((k.toNat : Nat) : Int) = k by omega]

theorem bk_magic : Bk pMagic magicL () := bk_last (bk_take magicL rfl) rfl

theorem bk_body {m : Mo} (g : MoGood m) : Bk pBody (encM m) m := by
  obtain ⟨l, cs⟩ := m
  obtain ⟨mp, mc, hp, hc⟩ := g
  simp only at mp mc hp hc
  unfold encM
  simp only
  rw [← List.append_assoc (e2 (l.length : Int))]
  exact bk_bind bk_magic (bk_bind (bk_rows2 l (by omega) (by omega) fun x hx => bk_entry (hp x hx)) (bk_last (bk_rows1 cs (by omega) (by omega) fun x hx => bk_class (hc x hx)) rfl))

/-- What was written, with more behind. -/
theorem module_more {m : Mo} (g : MoGood m) (q : List UInt8) : pModule (encM m ++ q, 0) = if q = [] then .inr (m, [], (encM m).length) else .inl (((encM m).length : Int), 12) := by
  rw [module_body, bk_body g q 0]
  simp only [pEnd, Nat.zero_add]
  by_cases hq : q = []
  · subst hq
    simp
  · rw [if_neg hq, if_neg hq]

/-- What was written, cut. -/
theorem module_cut {m : Mo} (g : MoGood m) (k : Nat) (hk : k < (encM m).length) : ∃ e, pModule ((encM m).take k, 0) = .inl e := by
  cases h : pModule ((encM m).take k, 0) with
  | inl e => exact ⟨e, rfl⟩
  | inr z =>
    exfalso
    rw [module_body] at h
    cases hb : pBody ((encM m).take k, 0) with
    | inl e => rw [hb] at h; cases h
    | inr y =>
      obtain ⟨x, l, n⟩ := y
      rw [hb] at h
      simp only [pEnd] at h
      split at h
      · rename_i hl
        subst hl
        have h1 := ext_body _ _ _ _ _ ((encM m).drop k) hb
        rw [List.take_append_drop] at h1
        have h2 := bk_body g [] 0
        rw [List.append_nil] at h2
        rw [h2] at h1
        simp only [Sum.inr.injEq, Prod.mk.injEq, List.nil_append] at h1
        have := congrArg List.length h1.2.1
        rw [List.length_nil, List.length_drop] at this
        omega
      · cases h

/-- The bytes say the module. -/
theorem enc_inj {m n : Mo} (g : MoGood m) (k : MoGood n) (h : encM m = encM n) : m = n := by
  have h1 := bk_body g [] 0
  have h2 := bk_body k [] 0
  rw [h, h2] at h1
  simp only [Sum.inr.injEq, Prod.mk.injEq] at h1
  exact h1.1.symm

end Go.Proofs.YtildemmkhndhjaaGreatDoor
namespace Go.Proofs.YtildemmkhndhjaaGreatDoor
open Go.RowKit

theorem firstWrong_zero {l : List En} : ∀ (r : List En) (i : Nat), (firstWrong l r i).2 = 0 → ∀ e ∈ r, wrongE l e = 0 := by
  intro r
  induction r with
  | nil => intro i _ e he; cases he
  | cons x r ih =>
    intro i h e he
    unfold firstWrong at h
    split at h
    · rename_i hx
      rcases List.mem_cons.1 he with rfl | he
      · exact hx
      · exact ih _ h e he
    · rename_i hx
      exact absurd h hx

theorem text_bound {l : List En} {i : Int} {f : List UInt8 → Int} (h : wText l i f = 0) : 0 ≤ i ∧ i < (l.length : Int) := by
  unfold wText textAt at h
  cases he : enAt l i with
  | none => rw [he] at h; simp at h
  | some e =>
    obtain ⟨j, hj, rfl, _⟩ := enAt_some he
    omega

theorem class_bound {l : List En} {i : Int} (h : wClass l i = 0) : 0 ≤ i ∧ i < (l.length : Int) := by
  unfold wClass at h
  split at h
  · rename_i hh
    obtain ⟨e, he, _⟩ := hasE_kind hh
    obtain ⟨j, hj, rfl, _⟩ := enAt_some he
    omega
  · cases h

theorem or3_zero {x y z : Int} (h : or3 x y z = 0) : x = 0 ∧ y = 0 ∧ z = 0 := by
  unfold or3 at h
  split at h
  · rename_i hx
    split at h
    · rename_i hy
      exact ⟨hx, hy, h⟩
    · rename_i hy
      exact absurd h hy
  · rename_i hx
    exact absurd h hx

theorem en_good {l : List En} (hl : l.length ≤ 4096) {e : En} (h : wrongE l e = 0) (hn : -9223372036854775808 ≤ e.2.2.1 ∧ e.2.2.1 ≤ 9223372036854775807) : EnGood e := by
  obtain ⟨k, s, n, a, b, c⟩ := e
  unfold wrongE at h
  simp only at h hn
  split at h
  · cases h
  rename_i hk
  split at h
  · cases h
  rename_i hu
  have hu : (k, s, n, a, b, c) = usedE (k, s, n, a, b, c) := Classical.byContradiction fun x => hu x
  have hk' : 1 ≤ k ∧ k ≤ 6 := by omega
  by_cases k1 : k = 1
  · subst k1
    rw [if_pos rfl] at h
    have hs : s.length ≤ 255 := by
      unfold longE at h
      split at h
      · cases h
      · omega
    have hu2 := hu
    simp [usedE] at hu2
    obtain ⟨rfl, rfl, rfl, rfl⟩ := hu2
    exact ⟨hk', hu, hs, hn, by simp, by simp, by simp⟩
  rw [if_neg k1] at h
  by_cases k2 : k = 2
  · subst k2
    have hu2 := hu
    simp [usedE] at hu2
    obtain ⟨rfl, rfl, rfl, rfl⟩ := hu2
    exact ⟨hk', hu, by simp, hn, by simp, by simp, by simp⟩
  rw [if_neg k2] at h
  by_cases k3 : k = 3
  · subst k3
    rw [if_pos rfl] at h
    have hb := text_bound h
    have hu2 := hu
    simp [usedE] at hu2
    obtain ⟨rfl, rfl, rfl, rfl⟩ := hu2
    exact ⟨hk', hu, by simp, hn, by simp only; omega, by simp, by simp⟩
  rw [if_neg k3] at h
  by_cases k4 : k = 4
  · subst k4
    rw [if_pos rfl] at h
    have hb := text_bound h
    have hu2 := hu
    simp [usedE] at hu2
    obtain ⟨rfl, rfl, rfl, rfl⟩ := hu2
    exact ⟨hk', hu, by simp, hn, by simp only; omega, by simp, by simp⟩
  rw [if_neg k4] at h
  have hu2 := hu
  have k34 : ¬ (k = 3 ∨ k = 4) := by omega
  simp [usedE, k1, k2, k34] at hu2
  obtain ⟨rfl, rfl⟩ := hu2
  by_cases k5 : k = 5
  · rw [if_pos k5] at h
    obtain ⟨h1, h2, h3⟩ := or3_zero h
    have b1 := class_bound h1
    have b2 := text_bound h2
    have b3 := text_bound h3
    exact ⟨hk', hu, by simp, hn, by simp only; omega, by simp only; omega, by simp only; omega⟩
  · rw [if_neg k5] at h
    obtain ⟨h1, h2, h3⟩ := or3_zero h
    have b1 := class_bound h1
    have b2 := text_bound h2
    have b3 := text_bound h3
    exact ⟨hk', hu, by simp, hn, by simp only; omega, by simp only; omega, by simp only; omega⟩

theorem name_32 {n : List UInt8} (h : nameOK n = true) : n.length ≤ 32 := name_len h

theorem method_32 {n : List UInt8} (h : methodOK n = true) : n.length ≤ 32 := by
  unfold methodOK at h
  rw [Bool.or_eq_true] at h
  rcases h with h | h
  · rw [of_decide_eq_true h]
    decide
  · exact name_len h

theorem fd_good {a : List Fd} {f : Fd} (h : fieldE a f = 0) : FdGood f := by
  unfold fieldE at h
  split at h
  · cases h
  rename_i h1
  split at h
  · rename_i h2
    split at h
    · rename_i h3
      exact ⟨by omega, name_len h2, h3⟩
    · rename_i h3
      exact absurd h h3
  · cases h

theorem beg_bound {all : List In} {n : Nat} {k : Int} (h : begE all n k = true) : 0 ≤ k ∧ k < (n : Int) := by
  unfold begE at h
  rw [Bool.and_eq_true, Bool.and_eq_true] at h
  exact ⟨of_decide_eq_true h.1, of_decide_eq_true h.2.1⟩

theorem hd_good {all : List In} {n : Nat} (hn : n ≤ 1024) {x : Hd} (h : handE all n x = 0) : HdGood x := by
  unfold handE at h
  split at h
  · cases h
  rename_i h1
  have h1a : begE all n x.1 = true := by
    cases hb : begE all n x.1 with
    | true => rfl
    | false => exact absurd (Or.inl hb) h1
  have h1b : begE all n x.2.1 = true ∨ x.2.1 = (n : Int) := by
    cases hb : begE all n x.2.1 with
    | true => exact .inl rfl
    | false =>
      by_cases hq : x.2.1 = (n : Int)
      · exact .inr hq
      · exact absurd (Or.inr (Or.inl ⟨hb, hq⟩)) h1
  have b1 := beg_bound h1a
  split at h
  · rename_i h2
    have b3 := beg_bound h2
    split at h
    · rename_i h3
      have hb : 0 ≤ x.2.1 ∧ x.2.1 ≤ (n : Int) := by
        rcases h1b with h1b | h1b
        · have := beg_bound h1b
          omega
        · omega
      exact ⟨by omega, by omega, by omega, name_len h3⟩
    · cases h
  · cases h

theorem hands_zero {all : List In} {n : Nat} : ∀ (l : List Hd) (i : Nat), (handsE all n i l).2 = 0 → ∀ x ∈ l, handE all n x = 0 := by
  intro l
  induction l with
  | nil => intro i _ x hx; cases hx
  | cons y l ih =>
    intro i h x hx
    unfold handsE at h
    split at h
    · rename_i h0
      rcases List.mem_cons.1 hx with rfl | hx
      · exact h0
      · exact ih _ h x hx
    · rename_i h0
      exact absurd h h0

theorem code_1024 {code : List UInt8} {l : List En} {locals : Int} (h : (checkI code l locals).2 = 0) : code.length ≤ 1024 := by
  unfold checkI at h
  split at h
  · cases h
  · split at h
    · cases h
    · omega

theorem me_good {l : List En} {cf : Int} {a : List Me} {m : Me} (h : (methodE l cf a m).2 = 0) : MeGood m := by
  unfold methodE at h
  split at h
  · rename_i hh
    split at h
    · unfold headingE at hh
      split at hh
      · cases hh
      rename_i hf
      split at hh
      · rename_i hn
        split at hh
        · rename_i hs
          split at hh
          · cases hh
          rename_i hx
          have hx : (sgText m.sig).length ≤ 255 := by unfold sgText; omega
          unfold bodyE at h
          split at h
          · rename_i h2
            split at h
            · cases h
            · rename_i h3
              have c0 : m.code = [] := List.eq_nil_of_length_eq_zero (by omega)
              have d0 : m.hands = [] := List.eq_nil_of_length_eq_zero (by omega)
              exact ⟨by omega, method_32 hn, hs, hx, fun _ => ⟨by omega, by omega, c0, d0⟩, by omega, by omega, by rw [c0]; simp, by rw [d0]; simp, by rw [d0]; simp⟩
          · rename_i h2
            split at h
            · cases h
            rename_i h3
            split at h
            · cases h
            split at h
            · rename_i hc
              have hc := code_1024 hc
              unfold handlersE at h
              split at h
              · cases h
              · rename_i hm
                have := hands_zero m.hands 0 h
                exact ⟨by omega, method_32 hn, hs, hx, fun e => absurd e h2, by omega, by omega, hc, by omega, fun x hx => hd_good hc (this x hx)⟩
            · rename_i hc
              exact absurd h hc
        · rename_i hs
          exact absurd hh hs
      · cases hh
    · rename_i hf
      exact absurd h hf
  · rename_i hh
    exact absurd h hh

theorem orE_zero {a b : Bp} (h : (orE a b).2.2.2 = 0) : a.2.2.2 = 0 ∧ b.2.2.2 = 0 := by
  unfold orE at h
  split at h
  · rename_i ha
    exact ⟨ha, h⟩
  · rename_i ha
    exact absurd h ha

theorem members_zero {α : Type} {most : Nat} {g : List α → α → Int × Int} {l : List α} (h : (membersE most g l).2.2.2 = 0) : l.length ≤ most ∧ ∀ x ∈ l, ∃ a, (g a x).2 = 0 := by
  unfold membersE at h
  split at h
  · cases h
  · refine ⟨by omega, fun x hx => ?_⟩
    obtain ⟨j, hj, rfl⟩ := List.getElem_of_mem hx
    exact ⟨_, firstE_zero g l [] h j hj⟩

theorem cl_good {l : List En} {c : Cl} (h : (classE l c).2.2.2 = 0) : ClGood c := by
  unfold classE at h
  obtain ⟨h1, h⟩ := orE_zero h
  obtain ⟨h2, h⟩ := orE_zero h
  obtain ⟨h3, h4⟩ := orE_zero h
  obtain ⟨f1, f2⟩ := members_zero h2
  obtain ⟨d1, d2⟩ := members_zero h3
  obtain ⟨m1, m2⟩ := members_zero h4
  simp only at h1
  unfold headE at h1
  split at h1
  · cases h1
  rename_i hf
  split at h1
  · cases h1
  rename_i hn
  have n1 : nameOK c.name = true := by
    cases hb : nameOK c.name with
    | true => rfl
    | false => exact absurd (Or.inl hb) hn
  have n2 : nameOK c.super = true := by
    cases hb : nameOK c.super with
    | true => rfl
    | false => exact absurd (Or.inr hb) hn
  refine ⟨by omega, name_len n1, name_len n2, f1, d1, m1, fun s hs => ?_, fun f hf => ?_, fun m hm => ?_⟩
  · obtain ⟨a, ha⟩ := f2 s hs
    unfold at0 faceE at ha
    simp only at ha
    split at ha
    · rename_i hk
      exact name_len hk
    · cases ha
  · obtain ⟨a, ha⟩ := d2 f hf
    exact fd_good ha
  · obtain ⟨a, ha⟩ := m2 m hm
    exact me_good ha

theorem mo_good {m : Mo} (h : (checkM m).2.2.2 = 0) (hn : ∀ e ∈ m.pool, -9223372036854775808 ≤ e.2.2.1 ∧ e.2.2.1 ≤ 9223372036854775807) : MoGood m := by
  unfold checkM at h
  obtain ⟨h1, h2⟩ := orE_zero h
  simp only at h1
  unfold checkE at h1
  split at h1
  · cases h1
  rename_i hp
  have hw := firstWrong_zero m.pool 0 h1
  split at h2
  · cases h2
  rename_i hc
  obtain ⟨h3, h4⟩ := orE_zero h2
  have hcl := classesE_zero m.pool m.classes 0 h3
  exact ⟨by omega, by omega, fun e he => en_good (by omega) (hw e he) (hn e he), fun c hc => cl_good (hcl c hc)⟩

end Go.Proofs.YtildemmkhndhjaaGreatDoor
namespace Go.Proofs.YtildemmkhndhjaaGreatDoor
open Go.RowKit

def nmL (i : Nat) : List UInt8 := [78, UInt8.ofNat (97 + i / 26 % 26), UInt8.ofNat (97 + i % 26)]
def thrL : List UInt8 := [84, 104, 114, 111, 119, 97, 98, 108, 101]
def fM (nm : List UInt8) (hs : List Hd) : Me := ⟨4, nm, ([], true, (0, [])), 1, 0, [42], hs⟩
def clA (fs : List (List UInt8)) (ds : List Fd) (ms : List Me) : Cl := ⟨0, [65], objL, fs, ds, ms⟩
def clN (i : Nat) : Cl := ⟨0, nmL i, objL, [], [], []⟩
def fdN (i : Nat) : Fd := (0, nmL i, (0, []))
def meN (i : Nat) : Me := fM (nmL i) []
def hdN : Hd := (0, 1, 0, thrL)

/-- The module that is built. -/
def modK (k n : Nat) : Mo :=
  if k = 0 then ⟨[], (List.range n).map clN⟩ else if k = 1 then ⟨[], [clA ((List.range n).map nmL) [] []]⟩ else if k = 2 then ⟨[], [clA [] ((List.range n).map fdN) []]⟩
  else if k = 3 then ⟨[], [clA [] [] ((List.range n).map meN)]⟩ else ⟨[], [clA [] [] [fM [102] (List.replicate n hdN)]]⟩

def mostK (k n : Nat) : Nat := if n = 0 then 64 else if k = 1 then 16 else if k = 4 then 32 else 64

def limOK (k n : Nat) : Bool := decide (checkM (modK k n) = if mostK k n < n then (0, 0, 0, 4) else ok4)
def lenOK (k n : Nat) : Bool := decide ((encM (modK k n)).length ≤ 262144)

set_option maxRecDepth 100000 in
theorem lim0 : (List.range 70).all (limOK 0) = true := by kernel_rfl
set_option maxRecDepth 100000 in
theorem lim1 : (List.range 70).all (limOK 1) = true := by kernel_rfl
set_option maxRecDepth 100000 in
theorem lim2 : (List.range 70).all (limOK 2) = true := by kernel_rfl
set_option maxRecDepth 100000 in
theorem lim4 : (List.range 70).all (limOK 4) = true := by kernel_rfl
set_option maxRecDepth 100000 in
theorem lim3 : (List.range 70).all (limOK 3) = true := by kernel_rfl
set_option maxRecDepth 100000 in
theorem len0 : (List.range 70).all (lenOK 0) = true := by kernel_rfl
set_option maxRecDepth 100000 in
theorem len1 : (List.range 70).all (lenOK 1) = true := by kernel_rfl
set_option maxRecDepth 100000 in
theorem len2 : (List.range 70).all (lenOK 2) = true := by kernel_rfl
set_option maxRecDepth 100000 in
theorem len3 : (List.range 70).all (lenOK 3) = true := by kernel_rfl
set_option maxRecDepth 100000 in
theorem len4 : (List.range 70).all (lenOK 4) = true := by kernel_rfl

theorem lim_all (k n : Nat) (hk : k < 5) (hn : n < 70) : checkM (modK k n) = if mostK k n < n then (0, 0, 0, 4) else ok4 := by
  have h : limOK k n = true := by
    have hm := List.mem_range.2 hn
    match k, hk with
    | 0, _ => exact List.all_eq_true.1 lim0 n hm
    | 1, _ => exact List.all_eq_true.1 lim1 n hm
    | 2, _ => exact List.all_eq_true.1 lim2 n hm
    | 3, _ => exact List.all_eq_true.1 lim3 n hm
    | 4, _ => exact List.all_eq_true.1 lim4 n hm
  exact of_decide_eq_true h

theorem len_all (k n : Nat) (hk : k < 5) (hn : n < 70) : (encM (modK k n)).length ≤ 262144 := by
  have h : lenOK k n = true := by
    have hm := List.mem_range.2 hn
    match k, hk with
    | 0, _ => exact List.all_eq_true.1 len0 n hm
    | 1, _ => exact List.all_eq_true.1 len1 n hm
    | 2, _ => exact List.all_eq_true.1 len2 n hm
    | 3, _ => exact List.all_eq_true.1 len3 n hm
    | 4, _ => exact List.all_eq_true.1 len4 n hm
  exact of_decide_eq_true h

theorem pool_nil (k n : Nat) : (modK k n).pool = [] := by
  unfold modK
  split
  · rfl
  · split
    · rfl
    · split
      · rfl
      · split
        · rfl
        · rfl

theorem lim_many (k n : Nat) (hk : k < 5) (hn : n < 70) (h : mostK k n < n) : checkM (modK k n) = (0, 0, 0, 4) ∧ writeM (modK k n) = ([], 0, 0, 0, 4) := by
  have e := lim_all k n hk hn
  rw [if_pos h] at e
  refine ⟨e, ?_⟩
  unfold writeM
  rw [e]
  rfl

theorem lim_right (k n : Nat) (hk : k < 5) (hn : n < 70) (h : ¬ mostK k n < n) : checkM (modK k n) = ok4 ∧ writeM (modK k n) = (encM (modK k n), ok4) ∧ readM (encM (modK k n)) = (modK k n, ok4) := by
  have e := lim_all k n hk hn
  rw [if_neg h] at e
  have l := len_all k n hk hn
  have g : MoGood (modK k n) := mo_good (by rw [e]; rfl) (by rw [pool_nil]; simp)
  refine ⟨e, ?_, ?_⟩
  · unfold writeM
    rw [e, if_pos (by rfl), if_neg (by omega)]
  · have hm := module_more g []
    rw [if_pos rfl, List.append_nil] at hm
    unfold readM
    rw [if_neg (by omega), hm]
    simp only
    rw [e, if_pos (by rfl)]

end Go.Proofs.YtildemmkhndhjaaGreatDoor
namespace Go.Proofs.YtildemmkhndhjaaGreatDoor
open Go.RowKit

/-- A slice that is read: n elements with these cells, in a block that obeys P. -/
structure Sl (w : World) (P : Nat → Prop) (ao : Option Addr) (n cap : Nat) (cs : List Value) (d : Nat) : Prop where
  rs : RS w ao cs d
  ok : cs ≠ [] → P d
  le : n ≤ cap
  max : cap ≤ 9223372036854775807
  no : ao = none → cap = 0

def SlV (w : World) (P : Nat → Prop) (v : Value) (n : Nat) (cs : List Value) : Prop := ∃ ao cap d, v = .slice ao n cap ∧ Sl w P ao n cap cs d

theorem Sl.only {w w' : World} {P : Nat → Prop} {ao : Option Addr} {n cap : Nat} {cs : List Value} {d : Nat} {S : List Nat} (h : Sl w P ao n cap cs d) (ho : Only S w w') (hS : ∀ d, P d → d ∉ S) : Sl w' P ao n cap cs d :=
  ⟨h.rs.only ho fun hn => hS d (h.ok hn), h.ok, h.le, h.max, h.no⟩

theorem Sl.mono {w : World} {P Q : Nat → Prop} {ao : Option Addr} {n cap : Nat} {cs : List Value} {d : Nat} (h : Sl w P ao n cap cs d) (hQ : ∀ d, P d → d < w.heap.size → Q d) : Sl w Q ao n cap cs d :=
  ⟨h.rs, fun hn => hQ d (h.ok hn) (h.rs.lt hn), h.le, h.max, h.no⟩

theorem SlV.only {w w' : World} {P : Nat → Prop} {v : Value} {n : Nat} {cs : List Value} {S : List Nat} (h : SlV w P v n cs) (ho : Only S w w') (hS : ∀ d, P d → d ∉ S) : SlV w' P v n cs := by
  obtain ⟨ao, cap, d, hv, h⟩ := h
  exact ⟨ao, cap, d, hv, h.only ho hS⟩

theorem SlV.mono {w : World} {P Q : Nat → Prop} {v : Value} {n : Nat} {cs : List Value} (h : SlV w P v n cs) (hQ : ∀ d, P d → d < w.heap.size → Q d) : SlV w Q v n cs := by
  obtain ⟨ao, cap, d, hv, h⟩ := h
  exact ⟨ao, cap, d, hv, h.mono hQ⟩

theorem SlV.nil (w : World) (P : Nat → Prop) : SlV w P (.slice none 0 0) 0 [] := ⟨none, 0, 0, rfl, RS.nil _ _ _, fun h => absurd rfl h, Nat.le_refl _, by decide, fun _ => rfl⟩

theorem SlV.one {w : World} {P : Nat → Prop} {v : Value} {n : Nat} {cs : List Value} (h : SlV w P v n cs) : v.oneCell' = true := by
  obtain ⟨ao, cap, d, rfl, _⟩ := h
  rfl

/-- Elements of k cells each, one behind the other. -/
structure Els {α : Type} (k : Nat) (A : List Value → α → Prop) (cs : List Value) (l : List α) : Prop where
  len : cs.length = l.length * k
  el : ∀ j (h : j < l.length), A ((cs.drop (j * k)).take k) l[j]

theorem Els.nil {α : Type} (k : Nat) (A : List Value → α → Prop) : Els k A [] ([] : List α) := ⟨by simp, fun j h => by simp at h⟩

theorem Els.snoc {α : Type} {k : Nat} {A : List Value → α → Prop} {cs c : List Value} {l : List α} {x : α} (h : Els k A cs l) (hc : c.length = k) (hx : A c x) : Els k A (cs ++ c) (l ++ [x]) := by
  refine ⟨by rw [List.length_append, List.length_append, List.length_singleton, h.len, hc, Nat.add_mul, Nat.one_mul], fun j hj => ?_⟩
  by_cases e : j < l.length
  · rw [List.getElem_append_left e]
    have := h.el j e
    have h1 : (j + 1) * k ≤ l.length * k := Nat.mul_le_mul_right k e
    rw [Nat.add_mul, Nat.one_mul] at h1
    have hl := h.len
    rw [List.drop_append_of_le_length (by omega), List.take_append_of_le_length (by rw [List.length_drop]; omega)]
    exact this
  · have : j = l.length := by simp at hj; omega
    subst this
    rw [List.getElem_append_right (Nat.le_refl _)]
    simp only [Nat.sub_self, List.getElem_cons_zero]
    rw [← h.len, List.drop_left, List.take_of_length_le (by omega)]
    exact hx

theorem Els.imp {α : Type} {k : Nat} {A B : List Value → α → Prop} {cs : List Value} {l : List α} (h : Els k A cs l) (hAB : ∀ c x, x ∈ l → A c x → B c x) : Els k B cs l :=
  ⟨h.len, fun j hj => hAB _ _ (List.getElem_mem hj) (h.el j hj)⟩

theorem Els.take {α : Type} {k : Nat} {A : List Value → α → Prop} {cs : List Value} {l : List α} (h : Els k A cs l) (n : Nat) (hn : n ≤ l.length) : Els k A (cs.take (n * k)) (l.take n) := by
  have h1 : n * k ≤ l.length * k := Nat.mul_le_mul_right k hn
  have hl := h.len
  refine ⟨by rw [List.length_take, List.length_take]; rw [Nat.min_eq_left hn]; omega, fun j hj => ?_⟩
  have hj' : j < n := by simp at hj; omega
  have h2 : (j + 1) * k ≤ n * k := Nat.mul_le_mul_right k hj'
  rw [Nat.add_mul, Nat.one_mul] at h2
  have := h.el j (by omega)
  rw [List.drop_take, List.take_take, Nat.min_eq_left (by omega), List.getElem_take]
  exact this

/-- A list of cells from those of its elements. -/
theorem els_flat {α : Type} {k : Nat} (f : α → List Value) (hf : ∀ x, (f x).length = k) : ∀ l : List α, Els k (fun c x => c = f x) (l.flatMap f) l := by
  intro l
  induction l with
  | nil => exact Els.nil _ _
  | cons x l ih =>
    refine ⟨by rw [List.flatMap_cons, List.length_append, hf, ih.len, List.length_cons, Nat.add_mul]; omega, fun j hj => ?_⟩
    cases j with
    | zero =>
      rw [List.flatMap_cons, Nat.zero_mul, List.drop_zero, ← hf x, List.take_left]
      rfl
    | succ j =>
      have := ih.el j (by simpa using hj)
      rw [List.getElem_cons_succ, ← this, List.flatMap_cons, Nat.add_mul, Nat.one_mul, Nat.add_comm, ← hf x, ← List.drop_drop, List.drop_left]

/-- The cells of the j-th element. -/
theorem RS.piece {w : World} {ao : Option Addr} {cs : List Value} {d : Nat} (h : RS w ao cs d) (k j : Nat) {c : List Value} (hc : (cs.drop (j * k)).take k = c) (hn : c ≠ []) :
    ∃ off, ao = some ⟨d, off, none⟩ ∧ ∀ i u, c[i]? = some u → w.cell? ⟨d, off + j * k + i, none⟩ = some u := by
  rcases h with h | ⟨off, ha, hcell⟩
  · subst h
    simp at hc
    exact absurd hc hn
  · refine ⟨off, ha, fun i u hu => ?_⟩
    rw [← hc, List.getElem?_take] at hu
    split at hu
    · rw [List.getElem?_drop] at hu
      rw [Nat.add_assoc]
      exact hcell _ u hu
    · cases hu

def scC (s : List UInt8) : List Value := [.string (str s)]
def fdC (f : Fd) : List Value := [.int .i64 f.1, .string (str f.2.1), .int .i64 f.2.2.1, .string (str f.2.2.2)]
def hdC (h : Hd) : List Value := [.int .i64 h.1, .int .i64 h.2.1, .int .i64 h.2.2.1, .string (str h.2.2.2)]
def fdV (f : Fd) : Value := .agg #[.int .i64 f.1, .string (str f.2.1), .int .i64 f.2.2.1, .string (str f.2.2.2)]
def hdV (h : Hd) : Value := .agg #[.int .i64 h.1, .int .i64 h.2.1, .int .i64 h.2.2.1, .string (str h.2.2.2)]
def scs (l : List (List UInt8)) : List Value := l.flatMap scC
def fcs (l : List Fd) : List Value := l.flatMap fdC
def hcs (l : List Hd) : List Value := l.flatMap hdC
def meC (vp vc vh : Value) (m : Me) : List Value := [.int .i64 m.flags, .string (str m.name), vp, .bool m.sig.2.1, .int .i64 m.sig.2.2.1, .string (str m.sig.2.2.2), .int .i64 m.stack, .int .i64 m.locals, vc, vh]
def clC (vf vd vm : Value) (c : Cl) : List Value := [.int .i64 c.flags, .string (str c.name), .string (str c.super), vf, vd, vm]

/-- How a slice of elements of that type, of so many cells, stands in memory: its length, its cells. -/
abbrev Rp := TypeId → Nat → Value → Nat → List Value → Prop
/-- It is read. -/
def SlR (w : World) (P : Nat → Prop) : Rp := fun _ _ v n cs => SlV w P v n cs
/-- It is the call's own. -/
def OwR (w : World) (B : Nat) (P : Nat → Prop) : Rp := fun e k v n cs => w.ownsRow B e k v n cs ∧ ∀ g, v.ownBlock = some g → P g

structure MeAt (R : Rp) (vp vc vh : Value) (m : Me) : Prop where
  params : R 35 2 vp m.sig.1.length (tcs m.sig.1)
  code : R 5 1 vc m.code.length (bcs m.code)
  hands : R 46 4 vh m.hands.length (hcs m.hands)

def MeC (R : Rp) (cs : List Value) (m : Me) : Prop := ∃ vp vc vh, cs = meC vp vc vh m ∧ MeAt R vp vc vh m

structure ClAt (R : Rp) (vf vd vm : Value) (c : Cl) : Prop where
  faces : R 9 1 vf c.faces.length (scs c.faces)
  fields : R 44 4 vd c.fields.length (fcs c.fields)
  methods : ∃ mcs, R 41 10 vm c.methods.length mcs ∧ Els 10 (MeC R) mcs c.methods

def ClC (R : Rp) (cs : List Value) (c : Cl) : Prop := ∃ vf vd vm, cs = clC vf vd vm c ∧ ClAt R vf vd vm c

structure MoAt (R : Rp) (vp vc : Value) (m : Mo) : Prop where
  pool : R 90 6 vp m.pool.length (ecs m.pool)
  classes : ∃ ccs, R 28 6 vc m.classes.length ccs ∧ Els 6 (ClC R) ccs m.classes

theorem MeAt.imp {R R' : Rp} {vp vc vh : Value} {m : Me} (h : MeAt R vp vc vh m) (hR : ∀ e k v n cs, R e k v n cs → R' e k v n cs) : MeAt R' vp vc vh m :=
  ⟨hR _ _ _ _ _ h.params, hR _ _ _ _ _ h.code, hR _ _ _ _ _ h.hands⟩

theorem MeC.imp {R R' : Rp} {cs : List Value} {m : Me} (h : MeC R cs m) (hR : ∀ e k v n cs, R e k v n cs → R' e k v n cs) : MeC R' cs m := by
  obtain ⟨a, b, c, e, h⟩ := h
  exact ⟨a, b, c, e, h.imp hR⟩

theorem ClAt.imp {R R' : Rp} {vf vd vm : Value} {c : Cl} (h : ClAt R vf vd vm c) (hR : ∀ e k v n cs, R e k v n cs → R' e k v n cs) : ClAt R' vf vd vm c := by
  obtain ⟨h1, h2, mcs, h3, h4⟩ := h
  exact ⟨hR _ _ _ _ _ h1, hR _ _ _ _ _ h2, mcs, hR _ _ _ _ _ h3, h4.imp fun _ _ _ h => h.imp hR⟩

theorem ClC.imp {R R' : Rp} {cs : List Value} {m : Cl} (h : ClC R cs m) (hR : ∀ e k v n cs, R e k v n cs → R' e k v n cs) : ClC R' cs m := by
  obtain ⟨a, b, c, e, h⟩ := h
  exact ⟨a, b, c, e, h.imp hR⟩

theorem MoAt.imp {R R' : Rp} {vp vc : Value} {m : Mo} (h : MoAt R vp vc m) (hR : ∀ e k v n cs, R e k v n cs → R' e k v n cs) : MoAt R' vp vc m := by
  obtain ⟨h1, ccs, h3, h4⟩ := h
  exact ⟨hR _ _ _ _ _ h1, ccs, hR _ _ _ _ _ h3, h4.imp fun _ _ _ h => h.imp hR⟩

theorem slr_only {w w' : World} {P : Nat → Prop} {S : List Nat} (ho : Only S w w') (hS : ∀ d, P d → d ∉ S) : ∀ e k v n cs, SlR w P e k v n cs → SlR w' P e k v n cs := fun _ _ _ _ _ h => SlV.only h ho hS
theorem slr_mono {w : World} {P Q : Nat → Prop} (hQ : ∀ d, P d → d < w.heap.size → Q d) : ∀ e k v n cs, SlR w P e k v n cs → SlR w Q e k v n cs := fun _ _ _ _ _ h => SlV.mono h hQ

theorem MoAt.only {w w' : World} {P : Nat → Prop} {vp vc : Value} {m : Mo} {S : List Nat} (h : MoAt (SlR w P) vp vc m) (ho : Only S w w') (hS : ∀ d, P d → d ∉ S) : MoAt (SlR w' P) vp vc m := h.imp (slr_only ho hS)
theorem MoAt.mono {w : World} {P Q : Nat → Prop} {vp vc : Value} {m : Mo} (h : MoAt (SlR w P) vp vc m) (hQ : ∀ d, P d → d < w.heap.size → Q d) : MoAt (SlR w Q) vp vc m := h.imp (slr_mono hQ)
theorem MoAt.only0 {w w' : World} {P : Nat → Prop} {vp vc : Value} {m : Mo} (h : MoAt (SlR w P) vp vc m) (ho : Only [] w w') : MoAt (SlR w' P) vp vc m := h.only ho (by simp)
theorem ClAt.only {w w' : World} {P : Nat → Prop} {vf vd vm : Value} {c : Cl} {S : List Nat} (h : ClAt (SlR w P) vf vd vm c) (ho : Only S w w') (hS : ∀ d, P d → d ∉ S) : ClAt (SlR w' P) vf vd vm c := h.imp (slr_only ho hS)
theorem ClAt.only0 {w w' : World} {P : Nat → Prop} {vf vd vm : Value} {c : Cl} (h : ClAt (SlR w P) vf vd vm c) (ho : Only [] w w') : ClAt (SlR w' P) vf vd vm c := h.only ho (by simp)
theorem MeAt.only {w w' : World} {P : Nat → Prop} {vp vc vh : Value} {m : Me} {S : List Nat} (h : MeAt (SlR w P) vp vc vh m) (ho : Only S w w') (hS : ∀ d, P d → d ∉ S) : MeAt (SlR w' P) vp vc vh m := h.imp (slr_only ho hS)
theorem MeAt.only0 {w w' : World} {P : Nat → Prop} {vp vc vh : Value} {m : Me} (h : MeAt (SlR w P) vp vc vh m) (ho : Only [] w w') : MeAt (SlR w' P) vp vc vh m := h.only ho (by simp)

theorem owr_slice {w : World} {B : Nat} {P : Nat → Prop} {e k n : Nat} {v : Value} {cs : List Value} (h : OwR w B P e k v n cs) : SlR w P e k v n cs := by
  obtain ⟨ao, cap, rfl⟩ := rows_slice h.1
  obtain ⟨q1, q2, q3, q4, q5⟩ := RS.of_owns h.1
  refine ⟨ao, cap, _, rfl, q1, fun hn => ?_, q2, by simp only [maxLen] at q3; omega, q4⟩
  cases ao with
  | none => exact absurd q1.none_nil hn
  | some a => exact h.2 a.block rfl

theorem owr_only {w w' : World} {B : Nat} {P : Nat → Prop} {S : List Nat} (ho : Only S w w') (hS : ∀ d, P d → d ∉ S) : ∀ e k v n cs, OwR w B P e k v n cs → OwR w' B P e k v n cs :=
  fun _ _ _ _ _ h => ⟨rows_only h.1 ho fun g hg => hS g (h.2 g hg), h.2⟩

theorem owr_mono {w : World} {B C : Nat} {P Q : Nat → Prop} (hC : C ≤ B) (hQ : ∀ d, P d → B ≤ d → d < w.heap.size → Q d) : ∀ e k v n cs, OwR w B P e k v n cs → OwR w C Q e k v n cs :=
  fun _ _ _ _ _ h => ⟨rows_mono h.1 hC, fun g hg => hQ g (h.2 g hg) (h.1.lt g hg).1 (h.1.lt g hg).2⟩

theorem TS.of_rs {w : World} {ao : Option Addr} {l : List Ty} {d : Nat} (h : RS w ao (tcs l) d) : TS w ao l d := by
  rcases h with h | ⟨off, ha, hc⟩
  · left
    cases l with
    | nil => rfl
    | cons t l => simp [tcs] at h
  · refine .inr ⟨off, ha, fun j hj => ?_⟩
    obtain ⟨g0, g1⟩ := tcs_get l j hj
    exact ⟨hc _ _ g0, by rw [Nat.add_assoc]; exact hc _ _ g1⟩

theorem ES.of_rs {w : World} {ao : Option Addr} {l : List En} {d : Nat} (h : RS w ao (ecs l) d) : ES w ao l d := by
  rcases h with h | ⟨off, ha, hc⟩
  · left
    cases l with
    | nil => rfl
    | cons t l => simp [ecs] at h
  · refine .inr ⟨off, ha, fun j hj => ?_⟩
    obtain ⟨g0, g1, g2, g3, g4, g5⟩ := ecs_get l j hj
    exact ⟨hc _ _ g0, by rw [Nat.add_assoc]; exact hc _ _ g1, by rw [Nat.add_assoc]; exact hc _ _ g2, by rw [Nat.add_assoc]; exact hc _ _ g3, by rw [Nat.add_assoc]; exact hc _ _ g4, by rw [Nat.add_assoc]; exact hc _ _ g5⟩

/-- No text, no list of a module is longer than a machine's numbers say. -/
structure MeFit (m : Me) : Prop where
  name : m.name.length ≤ 9223372036854775807
  params : ∀ t ∈ m.sig.1, t.2.length ≤ 9223372036854775807
  res : m.sig.2.2.2.length ≤ 9223372036854775807
  hands : ∀ h ∈ m.hands, h.2.2.2.length ≤ 9223372036854775807

structure ClFit (c : Cl) : Prop where
  name : c.name.length ≤ 9223372036854775807
  super : c.super.length ≤ 9223372036854775807
  faces : ∀ s ∈ c.faces, s.length ≤ 9223372036854775807
  fields : ∀ f ∈ c.fields, f.2.1.length ≤ 9223372036854775807 ∧ f.2.2.2.length ≤ 9223372036854775807
  methods : ∀ m ∈ c.methods, MeFit m

structure MoFit (m : Mo) : Prop where
  pool : ∀ e ∈ m.pool, e.2.1.length ≤ 9223372036854775807
  classes : ∀ c ∈ m.classes, ClFit c

end Go.Proofs.YtildemmkhndhjaaGreatDoor
namespace Go.Proofs.YtildemmkhndhjaaGreatDoor
open Go.RowKit

theorem neq_hd (a b : Hd) (w : World) : (binOp .neq 46 (hdV a) (hdV b)).run Tryz.prog w = .ok (.bool (!decide (a = b))) w := by
  obtain ⟨k, t, n, x⟩ := a
  obtain ⟨k', t', n', x'⟩ := b
  have hS : Tryz.prog.underlying 46 = some (.struct (Tryz.prog.fieldsOf 46)) := by kernel_rfl
  have hp : Tryz.prog.stoodInHeld 46 = false := by kernel_rfl
  simp only [hdV]
  rw [run_neq_struct, show (10000 : Nat) = 9999 + 1 from rfl, run_equalIn_agg w 9999 46 _ _ hS hp]
  simp only [Program.fieldsOf, Tryz.underlying46]
  go_simp
  simp only [str_toList]
  by_cases h1 : k = k' <;> by_cases h2 : t = t' <;> by_cases h3 : n = n' <;> by_cases h4 : x = x' <;> simp [h1, h2, h3, h4]

theorem equalIn_type (m : Nat) (d d' : Int) (n n' : List UInt8) (w : World) : (Op.equalIn (m + 2) 35 (.agg #[.int .i64 d, .string (str n)]) (.agg #[.int .i64 d', .string (str n')])).run Tryz.prog w = .ok (decide (((d, n) : Ty) = (d', n'))) w := by
  have hS : Tryz.prog.underlying 35 = some (.struct (Tryz.prog.fieldsOf 35)) := by kernel_rfl
  have hp : Tryz.prog.stoodInHeld 35 = false := by kernel_rfl
  rw [run_equalIn_agg w (m + 1) 35 _ _ hS hp]
  simp only [Program.fieldsOf, Tryz.underlying35]
  go_simp
  simp only [str_toList]
  by_cases h1 : d = d' <;> by_cases h2 : n = n' <;> simp [h1, h2]

theorem equalIn_fd (m : Nat) (a b : Fd) (w : World) : (Op.equalIn (m + 3) 44 (fdV a) (fdV b)).run Tryz.prog w = .ok (decide (a = b)) w := by
  obtain ⟨k, t, n, x⟩ := a
  obtain ⟨k', t', n', x'⟩ := b
  have hS : Tryz.prog.underlying 44 = some (.struct (Tryz.prog.fieldsOf 44)) := by kernel_rfl
  have hp : Tryz.prog.stoodInHeld 44 = false := by kernel_rfl
  have hT := equalIn_type m n n' x x'
  simp only [fdV]
  rw [run_equalIn_agg w (m + 2) 44 _ _ hS hp]
  simp only [Program.fieldsOf, Tryz.underlying44]
  go_simp
  simp only [str_toList]
  by_cases h1 : k = k' <;> by_cases h2 : t = t' <;> by_cases h3 : n = n' <;> by_cases h4 : x = x' <;> simp [h1, h2, h3, h4]

theorem neq_fd (a b : Fd) (w : World) : (binOp .neq 44 (fdV a) (fdV b)).run Tryz.prog w = .ok (.bool (!decide (a = b))) w := by
  have h := equalIn_fd 9997 a b w
  unfold fdV at h ⊢
  rw [run_neq_struct, h]
  rfl

/-- Bytes as a text. -/
theorem RS.conv {w : World} {ao : Option Addr} {bs : List UInt8} {d : Nat} (h : RS w ao (bcs bs) d) (cap : Nat) : (convert 38 9 (.slice ao bs.length cap)).run Tryz.prog w = .ok (.string (str bs)) w := by
  cases ao with
  | none =>
    have h0 := h.none_nil
    have : bs = [] := by simpa [bcs] using h0
    subst this
    simp [convert, run_underlying Tryz.underlying38, run_underlying Tryz.underlying9, go_sem, str, Conv.bytesToString]
    rfl
  | some a =>
    exact run_convert_bytes_back w 38 9 5 a cap bs Tryz.underlying38 Tryz.underlying5 Tryz.underlying9 (fun j hj => h.cells j _ (bcs_get bs j hj))

end Go.Proofs.YtildemmkhndhjaaGreatDoor
namespace Go.Proofs.YtildemmkhndhjaaGreatDoor
open Go.RowKit

theorem within_any (a n : Int) (hn : 0 < n ∧ n < 1000) (w : World) : Calls Tryz.prog 7 #[.int .i64 a, .int .i64 n] w fun e w' => e = .returned (.int .i64 (a % n)) ∧ w' = w := by
  have hz : ¬ (n = 0) := by omega
  have hm : ¬ (n = -1) := by omega
  have b1 := Int.tmod_lt_of_pos a hn.1
  have b2 : -n < a.tmod n := Int.lt_tmod_of_pos a hn.1
  by_cases h : a.tmod n < 0
  · have e : a % n = a.tmod n + n := by
      have q := @Int.emod_eq_tmod a n
      have e0 := Int.emod_nonneg a (by omega : n ≠ 0)
      have e1 : (n.natAbs : Int) = n := Int.natAbs_of_nonneg (by omega)
      split at q
      · omega
      · omega
    go_enter Tryz.func7, Tryz.ntmps7
    go_wp2
    go_ret
    first
      | exact ⟨rfl, rfl⟩
      | (rw [e]; exact ⟨rfl, rfl⟩)
  · have e : a % n = a.tmod n := by
      have q := @Int.emod_eq_tmod a n
      have e0 := Int.emod_lt_of_pos a hn.1
      have e1 : (n.natAbs : Int) = n := Int.natAbs_of_nonneg (by omega)
      split at q
      · omega
      · omega
    go_enter Tryz.func7, Tryz.ntmps7
    go_wp2
    go_ret
    first
      | exact ⟨rfl, rfl⟩
      | (rw [e]; exact ⟨rfl, rfl⟩)

theorem cat_one (c : UInt8) (l : List UInt8) : (⟨#[c]⟩ : ByteArray) ++ str l = str (c :: l) := by
  apply ByteArray.ext
  rw [ByteArray.data_append]
  simp [str]

set_option maxHeartbeats 1000000 in
set_option maxRecDepth 100000 in
theorem lname_any (i : Nat) (hi : i < 100) (w : World) : Calls Tryz.prog 8 #[.int .i64 (i : Int)] w fun e w' => e = .returned (.string (str (nmL i))) ∧ Only [] w w' := by
  obtain ⟨q, hq⟩ : ∃ q, q = i / 26 := ⟨_, rfl⟩
  obtain ⟨r, hr⟩ : ∃ r, r = i % 26 := ⟨_, rfl⟩
  have e1 : ((i : Int).tdiv 26) = (q : Int) := by rw [hq]; rfl
  have h1 : q < 4 := by omega
  have h2 : r < 26 := by omega
  have e2 : ((q : Int).tmod 26) = (q : Int) := Int.tmod_eq_of_lt (by omega) (by omega)
  have e3 : ((i : Int).tmod 26) = (r : Int) := by rw [hr]; rfl
  have hnm : Hid (nmL i = [78, UInt8.ofNat (97 + q), UInt8.ofNat (97 + r)]) := by
    unfold Hid nmL
    rw [← hq, ← hr, Nat.mod_eq_of_lt (by omega : q < 26)]
  clear hq hr
  have hb : bcs [UInt8.ofNat (97 + q), UInt8.ofNat (97 + r)] = [.int .u8 (97 + (q : Int)), .int .u8 (97 + (r : Int))] := by
    have a1 : (UInt8.ofNat (97 + q)).toNat = 97 + q := by rw [UInt8.toNat_ofNat']; omega
    have a2 : (UInt8.ofNat (97 + r)).toNat = 97 + r := by rw [UInt8.toNat_ofNat']; omega
    simp only [bcs, List.map_cons, List.map_nil, a1, a2]
    simp
  have kc : (convert 38 9 (.slice (some ⟨w.heap.size, 0, none⟩) 2 2)).run Tryz.prog (w.alloc (.cells #[.int .u8 (97 + (q : Int)), .int .u8 (97 + (r : Int))] 5)) = .ok (.string (str [UInt8.ofNat (97 + q), UInt8.ofNat (97 + r)])) (w.alloc (.cells #[.int .u8 (97 + (q : Int)), .int .u8 (97 + (r : Int))] 5)) :=
    RS.conv (bs := [UInt8.ofNat (97 + q), UInt8.ofNat (97 + r)]) (d := w.heap.size) (by rw [hb]; exact RS.fresh w #[.int .u8 (97 + (q : Int)), .int .u8 (97 + (r : Int))] 5) 2
  clear hb
  go_enter Tryz.func8, Tryz.ntmps8
  go_wp2
  go_ret
  refine ⟨?_, (Only.refl [] w).alloc _⟩
  rw [hnm.out, UInt8.ofNat_add, UInt8.ofNat_add, ← cat_one]
  rfl

end Go.Proofs.YtildemmkhndhjaaGreatDoor
