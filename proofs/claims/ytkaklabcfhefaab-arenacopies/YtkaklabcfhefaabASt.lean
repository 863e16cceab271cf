/-
  An arena in memory. No conditions.
-/
import Derived.Test.YtkaklabcfhefaabALay
import Derived.Test.YtkaklabcfhefaabAApp
namespace Go.Proofs.Ytkaklabcfhefaab
open Go.RowKit

/-- The blocks that obey N have not turned. -/
def Kep (N : Nat → Prop) (w w' : World) : Prop := ∃ S, Only S w w' ∧ ∀ x ∈ S, ¬ N x

theorem Kep.refl (N : Nat → Prop) (w : World) : Kep N w w := ⟨[], Only.refl _ _, by simp⟩
theorem Kep.of {N : Nat → Prop} {S : List Nat} {w w' : World} (h : Only S w w') (hS : ∀ x ∈ S, ¬ N x) : Kep N w w' := ⟨S, h, hS⟩
theorem Kep.of0 {N : Nat → Prop} {w w' : World} (h : Only [] w w') : Kep N w w' := ⟨[], h, by simp⟩
theorem Kep.trans {N : Nat → Prop} {a b c : World} (h : Kep N a b) (k : Kep N b c) : Kep N a c := by
  obtain ⟨S, h1, h2⟩ := h
  obtain ⟨T, k1, k2⟩ := k
  refine ⟨S ++ T, (h1.mono fun x hx => .inl (by simp [hx])).trans k1 (fun x hx => .inl (by simp [hx])), fun x hx => ?_⟩
  simp at hx
  rcases hx with hx | hx
  · exact h2 x hx
  · exact k2 x hx
theorem Kep.mono {N M : Nat → Prop} {w w' : World} (h : Kep N w w') (hM : ∀ b, M b → N b) : Kep M w w' := by
  obtain ⟨S, h1, h2⟩ := h
  exact ⟨S, h1, fun x hx hm => h2 x hx (hM x hm)⟩
theorem Kep.size {N : Nat → Prop} {w w' : World} (h : Kep N w w') : w.heap.size ≤ w'.heap.size := by
  obtain ⟨S, h1, _⟩ := h
  exact h1.size
theorem Kep.below {N : Nat → Prop} {B : Nat} {w w' : World} (h : Kep N w w') (hB : B ≤ w.heap.size) (hN : ∀ b, b < B → N b) : Below B w w' := by
  obtain ⟨S, h1, h2⟩ := h
  exact h1.below hB fun x hx => by
    rcases Nat.lt_or_ge x B with c | c
    · exact absurd (hN x c) (h2 x hx)
    · exact c
theorem RS.kep {N : Nat → Prop} {w w' : World} {ao : Option Addr} {cs : List Value} {d : Nat} (h : RS w ao cs d) (hk : Kep N w w') (hd : cs ≠ [] → N d) : RS w' ao cs d := by
  obtain ⟨S, h1, h2⟩ := hk
  exact h.only h1 fun hn hm => h2 d hm (hd hn)
theorem Kep.cell {N : Nat → Prop} {w w' : World} (h : Kep N w w') {p : Addr} {u : Value} (hc : w.cell? p = some u) (hN : N p.block) : w'.cell? p = some u := by
  obtain ⟨S, h1, h2⟩ := h
  rw [h1.cell (World.block_lt_of_cell? w _ hc) fun hm => h2 _ hm hN]
  exact hc
theorem Kep.block {N : Nat → Prop} {w w' : World} (h : Kep N w w') {b : Nat} (hb : b < w.heap.size) (hN : N b) : w'.heap[b]? = w.heap[b]? := by
  obtain ⟨S, h1, h2⟩ := h
  exact h1.block b hb fun hm => h2 _ hm hN

theorem only_drewN (w : World) (n : Nat) : Only [] w (w.drewN n) := ⟨rfl, rfl, rfl, Nat.le_refl _, fun _ _ _ => rfl⟩

/-- What an arena holds: how much a half takes, the numbers and heads of the used half and of the half ahead, what was copied. -/
structure SW where
  m : Nat
  ws : List Int
  hs : List Bool
  aw : List Int
  ah : List Bool
  mv : Option (List (Int × Int))

structure OkW (s : SW) : Prop where
  m1 : s.m ≤ 1048576
  fit : 8 * s.ws.length ≤ s.m
  afit : 8 * s.aw.length ≤ s.m
  same : s.hs.length = s.ws.length
  asame : s.ah.length = s.aw.length
  all : ∀ v ∈ s.ws, i64 v
  aall : ∀ v ∈ s.aw, i64 v

def arB (m : Nat) (v1 v2 v4 v5 v6 : Value) : Array Value := #[.int .i64 (m : Int), v1, v2, .int .i64 (m : Int), v4, v5, v6]

/-- A map of numbers: its entries in their order. -/
def MapV (w : World) (v : Value) : Option (List (Int × Int)) → Prop
  | none => v = .map none
  | some L => ∃ q es clock, v = .map (some q) ∧ w.heap[q]? = some (.map es clock) ∧ es.toList.map (fun e => (e.key, e.val)) = L.map (fun p => (Value.int .i64 p.1, Value.int .i64 p.2)) ∧ (L.map (·.1)).Nodup ∧ ∀ p ∈ L, i64 p.1

structure ArV (w : World) (N : Nat → Prop) (a : Nat) (s : SW) (v1 v2 v4 v5 v6 : Value) : Prop where
  blk : w.heap[a]? = some (.cells (arB s.m v1 v2 v4 v5 v6) 34 (0, 0))
  r1 : w.ownsRow 0 5 1 v1 (8 * s.ws.length) (bcs (encWs s.ws))
  r2 : w.ownsRow 0 4 1 v2 s.hs.length (lcs s.hs)
  r4 : w.ownsRow 0 5 1 v4 (8 * s.aw.length) (bcs (encWs s.aw))
  r5 : w.ownsRow 0 4 1 v5 s.ah.length (lcs s.ah)
  mp : MapV w v6 s.mv
  ap1 : ∀ g, v1.ownBlock = some g → v4.ownBlock ≠ some g
  ap2 : ∀ g, v2.ownBlock = some g → v5.ownBlock ≠ some g
  na : ¬ N a
  n1 : ∀ g, v1.ownBlock = some g → ¬ N g
  n2 : ∀ g, v2.ownBlock = some g → ¬ N g
  n4 : ∀ g, v4.ownBlock = some g → ¬ N g
  n5 : ∀ g, v5.ownBlock = some g → ¬ N g
  n6 : ∀ q, v6 = .map (some q) → ¬ N q
  lim : ∀ b, N b → b < w.heap.size
  ok : OkW s

def Ar (w : World) (N : Nat → Prop) (a : Nat) (s : SW) : Prop := ∃ v1 v2 v4 v5 v6, ArV w N a s v1 v2 v4 v5 v6

section
variable {w w' : World} {N : Nat → Prop} {a : Nat} {s : SW} {v1 v2 v4 v5 v6 : Value}

theorem ArV.lt (h : ArV w N a s v1 v2 v4 v5 v6) : a < w.heap.size := (Array.getElem?_eq_some_iff.1 h.blk).1
theorem Ar.lt (h : Ar w N a s) : a < w.heap.size := by
  obtain ⟨_, _, _, _, _, h⟩ := h
  exact h.lt
theorem Ar.ok (h : Ar w N a s) : OkW s := by
  obtain ⟨_, _, _, _, _, h⟩ := h
  exact h.ok
theorem Ar.lim (h : Ar w N a s) : ∀ b, N b → b < w.heap.size := by
  obtain ⟨_, _, _, _, _, h⟩ := h
  exact h.lim

theorem ArV.cell (h : ArV w N a s v1 v2 v4 v5 v6) (j : Nat) : w.cell? ⟨a, j, none⟩ = (arB s.m v1 v2 v4 v5 v6)[j]? := cell_of_row w a j _ _ (0, 0) h.blk
theorem ArV.free (h : ArV w N a s v1 v2 v4 v5 v6) (j : Nat) : w.frozen? ⟨a, j, none⟩ = false := frozen_of_row w a j _ _ h.blk

theorem row_kind {B k n : Nat} {e : TypeId} {v : Value} {xs : List Value} (h : w.ownsRow B e k v n xs) {g : Nat} (hg : v.ownBlock = some g) : ∃ cur, w.heap[g]? = some (.cells cur e (0, 0)) := by
  rcases h.2 with ⟨rfl, _⟩ | ⟨g', cap, cur, rfl, _, hh, _⟩
  · cases hg
  · cases hg
    exact ⟨cur, hh⟩

/-- The rows' blocks are neither the arena's own nor one another. -/
theorem row_apart {B C k l n m : Nat} {e f : TypeId} {u v : Value} {xs ys : List Value} (hu : w.ownsRow B e k u n xs) (hv : w.ownsRow C f l v m ys) (hef : e ≠ f) {g : Nat} (hg : u.ownBlock = some g) : v.ownBlock ≠ some g := by
  intro hg'
  obtain ⟨c, h1⟩ := row_kind hu hg
  obtain ⟨d, h2⟩ := row_kind hv hg'
  rw [h1] at h2
  simp at h2
  exact hef h2.2

theorem row_ne {B k n : Nat} {e f : TypeId} {v : Value} {xs : List Value} (h : w.ownsRow B e k v n xs) {a : Nat} {cs : Array Value} (ha : w.heap[a]? = some (.cells cs f (0, 0))) (hef : e ≠ f) {g : Nat} (hg : v.ownBlock = some g) : g ≠ a := by
  rintro rfl
  obtain ⟨c, h1⟩ := row_kind h hg
  rw [ha] at h1
  simp at h1
  exact hef h1.2.symm

theorem row_map {B k n : Nat} {e : TypeId} {v : Value} {xs : List Value} (h : w.ownsRow B e k v n xs) {q : Nat} {es : Array MapEntry} {c : Nat} (hq : w.heap[q]? = some (.map es c)) {g : Nat} (hg : v.ownBlock = some g) : g ≠ q := by
  rintro rfl
  obtain ⟨c, h1⟩ := row_kind h hg
  rw [hq] at h1
  cases h1

/-- Whatever turns of other blocks, an arena is as it was. -/
theorem ArV.other (h : ArV w N a s v1 v2 v4 v5 v6) {S : List Nat} (ho : Only S w w') (hS : ∀ x ∈ S, N x ∨ w.heap.size ≤ x) {N' : Nat → Prop} (hN : ∀ b, N' b → b < w'.heap.size ∧ (N b ∨ w.heap.size ≤ b)) : ArV w' N' a s v1 v2 v4 v5 v6 := by
  have key : ∀ b, b < w.heap.size → ¬ N b → b ∉ S ∧ ¬ N' b := fun b hb hn => ⟨fun hm => (hS b hm).elim hn (by omega), fun hm => (hN b hm).2.elim hn (by omega)⟩
  have rk : ∀ {e : TypeId} {v : Value} {n : Nat} {xs : List Value}, w.ownsRow 0 e 1 v n xs → (∀ g, v.ownBlock = some g → ¬ N g) → w'.ownsRow 0 e 1 v n xs ∧ ∀ g, v.ownBlock = some g → ¬ N' g := fun hr hn =>
    ⟨rows_only hr ho fun g hg => (key g (hr.lt g hg).2 (hn g hg)).1, fun g hg => (key g (hr.lt g hg).2 (hn g hg)).2⟩
  obtain ⟨a1, b1⟩ := rk h.r1 h.n1
  obtain ⟨a2, b2⟩ := rk h.r2 h.n2
  obtain ⟨a4, b4⟩ := rk h.r4 h.n4
  obtain ⟨a5, b5⟩ := rk h.r5 h.n5
  obtain ⟨ka, kb⟩ := key a h.lt h.na
  have hm : MapV w' v6 s.mv ∧ ∀ q, v6 = .map (some q) → ¬ N' q := by
    have hm := h.mp
    have hn := h.n6
    cases hmv : s.mv with
    | none =>
      rw [hmv] at hm
      exact ⟨hm, fun q hq => by rw [show v6 = .map none from hm] at hq; cases hq⟩
    | some L =>
      rw [hmv] at hm
      obtain ⟨q, es, clock, rfl, hq, hl⟩ := hm
      obtain ⟨c1, c2⟩ := key q (Array.getElem?_eq_some_iff.1 hq).1 (hn q rfl)
      exact ⟨⟨q, es, clock, rfl, by rw [ho.block q (Array.getElem?_eq_some_iff.1 hq).1 c1]; exact hq, hl⟩, fun p hp => by cases hp; exact c2⟩
  exact { blk := by rw [ho.block a h.lt ka]; exact h.blk, r1 := a1, r2 := a2, r4 := a4, r5 := a5, mp := hm.1, ap1 := h.ap1, ap2 := h.ap2, na := kb, n1 := b1, n2 := b2, n4 := b4, n5 := b5, n6 := hm.2, lim := fun b hb => (hN b hb).1, ok := h.ok }

theorem Ar.other (h : Ar w N a s) {S : List Nat} (ho : Only S w w') (hS : ∀ x ∈ S, N x ∨ w.heap.size ≤ x) {N' : Nat → Prop} (hN : ∀ b, N' b → b < w'.heap.size ∧ (N b ∨ w.heap.size ≤ b)) : Ar w' N' a s := by
  obtain ⟨_, _, _, _, _, h⟩ := h
  exact ⟨_, _, _, _, _, h.other ho hS hN⟩

theorem Ar.only0 (h : Ar w N a s) (ho : Only [] w w') : Ar w' N a s := h.other ho (by simp) fun b hb => ⟨by have := h.lim b hb; have := ho.size; omega, .inl hb⟩

theorem Ar.mono (h : Ar w N a s) {N' : Nat → Prop} (hN : ∀ b, N' b → N b) : Ar w N' a s := h.other (Only.refl [] w) (by simp) fun b hb => ⟨h.lim b (hN b hb), .inl (hN b hb)⟩

/-- Each half is read. -/
theorem half_of {o : Nat} {u v : Value} {ws : List Int} {hs : List Bool} (c1 : w.cell? ⟨a, o + 1, none⟩ = some u) (c2 : w.cell? ⟨a, o + 2, none⟩ = some v) (r1 : w.ownsRow 0 5 1 u (8 * ws.length) (bcs (encWs ws))) (r2 : w.ownsRow 0 4 1 v hs.length (lcs hs))
    (few : 8 * ws.length ≤ 1048576) (same : hs.length = ws.length) (all : ∀ v ∈ ws, i64 v) : HfE w a o ws hs := by
  obtain ⟨ab, cb, rfl⟩ := rows_slice r1
  obtain ⟨ah, ch, rfl⟩ := rows_slice r2
  obtain ⟨s1, l1, _, z1, _⟩ := RS.of_owns r1
  obtain ⟨s2, l2, _⟩ := RS.of_owns r2
  exact ⟨ab, cb, ah, ch, _, _, c1, c2, s1, s2, l1, l2, few, same, all, z1⟩

theorem Ar.used (h : Ar w N a s) : HfE w a 0 s.ws s.hs := by
  obtain ⟨_, _, _, _, _, h⟩ := h
  exact half_of (h.cell 1) (h.cell 2) h.r1 h.r2 (by have := h.ok.fit; have := h.ok.m1; omega) h.ok.same h.ok.all
theorem Ar.ahead (h : Ar w N a s) : HfE w a 3 s.aw s.ah := by
  obtain ⟨_, _, _, _, _, h⟩ := h
  exact half_of (h.cell 4) (h.cell 5) h.r4 h.r5 (by have := h.ok.afit; have := h.ok.m1; omega) h.ok.asame h.ok.aall
end

end Go.Proofs.Ytkaklabcfhefaab
