/-
  The contracts of maps' reader of bits: fill, and of the reader of maps: next. No conditions beyond the receiver's own shape.
-/
import Derived.Test.YtmghmmkjcgopaaaGRd
import Derived.Deep.DeepCutAuto
namespace Go.Proofs.Ytmghmmkjcgopaaa
open Go.RowKit

/-- What is left of a byte is noughts alone. -/
theorem rest_at (v k : Nat) (hv : v < 256) (hk : k ≤ 7) : (bits .and .u8 (v : Int) ((2 ^ k - 1) % 256) == 0) = !(bitsOf v k).any id := by
  rw [bitsOf_any]
  have hall : ∀ x : Fin 256, ∀ k : Fin 8, (bits .and .u8 ((x.val : Nat) : Int) ((2 ^ k.val - 1) % 256) == 0) = !decide (x.val % 2 ^ k.val ≠ 0) := by decide +kernel
  exact hall ⟨v, hv⟩ ⟨k, by omega⟩

set_option maxHeartbeats 1000000 in
theorem fill_any {w : World} {q r d : Nat} {t : BSt} (h : BRE w q r d t) :
    Calls Try.prog 28 #[.pointer (some ⟨q, 0, none⟩)] w fun e w' => e = .returned (.bool (!t.1.any id)) ∧ BRE w' q r d ([], t.2) ∧ Only [q] w w' := by
  obtain ⟨v, k, hR, hP⟩ := h
  have HR := hid hR
  obtain ⟨c0, c1, c2, f1, f2, rd, nr, nd, hv, hk7, ld⟩ := hR
  have HP := hid hP
  clear hP
  go_enter Try.func28, Try.ntmps28
  go_wp2
  go_region
  go_wp2
  go_ret
  obtain ⟨h1, h2⟩ := HR.out.left 0 (by decide) 0 rfl
  refine ⟨?_, ⟨v, 0, h1.only ((Only.refl [] _).drew) (by simp) (by simp) (by simp), rfl⟩, h2.drew⟩
  rw [HP.out, ← rest_at v k hv hk7]
  rfl

theorem SlV.of_owns {w : World} {B n : Nat} {e : TypeId} {k : Nat} {v : Value} {xs : List Value} (h : w.ownsRow B e k v n xs) : SlV w (fun b => B ≤ b) v n xs := by
  obtain ⟨ao, cap, rfl⟩ := rows_slice h
  obtain ⟨h1, h2, h3, h4, h5⟩ := RS.of_owns h
  refine ⟨ao, cap, _, rfl, h1, fun hn => ?_, h2, Nat.le_trans h3 (by decide), h4⟩
  cases ao with
  | none => exact absurd h1.none_nil hn
  | some a => exact (h5 a rfl).1

/-- What next reads, and where it stands then. -/
def nextT (s : List UInt8 × Nat × Int) : Mp × BSt :=
  (((be (rTake s 2).1 : Int), (bitsN ([], (rTake (rTake (rTake s 2).2 1).2 1).2) (be (rTake (rTake s 2).2 1).1)).1, (bitsN (bitsN ([], (rTake (rTake (rTake s 2).2 1).2 1).2) (be (rTake (rTake s 2).2 1).1)).2 (be (rTake (rTake (rTake s 2).2 1).2 1).1)).1), (bitsN (bitsN ([], (rTake (rTake (rTake s 2).2 1).2 1).2) (be (rTake (rTake s 2).2 1).1)).2 (be (rTake (rTake (rTake s 2).2 1).2 1).1)).2)

def nextR (s : List UInt8 × Nat × Int) : Mp × Int := if (nextT s).2.2.2.2 = 0 then (if (nextT s).2.1.any id then ((0, [], []), 1) else ((nextT s).1, 0)) else ((0, [], []), (nextT s).2.2.2.2)

def NextP (w : World) (q r d : Nat) (R : Mp × Int) (t : List UInt8 × Nat × Int) (e : Ending) (w' : World) : Prop :=
  ∃ v1 v2, e = .returned (.tuple #[.agg #[.int .i64 R.1.1, v1, v2], .int .i64 R.2]) ∧ SlV w' (fun b => w.heap.size ≤ b) v1 R.1.2.1.length (lcs R.1.2.1) ∧ SlV w' (fun b => w.heap.size ≤ b) v2 R.1.2.2.length (lcs R.1.2.2) ∧ BRE w' q r d ([], t) ∧ Only [q, r] w w'

theorem keepQ {W0 W w1 : World} {q r : Nat} {u : Value} (h : W.cell? ⟨q, 0, none⟩ = some u ∧ Only [r] W0 W) (ho : Only [r] W w1) (hq : q ≠ r) : w1.cell? ⟨q, 0, none⟩ = some u ∧ Only [r] W0 w1 :=
  ⟨(ho.cell (p := ⟨q, 0, none⟩) (World.block_lt_of_cell? W _ h.1) (by simpa using hq)).trans h.1, h.2.trans ho (fun _ hx => .inl hx)⟩

theorem BRE.al {w : World} {q r d : Nat} {t : BSt} (h : BRE w q r d t) (o : Obj) : BRE (w.alloc o) q r d t := h.only ((Only.refl [] w).alloc o) (by simp) (by simp) (by simp)

theorem BRE.ald {w : World} {q r d : Nat} {t : BSt} (h : BRE w q r d t) (o : Obj) : BRE (w.alloc o).drew q r d t := (h.al o).only ((Only.refl [] _).drew) (by simp) (by simp) (by simp)

/-- A new map in block b. -/
def Zm (w : World) (b : Nat) : Prop := w.cell? ⟨b, 0, none⟩ = some (.int .i64 0) ∧ w.cell? ⟨b, 1, none⟩ = some (.slice none 0 0) ∧ w.cell? ⟨b, 2, none⟩ = some (.slice none 0 0) ∧ w.frozen? ⟨b, 0, none⟩ = false ∧ w.frozen? ⟨b, 1, none⟩ = false ∧ w.frozen? ⟨b, 2, none⟩ = false

theorem zm_new (W : World) (t : TypeId) : Zm (W.alloc (.cells #[.int .i64 0, .slice none 0 0, .slice none 0 0] t)) W.heap.size :=
  ⟨by rw [cell_new]; rfl, by rw [cell_new]; rfl, by rw [cell_new]; rfl, frozen_new _ _ _ _, frozen_new _ _ _ _, frozen_new _ _ _ _⟩

theorem Zm.only {w w1 : World} {S : List Nat} {b : Nat} (h : Zm w b) (ho : Only S w w1) (hb : b ∉ S) : Zm w1 b := by
  have hl : b < w.heap.size := World.block_lt_of_cell? w _ h.1
  obtain ⟨h0, h1, h2, h3, h4, h5⟩ := h
  exact ⟨(ho.cell (p := ⟨b, 0, none⟩) hl hb).trans h0, (ho.cell (p := ⟨b, 1, none⟩) hl hb).trans h1, (ho.cell (p := ⟨b, 2, none⟩) hl hb).trans h2, (ho.frozen (p := ⟨b, 0, none⟩) hl hb).trans h3, (ho.frozen (p := ⟨b, 1, none⟩) hl hb).trans h4, (ho.frozen (p := ⟨b, 2, none⟩) hl hb).trans h5⟩

/-- A new map stays while a reader goes on. -/
theorem zq {W w1 : World} {q r b : Nat} {t : TypeId} (ho : Only [q, r] (W.alloc (.cells #[.int .i64 0, .slice none 0 0, .slice none 0 0] t)) w1) (hq : q < b) (hr : r < b) (hb : W.heap.size = b) : Zm w1 b := by
  subst hb
  exact (zm_new W t).only ho (by simp; omega)

theorem zqd {W w1 : World} {q r b : Nat} {t : TypeId} (ho : Only [q, r] (W.alloc (.cells #[.int .i64 0, .slice none 0 0, .slice none 0 0] t)).drew w1) (hq : q < b) (hr : r < b) (hb : W.heap.size = b) : Zm w1 b := by
  subst hb
  exact ((zm_new W t).only ((Only.refl [] _).drew) (by simp)).only ho (by simp; omega)

/-- A map in block b. -/
def Mf (w : World) (b : Nat) (a : Int) (v1 v2 : Value) : Prop := w.cell? ⟨b, 0, none⟩ = some (.int .i64 a) ∧ w.cell? ⟨b, 1, none⟩ = some v1 ∧ w.cell? ⟨b, 2, none⟩ = some v2

theorem Mf.only {w w1 : World} {S : List Nat} {b : Nat} {a : Int} {v1 v2 : Value} (h : Mf w b a v1 v2) (ho : Only S w w1) (hb : b ∉ S) : Mf w1 b a v1 v2 := by
  have hl : b < w.heap.size := World.block_lt_of_cell? w _ h.1
  obtain ⟨h0, h1, h2⟩ := h
  exact ⟨(ho.cell (p := ⟨b, 0, none⟩) hl hb).trans h0, (ho.cell (p := ⟨b, 1, none⟩) hl hb).trans h1, (ho.cell (p := ⟨b, 2, none⟩) hl hb).trans h2⟩

theorem mf_new (W : World) (t : TypeId) (a : Int) (v1 v2 : Value) : Mf (W.alloc (.cells #[.int .i64 a, v1, v2] t)) W.heap.size a v1 v2 :=
  ⟨by rw [cell_new]; rfl, by rw [cell_new]; rfl, by rw [cell_new]; rfl⟩

theorem mf_put {w : World} {b : Nat} {x y z : Value} (h0 : w.cell? ⟨b, 0, none⟩ = some x) (h1 : w.cell? ⟨b, 1, none⟩ = some y) (h2 : w.cell? ⟨b, 2, none⟩ = some z) (a : Int) (v1 v2 : Value) : Mf (((w.setCell ⟨b, 0, none⟩ (.int .i64 a)).setCell ⟨b, 1, none⟩ v1).setCell ⟨b, 2, none⟩ v2) b a v1 v2 ∧ Only [b] w (((w.setCell ⟨b, 0, none⟩ (.int .i64 a)).setCell ⟨b, 1, none⟩ v1).setCell ⟨b, 2, none⟩ v2) := by
  refine ⟨⟨?_, ?_, ?_⟩, (((Only.refl [b] w).setCell (.inl (by simp)) _).setCell (.inl (by simp)) _).setCell (.inl (by simp)) _⟩
  · rw [cell_setCell_ne _ _ (by simp), cell_setCell_ne _ _ (by simp)]; exact cell_setCell_same _ _ h0
  · rw [cell_setCell_ne _ _ (by simp)]; exact cell_setCell_same _ _ ((cell_setCell_ne _ _ (by simp)).trans h1)
  · exact cell_setCell_same _ _ ((cell_setCell_ne _ _ (by simp)).trans ((cell_setCell_ne _ _ (by simp)).trans h2))

/-- All that stands behind the region in which a map is read. -/
structure NxI (w W0 w6 : World) (q r d gm : Nat) (A : Int) (v1 v2 : Value) (lo st : Nat) (L T : List Bool) (t2 : BSt) : Prop where
  m : Mf w6 gm A v1 v2
  s1 : SlV w6 (fun b => w.heap.size < b) v1 lo (lcs L)
  s2 : SlV w6 (fun b => w.heap.size < b) v2 st (lcs T)
  b : BRE w6 q r d t2
  o : Only [q, r] W0 w6
  g : w.heap.size < gm

/-- One block made in the call's time is written to that no row lies in. -/
theorem nx_put {w W0 w5 : World} {q r d gm : Nat} {A : Int} {v1 v2 : Value} {lo st : Nat} {L T : List Bool} {t2 : BSt} (hz : Zm w5 gm) (s1 : SlV w5 (fun b => w.heap.size < b ∧ b ≠ gm) v1 lo (lcs L)) (s2 : SlV w5 (fun b => w.heap.size < b ∧ b ≠ gm) v2 st (lcs T)) (hb : BRE w5 q r d t2) (ho : Only [q, r] W0 w5) (hW : W0.heap.size ≤ gm) (hw : w.heap.size < W0.heap.size) (hq : q < W0.heap.size) (hr : r < W0.heap.size) (hd : d < W0.heap.size) :
    NxI w W0 (((w5.setCell ⟨gm, 0, none⟩ (.int .i64 A)).setCell ⟨gm, 1, none⟩ v1).setCell ⟨gm, 2, none⟩ v2) q r d gm A v1 v2 lo st L T t2 := by
  obtain ⟨h1, h2⟩ := mf_put hz.1 hz.2.1 hz.2.2.1 A v1 v2
  exact ⟨h1, (s1.only h2 (fun b hb => by simpa using hb.2)).mono (fun b hb _ => hb.1), (s2.only h2 (fun b hb => by simpa using hb.2)).mono (fun b hb _ => hb.1), hb.only h2 (by simp; omega) (by simp; omega) (by simp; omega), ho.next h2 (by simp; omega), by omega⟩

set_option linter.unusedVariables false in
theorem nx1 {w W0 w3 w4 w5 : World} {q r d : Nat} {ao4 ao5 : Option Addr} {A : Int} {cap4 cap5 lo st : Nat} {L T : List Bool} {t2 : BSt} (hW : W0 = w.alloc (.cells #[.int .i64 0, .slice none 0 0, .slice none 0 0] 27)) (e1 : Only [r] W0 w3) (ho4 : Only [q, r] w3.drew w4) (hown4 : w4.ownsRow w3.drew.heap.size 4 1 (.slice ao4 lo cap4) lo (lcs L)) (ho5 : Only [q, r] w4 w5) (hown5 : w5.ownsRow w4.heap.size 4 1 (.slice ao5 st cap5) st (lcs T)) (hB5 : BRE w5 q r d t2) (hq : q < W0.heap.size) (hr : r < W0.heap.size) (hd : d < W0.heap.size) :
    NxI w W0 (w5.alloc (.cells #[.int .i64 A, .slice ao4 lo cap4, .slice ao5 st cap5] 27)) q r d w5.heap.size A (.slice ao4 lo cap4) (.slice ao5 st cap5) lo st L T t2 := by
  have h4 : w3.heap.size ≤ w4.heap.size := ho4.size
  have h45 := ho5.size
  have h3 : W0.heap.size ≤ w3.heap.size := e1.size
  have h0 : w.heap.size < W0.heap.size := by rw [hW]; simp
  have hown4' : w4.ownsRow w3.heap.size 4 1 (.slice ao4 lo cap4) lo (lcs L) := hown4
  refine ⟨mf_new _ _ _ _ _, ((SlV.of_owns hown4').only (ho5.alloc _) ?_).mono ?_, ((SlV.of_owns hown5).only ((Only.refl [] _).alloc _) (by simp)).mono ?_, hB5.al _, ?_, by omega⟩
  · intro b hb
    simp at hb ⊢
    omega
  · intro b hb _
    omega
  · intro b hb _
    omega
  · exact ((((e1.mono (S' := [q, r]) (by simp)).trans ((Only.refl [] w3).drew) (by simp)).trans ho4 (fun x hx => .inl hx)).trans ho5 (fun x hx => .inl hx)).alloc _

theorem nx2 {w W0 w3 w4 w5 : World} {q r d : Nat} {ao4 ao5 : Option Addr} {A : Int} {cap4 cap5 lo st : Nat} {L T : List Bool} {t2 : BSt} (hW : W0 = w.alloc (.cells #[.int .i64 0, .slice none 0 0, .slice none 0 0] 27)) (e1 : Only [r] W0 w3) (ho4 : Only [q, r] w3.drew w4) (hown4 : w4.ownsRow w3.drew.heap.size 4 1 (.slice ao4 lo cap4) lo (lcs L)) (ho5 : Only [q, r] (w4.alloc (.cells #[.int .i64 0, .slice none 0 0, .slice none 0 0] 27)) w5) (hown5 : w5.ownsRow (w4.alloc (.cells #[.int .i64 0, .slice none 0 0, .slice none 0 0] 27)).heap.size 4 1 (.slice ao5 st cap5) st (lcs T)) (hB5 : BRE w5 q r d t2) (hq : q < W0.heap.size) (hr : r < W0.heap.size) (hd : d < W0.heap.size) :
    NxI w W0 (((w5.setCell ⟨w4.heap.size, 0, none⟩ (.int .i64 A)).setCell ⟨w4.heap.size, 1, none⟩ (.slice ao4 lo cap4)).setCell ⟨w4.heap.size, 2, none⟩ (.slice ao5 st cap5)) q r d w4.heap.size A (.slice ao4 lo cap4) (.slice ao5 st cap5) lo st L T t2 := by
  have h4 : w3.heap.size ≤ w4.heap.size := ho4.size
  have h45 : w4.heap.size + 1 ≤ w5.heap.size := by simpa using ho5.size
  have h3 : W0.heap.size ≤ w3.heap.size := e1.size
  have h0 : w.heap.size < W0.heap.size := by rw [hW]; simp
  have hown4' : w4.ownsRow w3.heap.size 4 1 (.slice ao4 lo cap4) lo (lcs L) := hown4
  have ha : Only [q, r] w4 w5 := ((Only.refl [q, r] w4).alloc _).trans ho5 (fun x hx => .inl hx)
  refine nx_put (zq ho5 (by omega) (by omega) rfl) (((SlV.of_owns hown4').mono (Q := fun b => w3.heap.size ≤ b ∧ b ≠ w4.heap.size) (fun b hb hl => ⟨hb, by omega⟩)).only ha (fun b hb => by simp; omega) |>.mono (fun b hb _ => ⟨by omega, hb.2⟩)) ((SlV.of_owns hown5).mono (fun b hb _ => by simp at hb; omega)) hB5 (((e1.mono (S' := [q, r]) (by simp)).trans ((Only.refl [] w3).drew) (by simp)).trans (ho4.trans ha (fun x hx => .inl hx)) (fun x hx => .inl hx)) (by omega) h0 hq hr hd

theorem nx3 {w W0 w3 w4 w5 : World} {q r d : Nat} {ao4 ao5 : Option Addr} {A : Int} {cap4 cap5 lo st : Nat} {L T : List Bool} {t2 : BSt} (hW : W0 = w.alloc (.cells #[.int .i64 0, .slice none 0 0, .slice none 0 0] 27)) (e1 : Only [r] W0 w3) (ho4 : Only [q, r] (w3.alloc (.cells #[.int .i64 0, .slice none 0 0, .slice none 0 0] 27)).drew w4) (hown4 : w4.ownsRow (w3.alloc (.cells #[.int .i64 0, .slice none 0 0, .slice none 0 0] 27)).drew.heap.size 4 1 (.slice ao4 lo cap4) lo (lcs L)) (ho5 : Only [q, r] w4 w5) (hown5 : w5.ownsRow w4.heap.size 4 1 (.slice ao5 st cap5) st (lcs T)) (hB5 : BRE w5 q r d t2) (hq : q < W0.heap.size) (hr : r < W0.heap.size) (hd : d < W0.heap.size) :
    NxI w W0 (((w5.setCell ⟨w3.heap.size, 0, none⟩ (.int .i64 A)).setCell ⟨w3.heap.size, 1, none⟩ (.slice ao4 lo cap4)).setCell ⟨w3.heap.size, 2, none⟩ (.slice ao5 st cap5)) q r d w3.heap.size A (.slice ao4 lo cap4) (.slice ao5 st cap5) lo st L T t2 := by
  have h4 : w3.heap.size + 1 ≤ w4.heap.size := by simpa using ho4.size
  have h45 := ho5.size
  have h3 : W0.heap.size ≤ w3.heap.size := e1.size
  have h0 : w.heap.size < W0.heap.size := by rw [hW]; simp
  have hown4' : w4.ownsRow (w3.heap.size + 1) 4 1 (.slice ao4 lo cap4) lo (lcs L) := by simpa using hown4
  have ha : Only [q, r] w3 w4 := (((Only.refl [q, r] w3).alloc _).drew).trans ho4 (fun x hx => .inl hx)
  exact nx_put ((zqd ho4 (by omega) (by omega) rfl).only ho5 (by simp; omega)) (((SlV.of_owns hown4').only ho5 (fun b hb => by simp; omega)).mono (fun b hb _ => ⟨by omega, by omega⟩)) ((SlV.of_owns hown5).mono (fun b hb _ => ⟨by omega, by omega⟩)) hB5 (((e1.mono (S' := [q, r]) (by simp)).trans ha (fun x hx => .inl hx)).trans ho5 (fun x hx => .inl hx)) (by omega) h0 hq hr hd

set_option maxHeartbeats 4000000 in
theorem next_any {w : World} {q r d : Nat} {s : List UInt8 × Nat × Int} (h : BRE w q r d ([], s)) :
    Calls Try.prog 13 #[.pointer (some ⟨q, 0, none⟩)] w fun e w' => NextP w q r d (nextR s) (nextT s).2.2 e w' := by
  have hq := h.lt
  obtain ⟨v, k, hR, hP⟩ := h
  obtain ⟨A, hA⟩ : ∃ A, A = be (rTake s 2).1 := ⟨_, rfl⟩
  obtain ⟨s1, hs1⟩ : ∃ s1, s1 = (rTake s 2).2 := ⟨_, rfl⟩
  obtain ⟨lo, hlo⟩ : ∃ lo, lo = be (rTake s1 1).1 := ⟨_, rfl⟩
  obtain ⟨s2, hs2⟩ : ∃ s2, s2 = (rTake s1 1).2 := ⟨_, rfl⟩
  obtain ⟨st, hst⟩ : ∃ st, st = be (rTake s2 1).1 := ⟨_, rfl⟩
  obtain ⟨s3, hs3⟩ : ∃ s3, s3 = (rTake s2 1).2 := ⟨_, rfl⟩
  obtain ⟨L, hL⟩ : ∃ L, L = (bitsN ([], s3) lo).1 := ⟨_, rfl⟩
  obtain ⟨t1, ht1⟩ : ∃ t1, t1 = (bitsN ([], s3) lo).2 := ⟨_, rfl⟩
  obtain ⟨T, hT⟩ : ∃ T, T = (bitsN t1 st).1 := ⟨_, rfl⟩
  obtain ⟨t2, ht2⟩ : ∃ t2, t2 = (bitsN t1 st).2 := ⟨_, rfl⟩
  have hN : nextT s = (((A : Int), L, T), t2) := by rw [nextT, ← hs1, ← hs2, ← hs3, ← hA, ← hlo, ← hst, ← ht1, ← hL, ← hT, ← ht2]
  have hlo8 : lo ≤ 255 := by have := be_lt_of (rTake s1 1).1 1 (rTake_le s1 1); omega
  have hst8 : st ≤ 255 := by have := be_lt_of (rTake s2 1).1 1 (rTake_le s2 1); omega
  have hLl : L.length = lo := by rw [hL, bitsN_len]
  have hTl : T.length = st := by rw [hT, bitsN_len]
  have H1 : Hid (∀ W, RdE W r d s → Calls Try.prog 25 #[.pointer (some ⟨r, 0, none⟩)] W fun e w' => e = .returned (.int .i64 (A : Int)) ∧ RdE w' r d s1 ∧ Only [r] W w') := by
    rw [hA, hs1]; exact fun W hW => u2_any hW
  have H2 : Hid (∀ W, RdE W r d s1 → Calls Try.prog 26 #[.pointer (some ⟨r, 0, none⟩)] W fun e w' => e = .returned (.int .i64 (lo : Int)) ∧ RdE w' r d s2 ∧ Only [r] W w') := by
    rw [hlo, hs2]; exact fun W hW => u1_any hW
  have H3 : Hid (∀ W, RdE W r d s2 → Calls Try.prog 26 #[.pointer (some ⟨r, 0, none⟩)] W fun e w' => e = .returned (.int .i64 (st : Int)) ∧ RdE w' r d s3 ∧ Only [r] W w') := by
    rw [hst, hs3]; exact fun W hW => u1_any hW
  have H4 : Hid (∀ W, BRE W q r d ([], s3) → Calls Try.prog 27 #[.pointer (some ⟨q, 0, none⟩), .int .i64 (lo : Int)] W fun e w' => ∃ ao cap, e = .returned (.slice ao lo cap) ∧ w'.ownsRow W.heap.size 4 1 (.slice ao lo cap) lo (lcs L) ∧ BRE w' q r d t1 ∧ Only [q, r] W w') := by
    rw [hL, ht1]; exact fun W hW => bits_any hW lo hlo8
  have H5 : Hid (∀ W, BRE W q r d t1 → Calls Try.prog 27 #[.pointer (some ⟨q, 0, none⟩), .int .i64 (st : Int)] W fun e w' => ∃ ao cap, e = .returned (.slice ao st cap) ∧ w'.ownsRow W.heap.size 4 1 (.slice ao st cap) st (lcs T) ∧ BRE w' q r d t2 ∧ Only [q, r] W w') := by
    rw [hT, ht2]; exact fun W hW => bits_any hW st hst8
  have HN := hid hN
  clear hA hs1 hlo hs2 hst hs3 hL ht1 hT ht2 hN
  have HR := hid hR
  obtain ⟨c0, c1, c2, f1, f2, rd, nr, nd, hv, hk7, ld⟩ := hR
  have hrq : q ∉ [r] := by simpa using nr
  have hW0 : RdE (w.alloc (.cells #[.int .i64 0, .slice none 0 0, .slice none 0 0] 27)) r d s := rd.only ((Only.refl [] w).alloc _) (by simp) (by simp)
  have hW1 : RdE (w.alloc (.cells #[.int .i64 0, .slice none 0 0, .slice none 0 0] 27)).drew r d s := hW0.only ((Only.refl [] _).drew) (by simp) (by simp)
  obtain ⟨RR, hRR⟩ : ∃ RR, RR = nextR s := ⟨_, rfl⟩
  obtain ⟨RT, hRT⟩ : ∃ RT, RT = (nextT s).2.2 := ⟨_, rfl⟩
  rw [← hRR, ← hRT]
  replace hRR := hid hRR
  replace hRT := hid hRT
  go_enter Try.func13, Try.ntmps13
  go_wp2
  obtain ⟨W0, hW00⟩ : ∃ W0, W0 = w.alloc (.cells #[.int .i64 0, .slice none 0 0, .slice none 0 0] 27) := ⟨_, rfl⟩
  rw [← hW00] at hW0 hW1 ⊢
  have o0 : Only [] w W0 := by rw [hW00]; exact (Only.refl [] w).alloc _
  have hS0 : W0.cell? ⟨q, 0, none⟩ = some (.pointer (some ⟨r, 0, none⟩)) ∧ Only [r] W0 W0 := ⟨(o0.cell (p := ⟨q, 0, none⟩) hq.1 (by simp)).trans c0, Only.refl _ _⟩
  have hS1 : W0.drew.cell? ⟨q, 0, none⟩ = some (.pointer (some ⟨r, 0, none⟩)) ∧ Only [r] W0 W0.drew := ⟨hS0.1, (Only.refl _ _).drew⟩
  have Z0 := hid (show W0.cell? ⟨w.heap.size, 0, none⟩ = some (.int .i64 0) ∧ W0.cell? ⟨w.heap.size, 1, none⟩ = some (.slice none 0 0) ∧ W0.cell? ⟨w.heap.size, 2, none⟩ = some (.slice none 0 0) by rw [hW00]; exact ⟨by rw [cell_new]; rfl, by rw [cell_new]; rfl, by rw [cell_new]; rfl⟩)
  replace hW00 := hid hW00
  clear c0 c1 c2 f1 f2 rd
  go_region_held3 (fun w' => w'.cell? ⟨q, 0, none⟩ = some (.pointer (some ⟨r, 0, none⟩)) ∧ Only [r] W0 w')
    (first | (with_reducible assumption) | (with_reducible exact keepQ (by assumption) (by assumption) nr))
    (first
    | (go_at_call 25; (with_reducible refine (H1.out _ ?_).mono ?_); (with_reducible assumption); rintro e w1 ⟨rfl, hr1, ho1⟩)
    | (go_at_call 26; (with_reducible refine (H2.out _ ?_).mono ?_); (with_reducible assumption); rintro e w2 ⟨rfl, hr2, ho2⟩)
    | (go_at_call 26; (with_reducible refine (H3.out _ ?_).mono ?_); (with_reducible assumption); rintro e w3 ⟨rfl, hr3, ho3⟩))
  rename_i hSe
  obtain ⟨e0, e1⟩ := hSe
  have hB3 : BRE w3 q r d ([], s3) := ⟨v, k, (HR.out.only o0 (by simp) (by simp) (by simp)).gone e1 hr3, hP⟩
  have hB3d : BRE w3.drew q r d ([], s3) := hB3.only ((Only.refl [] _).drew) (by simp) (by simp) (by simp)
  clear hr1 ho1 hr2 ho2 hr3 ho3 hS0 hS1 hW0 hW1 e0
  go_wp2
  have hq0 : q < W0.heap.size := Nat.lt_of_lt_of_le hq.1 o0.size
  have hr0 : r < W0.heap.size := Nat.lt_of_lt_of_le hq.2.1 o0.size
  have hd0 : d < W0.heap.size := Nat.lt_of_lt_of_le hq.2.2 o0.size
  have q3 := hB3.lt.1
  have r3 := hB3.lt.2.1
  go_region_with (first
    | (go_at_call 27; (with_reducible refine (H4.out _ ?_).mono ?_); (first | (with_reducible assumption) | (with_reducible exact hB3.ald _) | (with_reducible exact hB3d.al _) | (with_reducible exact hB3.al _)); rintro e w4 ⟨ao4, cap4, rfl, hown4, hB4, ho4⟩; have q4 := hB4.lt.1; have r4 := hB4.lt.2.1; (first | (with_reducible have Z4 := hid (zqd ho4 q3 r3 rfl)) | (with_reducible have Z4 := hid (zq ho4 q3 r3 rfl)) | skip))
    | (go_at_call 27; (with_reducible refine (H5.out _ ?_).mono ?_); (first | (with_reducible assumption) | (with_reducible exact hB4.al _) | (with_reducible exact hB4.ald _)); rintro e w5 ⟨ao5, cap5, rfl, hown5, hB5, ho5⟩; (first | (obtain ⟨z0, z1, z2, y0, y1, y2⟩ := Z4.out.only ho5 (by simp; omega)) | (obtain ⟨z0, z1, z2, y0, y1, y2⟩ := zq ho5 q4 r4 rfl) | (obtain ⟨z0, z1, z2, y0, y1, y2⟩ := zqd ho5 q4 r4 rfl) | skip)))
  all_goals
    (first
      | (have hI := nx1 hW00.out e1 ho4 hown4 ho5 hown5 hB5 hq0 hr0 hd0 (A := (A : Int)); obtain ⟨gm, hgm⟩ : ∃ gm, gm = w5.heap.size := ⟨_, rfl⟩; rw [← hgm] at hI ⊢; generalize w5.alloc (.cells #[.int .i64 (A : Int), .slice ao4 lo cap4, .slice ao5 st cap5] 27) = w6 at hI ⊢)
      | (have hI := nx2 hW00.out e1 ho4 hown4 ho5 hown5 hB5 hq0 hr0 hd0 (A := (A : Int)); clear z0 z1 z2 y0 y1 y2; obtain ⟨gm, hgm⟩ : ∃ gm, gm = w4.heap.size := ⟨_, rfl⟩; rw [← hgm] at hI ⊢; generalize ((w5.setCell ⟨gm, 0, none⟩ (.int .i64 (A : Int))).setCell ⟨gm, 1, none⟩ (.slice ao4 lo cap4)).setCell ⟨gm, 2, none⟩ (.slice ao5 st cap5) = w6 at hI ⊢)
      | (have hI := nx3 hW00.out e1 ho4 hown4 ho5 hown5 hB5 hq0 hr0 hd0 (A := (A : Int)); clear z0 z1 z2 y0 y1 y2; obtain ⟨gm, hgm⟩ : ∃ gm, gm = w3.heap.size := ⟨_, rfl⟩; rw [← hgm] at hI ⊢; generalize ((w5.setCell ⟨gm, 0, none⟩ (.int .i64 (A : Int))).setCell ⟨gm, 1, none⟩ (.slice ao4 lo cap4)).setCell ⟨gm, 2, none⟩ (.slice ao5 st cap5) = w6 at hI ⊢))
  all_goals
    clear ho4 hown4 hB4 ho5 hown5 hB5 q4 r4 hgm hB3 hB3d e1 q3 r3
    obtain ⟨hm6, hs1, hs2, hB6, h06, hg6⟩ := hI
    have hZ6 : Zm w6 w.heap.size := Zm.only (w := W0) (by rw [hW00.out]; exact zm_new w _) h06 (by simp; omega)
    have HF := hid (fill_any hB6)
    obtain ⟨P2, b2, n2, e2⟩ := t2
    have hRes : RR = if e2 = 0 then (if P2.any id then ((0, [], []), 1) else (((A : Int), L, T), 0)) else ((0, [], []), e2) := by rw [hRR.out]; unfold nextR; rw [HN.out]
    have hSt : RT = (b2, n2, e2) := by rw [hRT.out, HN.out]
    clear HN hRR hRT
    replace hSt := hid hSt
    simp only at HF
    have hgn : w.heap.size ≠ gm := by omega
    by_cases he : e2 = 0
    · subst he
      rw [if_pos rfl] at hRes
      by_cases hp : P2.any id = true
      · rw [if_pos hp] at hRes
        replace hRes := hid hRes
        rw [hp] at HF
        go_wp2_with (first
          | (go_at_call 28; refine HF.out.mono ?_; rintro e w7 ⟨rfl, hB7, ho7⟩; have HB7 := hid hB7; obtain ⟨v7, k7, R7, hP7⟩ := hB7; have HE := hid (err_any R7.rd); have c7 := R7.c0; have h07 : Hid (Only [q, r] W0 w7) := h06.trans ho7 (fun x hx => .inl (by simp at hx; simp [hx])); obtain ⟨z0, z1, z2, y0, y1, y2⟩ := hZ6.only ho7 (by simp; omega); obtain ⟨m0, m1, m2⟩ := hm6.only ho7 (by simp; omega); have S1 := hid (hs1.only ho7 (fun b hb => by simp; omega)); have S2 := hid (hs2.only ho7 (fun b hb => by simp; omega)); clear hP7; replace R7 := hid R7; replace ho7 := hid ho7)
          | (go_at_call 29; refine HE.out.mono ?_; rintro e w8 ⟨rfl, rfl⟩))
        obtain ⟨⟨d0, d1, d2⟩, o8⟩ := mf_put z0 z1 z2 0 (.slice none 0 0) (.slice none 0 0)
        refine bodyPost_ret (v := .tuple #[.agg #[.int .i64 0, (.slice none 0 0), (.slice none 0 0)], .int .i64 1]) (by simp [results, Try.results13, go_sem, d0, d1, d2]) rfl ?_
        rw [hRes.out, hSt.out]
        exact ⟨_, _, rfl, SlV.nil _ _, SlV.nil _ _, HB7.out.only o8 (by simp; omega) (by simp; omega) (by simp; omega), ((o0.mono (S' := [q, r]) (by simp)).trans h07.out (fun x hx => .inl hx)).next o8 (by simp)⟩
      · rw [if_neg hp] at hRes
        replace hRes := hid hRes
        have hp' : P2.any id = false := by simpa using hp
        rw [hp'] at HF
        go_wp2_with (first
          | (go_at_call 28; refine HF.out.mono ?_; rintro e w7 ⟨rfl, hB7, ho7⟩; have HB7 := hid hB7; obtain ⟨v7, k7, R7, hP7⟩ := hB7; have HE := hid (err_any R7.rd); have c7 := R7.c0; have h07 : Hid (Only [q, r] W0 w7) := h06.trans ho7 (fun x hx => .inl (by simp at hx; simp [hx])); obtain ⟨z0, z1, z2, y0, y1, y2⟩ := hZ6.only ho7 (by simp; omega); obtain ⟨m0, m1, m2⟩ := hm6.only ho7 (by simp; omega); have S1 := hid (hs1.only ho7 (fun b hb => by simp; omega)); have S2 := hid (hs2.only ho7 (fun b hb => by simp; omega)); clear hP7; replace R7 := hid R7; replace ho7 := hid ho7)
          | (go_at_call 29; refine HE.out.mono ?_; rintro e w8 ⟨rfl, rfl⟩))
        obtain ⟨⟨d0, d1, d2⟩, o8⟩ := mf_put z0 z1 z2 (A : Int) (.slice ao4 lo cap4) (.slice ao5 st cap5)
        refine bodyPost_ret (v := .tuple #[.agg #[.int .i64 (A : Int), (.slice ao4 lo cap4), (.slice ao5 st cap5)], .int .i64 0]) (by simp [results, Try.results13, go_sem, d0, d1, d2]) rfl ?_
        rw [hRes.out, hSt.out]
        exact ⟨_, _, rfl, by rw [hLl]; exact (S1.out.only o8 (fun b hb => by simp; omega)).mono (fun b hb _ => by omega), by rw [hTl]; exact (S2.out.only o8 (fun b hb => by simp; omega)).mono (fun b hb _ => by omega), HB7.out.only o8 (by simp; omega) (by simp; omega) (by simp; omega), ((o0.mono (S' := [q, r]) (by simp)).trans h07.out (fun x hx => .inl hx)).next o8 (by simp)⟩
    · rw [if_neg he] at hRes
      replace hRes := hid hRes
      have he' : (e2 == 0) = false := by simpa using he
      have he2 : (e2 != 0) = true := by simpa using he
      go_wp2_with (first
        | (go_at_call 28; refine HF.out.mono ?_; rintro e w7 ⟨rfl, hB7, ho7⟩; have HB7 := hid hB7; obtain ⟨v7, k7, R7, hP7⟩ := hB7; have HE := hid (err_any R7.rd); have c7 := R7.c0; have h07 : Hid (Only [q, r] W0 w7) := h06.trans ho7 (fun x hx => .inl (by simp at hx; simp [hx])); obtain ⟨z0, z1, z2, y0, y1, y2⟩ := hZ6.only ho7 (by simp; omega); obtain ⟨m0, m1, m2⟩ := hm6.only ho7 (by simp; omega); have S1 := hid (hs1.only ho7 (fun b hb => by simp; omega)); have S2 := hid (hs2.only ho7 (fun b hb => by simp; omega)); clear hP7; replace R7 := hid R7; replace ho7 := hid ho7)
        | (go_at_call 29; refine HE.out.mono ?_; rintro e w8 ⟨rfl, rfl⟩))
      obtain ⟨⟨d0, d1, d2⟩, o8⟩ := mf_put z0 z1 z2 0 (.slice none 0 0) (.slice none 0 0)
      refine bodyPost_ret (v := .tuple #[.agg #[.int .i64 0, (.slice none 0 0), (.slice none 0 0)], .int .i64 e2]) (by simp [results, Try.results13, go_sem, d0, d1, d2]) rfl ?_
      rw [hRes.out, hSt.out]
      exact ⟨_, _, rfl, SlV.nil _ _, SlV.nil _ _, HB7.out.only o8 (by simp; omega) (by simp; omega) (by simp; omega), ((o0.mono (S' := [q, r]) (by simp)).trans h07.out (fun x hx => .inl hx)).next o8 (by simp)⟩

end Go.Proofs.Ytmghmmkjcgopaaa
