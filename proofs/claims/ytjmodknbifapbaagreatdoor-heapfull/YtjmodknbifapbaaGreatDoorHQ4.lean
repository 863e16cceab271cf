/-
  The contract of heap's Array at numbers' types. No conditions beyond the bounds of a law's own.
-/
import Derived.Test.YtjmodknbifapbaaGreatDoorHQ3
import Derived.Deep.DeepCutAuto
namespace Go.Proofs.YtjmodknbifapbaaGreatDoor
open Go.RowKit

theorem only_below {w w' : World} (h : Below w.heap.size w w') : Only [] w w' := ⟨h.os, h.tape, h.output, h.size, fun k hk _ => h.block k hk⟩

/-- What is asked of a world: that a number's type is below itself, wherever later. -/
def SubAt (w : World) (p : Value) : Prop := ∀ W : World, Only [] w W → Calls Tryz.prog 21 #[p, .agg #[.int .i64 0, .string ⟨#[]⟩], .agg #[.int .i64 0, .string ⟨#[]⟩]] W fun e w' => e = .returned (.bool true) ∧ Only [] W w'
theorem SubAt.of {w1 w : World} {p : Value} (h : Rn.SubTrue w1 p) (hs : w1.heap.size ≤ w.heap.size) (hb : ∀ k, k < w1.heap.size → w.heap[k]? = w1.heap[k]?) : SubAt w p := fun W ho => by
  refine (h W (Nat.le_trans hs ho.size) fun k hk => (ho.block k (by omega) (by simp)).trans (hb k hk)).mono ?_
  rintro e w' ⟨he, bel⟩
  exact ⟨he, only_below bel⟩

theorem keepT {w W W' : World} {b : Nat} {u v : Value} (h : W.cell? ⟨b, 0, none⟩ = some u ∧ W.cell? ⟨b, 1, none⟩ = some v ∧ Only [] w W) (ho : Only [] W W') : W'.cell? ⟨b, 0, none⟩ = some u ∧ W'.cell? ⟨b, 1, none⟩ = some v ∧ Only [] w W' :=
  ⟨(ho.cell (p := ⟨b, 0, none⟩) (World.block_lt_of_cell? W _ h.1) (by simp)).trans h.1, (ho.cell (p := ⟨b, 1, none⟩) (World.block_lt_of_cell? W _ h.2.1) (by simp)).trans h.2.1, h.2.2.trans ho (by simp)⟩

theorem keepU {w W W' : World} {b g : Nat} {u v x : Value} (h : W.cell? ⟨b, 0, none⟩ = some u ∧ W.cell? ⟨b, 1, none⟩ = some v ∧ W.cell? ⟨g, 0, none⟩ = some x ∧ Only [] w W) (ho : Only [] W W') : W'.cell? ⟨b, 0, none⟩ = some u ∧ W'.cell? ⟨b, 1, none⟩ = some v ∧ W'.cell? ⟨g, 0, none⟩ = some x ∧ Only [] w W' :=
  ⟨(ho.cell (p := ⟨b, 0, none⟩) (World.block_lt_of_cell? W _ h.1) (by simp)).trans h.1, (ho.cell (p := ⟨b, 1, none⟩) (World.block_lt_of_cell? W _ h.2.1) (by simp)).trans h.2.1, (ho.cell (p := ⟨g, 0, none⟩) (World.block_lt_of_cell? W _ h.2.2.1) (by simp)).trans h.2.2.1, h.2.2.2.trans ho (by simp)⟩

set_option maxRecDepth 100000 in
set_option maxHeartbeats 2000000 in
theorem array_no {w : World} {B g n k : Nat} {a : Addr} {most given : Int} {v : Value} {xs : List Value} (h : HeapAt w B g (.pointer (some a)) n most given v xs) (hsub : SubAt w (.pointer (some a))) (hk : k < 60) (h1 : -10000 ≤ most) (h2 : most ≤ 10000) (h3 : 0 ≤ given) (h4 : given ≤ 10000) (hno : ¬ 16 + 8 * (k : Int) ≤ most - given) :
    Calls Tryz.prog 7 #[.pointer (some ⟨g, 0, none⟩), .agg #[.int .i64 0, .string ⟨#[]⟩], .int .i64 (k : Int)] w fun e w' => e = .returned (.tuple #[.int .i64 0, .int .i64 7]) ∧ Only [] w w' := by
  have H := hid h
  have c0 : (w.alloc (.cells #[.int .i64 0, .string ⟨#[]⟩] 34)).cell? ⟨g, 0, none⟩ = some (.pointer (some a)) := cell_alloc _ h.c0
  have hl := h.lt
  have t0 := cell_new w #[.int .i64 0, .string ⟨#[]⟩] 34 0
  have t1 := cell_new w #[.int .i64 0, .string ⟨#[]⟩] 34 1
  have oa : Only [] w (w.alloc (.cells #[.int .i64 0, .string ⟨#[]⟩] 34)) := (Only.refl [] w).alloc _
  have HSUB : Hid (∀ W : World, Only [] w W → Calls Tryz.prog 21 #[.pointer (some a), .agg #[.int .i64 0, .string ⟨#[]⟩], .agg #[.int .i64 0, .string ⟨#[]⟩]] W fun e w' => e = .returned (.bool true) ∧ Only [] W w') := hid hsub
  have od : Only [] w (w.alloc (.cells #[.int .i64 0, .string ⟨#[]⟩] 34)).drew := oa.drew
  have hd1 : decide ((k : Int) < 0) = false := decide_eq_false (by omega)
  have hd2 : decide ((k : Int) > 65536) = false := decide_eq_false (by omega)
  have hn1 : ¬ (k : Int) < 0 := by omega
  have hn2 : ¬ (k : Int) > 65536 := by omega
  have hroom : Hid (∀ W : World, Only [] w W → Calls Tryz.prog 22 #[.pointer (some ⟨g, 0, none⟩), .int .i64 (k : Int)] W fun e w' => e = .returned (.bool false) ∧ Only [] W w') := hid fun W hW => by
    have := room_any (H.out.only hW) (k := k) (by omega) h1 h2 h3 h4
    rw [decide_eq_false hno] at this
    exact this
  clear h hsub oa
  go_enter Tryz.func7, Tryz.ntmps7
  go_wp2
  go_region_held3 (fun w' => w'.cell? ⟨w.heap.size, 0, none⟩ = some (.int .i64 0) ∧ w'.cell? ⟨w.heap.size, 1, none⟩ = some (.string ⟨#[]⟩) ∧ w'.cell? ⟨g, 0, none⟩ = some (.pointer (some a)) ∧ Only [] w w') (first | exact ⟨t0, t1, c0, od⟩ | exact keepU (by assumption) (by assumption) | assumption) (first | (go_at_call 21; with_reducible refine (HSUB.out _ ?_).mono ?_; (assumption); rintro e w6 ⟨rfl, ho6⟩))
  rename_i hh
  obtain ⟨s0, s1, s2, s3⟩ := hh
  go_wp2_with (first | (go_at_call 22; with_reducible refine (hroom.out _ ?_).mono ?_; (assumption); rintro e w7 ⟨rfl, ho7⟩) | fail)
  go_returns
  exact ⟨rfl, s3.trans ho7 (by simp)⟩

theorem own_lt {w : World} {B n : Nat} {e : TypeId} {k : Nat} {v : Value} {xs : List Value} {b : Nat} (h : w.ownsRow B e k v n xs) (hb : v.ownBlock = some b) : b < w.heap.size := by
  rcases h.2 with ⟨rfl, _⟩ | ⟨g, cap, cur, rfl, _, q, _⟩
  · cases hb
  · have : g = b := by simpa [Value.ownBlock] using hb
    subst this
    exact (Array.getElem?_eq_some_iff.1 q).1

theorem keepC {W W' : World} {b : Nat} {u v : Value} {L : List Nat} (h : W.cell? ⟨b, 0, none⟩ = some u ∧ W.cell? ⟨b, 1, none⟩ = some v) (ho : Only L W W') (hb : b ∉ L) : W'.cell? ⟨b, 0, none⟩ = some u ∧ W'.cell? ⟨b, 1, none⟩ = some v :=
  ⟨(ho.cell (p := ⟨b, 0, none⟩) (World.block_lt_of_cell? W _ h.1) hb).trans h.1, (ho.cell (p := ⟨b, 1, none⟩) (World.block_lt_of_cell? W _ h.2) hb).trans h.2⟩

set_option maxRecDepth 100000 in
set_option maxHeartbeats 4000000 in
theorem array_yes {w : World} {B g n k : Nat} {a : Addr} {most given : Int} {v : Value} {xs : List Value} (h : HeapAt w B g (.pointer (some a)) n most given v xs) (hsub : SubAt w (.pointer (some a))) (hn : n ≤ 100) (hk : k < 60) (h1 : -10000 ≤ most) (h2 : most ≤ 10000) (h3 : 0 ≤ given) (h4 : given ≤ 10000) (hyes : 16 + 8 * (k : Int) ≤ most - given) :
    Calls Tryz.prog 7 #[.pointer (some ⟨g, 0, none⟩), .agg #[.int .i64 0, .string ⟨#[]⟩], .int .i64 (k : Int)] w fun e w' => ∃ v' xs', e = .returned (.tuple #[.int .i64 ((n : Int) + 1), .int .i64 0]) ∧ HeapAt w' B g (.pointer (some a)) (n + 1) most (given + (16 + 8 * (k : Int))) v' xs' ∧ Only (g :: v.ownBlock.toList) w w' := by
  have H := hid h
  have c0 : (w.alloc (.cells #[.int .i64 0, .string ⟨#[]⟩] 34)).cell? ⟨g, 0, none⟩ = some (.pointer (some a)) := cell_alloc _ h.c0
  have hl := h.lt
  have t0 := cell_new w #[.int .i64 0, .string ⟨#[]⟩] 34 0
  have t1 := cell_new w #[.int .i64 0, .string ⟨#[]⟩] 34 1
  have oa : Only [] w (w.alloc (.cells #[.int .i64 0, .string ⟨#[]⟩] 34)) := (Only.refl [] w).alloc _
  have HSUB : Hid (∀ W : World, Only [] w W → Calls Tryz.prog 21 #[.pointer (some a), .agg #[.int .i64 0, .string ⟨#[]⟩], .agg #[.int .i64 0, .string ⟨#[]⟩]] W fun e w' => e = .returned (.bool true) ∧ Only [] W w') := hid hsub
  have od : Only [] w (w.alloc (.cells #[.int .i64 0, .string ⟨#[]⟩] 34)).drew := oa.drew
  have hd1 : decide ((k : Int) < 0) = false := decide_eq_false (by omega)
  have hd2 : decide ((k : Int) > 65536) = false := decide_eq_false (by omega)
  have hn1 : ¬ (k : Int) < 0 := by omega
  have hn2 : ¬ (k : Int) > 65536 := by omega
  have hroom : Hid (∀ W : World, Only [] w W → Calls Tryz.prog 22 #[.pointer (some ⟨g, 0, none⟩), .int .i64 (k : Int)] W fun e w' => e = .returned (.bool true) ∧ Only [] W w') := hid fun W hW => by
    have := room_any (H.out.only hW) (k := k) (by omega) h1 h2 h3 h4
    rw [decide_eq_true hyes] at this
    exact this
  have HBL : Hid (∀ W : World, Calls Tryz.prog 25 #[.agg #[.int .i64 0, .string ⟨#[]⟩]] W fun e w' => e = .returned (.agg #[.bool false, .int .i64 0]) ∧ Only [] W w') := hid fun W => (Rn.blank_any W).mono fun e w' ⟨he, hb⟩ => ⟨he, only_below hb⟩
  have HRE : Hid (∀ (W : World) (b : Nat), W.cell? ⟨b, 0, none⟩ = some (.bool false) → W.cell? ⟨b, 1, none⟩ = some (.int .i64 0) → Calls Tryz.prog 24 #[.slice (some ⟨b, 0, none⟩) 1 1, .int .i64 (k : Int)] W fun e w' => ∃ ar cr, e = .returned (.slice ar k cr) ∧ Only [] W w') := hid fun W b e0 e1 => (Rn.repeat_any hk e0 e1).mono fun e w' ⟨ar, cr, he, hb⟩ => ⟨ar, cr, he, only_below hb⟩
  have hout : Hid (∀ b, w.heap.size ≤ b → b ∉ g :: v.ownBlock.toList) := hid fun b hb hx => by
    rcases List.mem_cons.1 hx with rfl | hx
    · omega
    · have hv : v.ownBlock = some b := by simpa using hx
      have := own_lt H.out.own hv
      omega
  have HADD : Hid (∀ (W : World) (b : Nat) (ar : Option Addr) (cr : Nat), Only [] w W → w.heap.size ≤ b → W.cell? ⟨b, 0, none⟩ = some (.slice ar k cr) → Calls Tryz.prog 23 #[.pointer (some ⟨g, 0, none⟩), .iface 67 (.pointer (some ⟨b, 0, none⟩))] W fun e w' =>
      ∃ v' xs', e = .returned (.int .i64 ((n : Int) + 1)) ∧ HeapAt w' B g (.pointer (some a)) (n + 1) most (given + (16 + 8 * (k : Int))) v' xs' ∧ Only (g :: v.ownBlock.toList) W w' ∧ Only (g :: v.ownBlock.toList) w w') := hid fun W b ar cr hW hb hc => by
    refine (add_any (H.out.only hW) hc (fun b' hb' e => ?_) hn (by omega) h3 h4).mono ?_
    · subst e
      have := own_lt H.out.own hb'
      omega
    · rintro e w' ⟨v', xs', he, hH, ho⟩
      exact ⟨v', xs', he, hH, ho, (hW.mono (S' := g :: v.ownBlock.toList) (by simp)).trans ho (fun x hx => .inl hx)⟩
  clear h hsub oa
  go_enter Tryz.func7, Tryz.ntmps7
  go_wp2
  go_region_held3 (fun w' => w'.cell? ⟨w.heap.size, 0, none⟩ = some (.int .i64 0) ∧ w'.cell? ⟨w.heap.size, 1, none⟩ = some (.string ⟨#[]⟩) ∧ w'.cell? ⟨g, 0, none⟩ = some (.pointer (some a)) ∧ Only [] w w') (first | exact ⟨t0, t1, c0, od⟩ | exact keepU (by assumption) (by assumption) | assumption) (first | (go_at_call 21; with_reducible refine (HSUB.out _ ?_).mono ?_; (assumption); rintro e w6 ⟨rfl, ho6⟩))
  rename_i hh
  obtain ⟨s0, s1, s2, s3⟩ := hh
  clear t0 t1 c0 od s2 ho6
  go_wp2_with (first | (go_at_call 22; with_reducible refine (hroom.out _ ?_).mono ?_; (assumption); rintro e w7 ⟨rfl, ho7⟩) | fail)
  obtain ⟨r0, r1, r3⟩ := keepT ⟨s0, s1, s3⟩ ho7
  clear s0 s1 s3 ho7
  have O7 := hid r3.drew
  have hb4 : w.heap.size ∉ g :: v.ownBlock.toList := hout.out _ (Nat.le_refl _)
  go_region_held3 (fun w' => w'.cell? ⟨w.heap.size, 0, none⟩ = some (.int .i64 0) ∧ w'.cell? ⟨w.heap.size, 1, none⟩ = some (.string ⟨#[]⟩)) (first | exact ⟨r0, r1⟩ | exact keepC (by assumption) (by assumption) hb4 | exact keepC (by assumption) (by assumption) List.not_mem_nil | exact keepC (by assumption) ((Only.refl [] _).alloc _) List.not_mem_nil | assumption) (first
    | (go_at_call 25; with_reducible refine (HBL.out _).mono ?_; rintro e w8 ⟨rfl, ho8⟩; have O8 := hid (O7.out.trans ho8 (by simp)))
    | (go_at_call 24; with_reducible refine (HRE.out _ _ ?_ ?_).mono ?_; (exact (cell_new _ _ _ 0).trans rfl); (exact (cell_new _ _ _ 1).trans rfl); rintro e w9 ⟨ar, cr, rfl, ho9⟩; have O9 := hid ((O8.out.alloc _).trans ho9 (by simp)))
    | (go_at_call 23; with_reducible refine (HADD.out _ _ ar cr ?_ ?_ ?_).mono ?_; (exact O9.out.alloc _); (exact O9.out.size); (exact (cell_new _ _ _ 0).trans rfl); rintro e w10 ⟨v', xs', rfl, hH, ho10, ho⟩))
  go_wp2
  go_returns
  exact ⟨v', xs', rfl, hH, ho⟩

end Go.Proofs.YtjmodknbifapbaaGreatDoor
