/-
  The contracts of the second program's swapped, Swap. A row has at most a million places.
-/
import Derived.Test.YtpjkgdkebkkjeaaGreatDoorFC8
namespace Go.Proofs.YtpjkgdkebkkjeaaGreatDoor
open Go.RowKit

/-- What stands all along: what is put for what, the row that is read, the row that grows. -/
structure SwI (w wr : World) (a b : Vt) (ao : Option Addr) (d : Nat) (l : List Vt) (v : Value) (i : Nat) : Prop where
  fa : VtAt wr w.heap.size 0 a
  fb : VtAt wr (w.heap.size + 1) 0 b
  rd : RS wr ao (vcs l) d
  own : OwV wr (w.heap.size + 2) v ((l.take i).map (swV a b))
  only : Only [] w wr
  dl : vcs l ≠ [] → d < w.heap.size

theorem SwI.next {w wr w' : World} {a b : Vt} {ao : Option Addr} {d : Nat} {l : List Vt} {p p' : Option Addr} {n cap cap' i : Nat} {x : Vt} (h : SwI w wr a b ao d l (.slice p n cap) i) (hi : i < l.length) (hx : swV a b l[i] = x) (hn : n = i)
    (hA : Appd (wr.alloc (.cells #[.int .i64 x.1, .int .i64 x.2.1, .string (str x.2.2.1), .int .i64 x.2.2.2] 25)) w' (w.heap.size + 2) 25 4 p p' n (n + 1) cap' (vcs ((l.take i).map (swV a b)) ++ vcs [x])) :
    SwI w w' a b ao d l (.slice p' (n + 1) cap') (i + 1) := by
  have q1 := (Only.refl [] wr).alloc (.cells #[.int .i64 x.1, .int .i64 x.2.1, .string (str x.2.2.1), .int .i64 x.2.2.2] 25)
  have hS : ∀ y, y ∈ (Value.ownBlock (.slice p n 0)).toList → w.heap.size + 2 ≤ y := fun y hy => by
    have : (Value.slice p n cap).ownBlock = some y := by cases p with | none => simp [Value.ownBlock] at hy | some q => simp [Value.ownBlock] at hy ⊢; exact hy.symm
    exact (own_block h.own this).1
  have hlist : (l.take (i + 1)).map (swV a b) = (l.take i).map (swV a b) ++ [x] := by
    rw [List.take_add_one, List.getElem?_eq_getElem hi, Option.toList_some, List.map_append, List.map_cons, List.map_nil, hx]
  have hcnt : ((l.take (i + 1)).map (swV a b)).length = n + 1 := by simp; omega
  refine ⟨(h.fa.only q1 (by simp)).only hA.only fun hm => ?_, (h.fb.only q1 (by simp)).only hA.only fun hm => ?_, ?_, ?_, (h.only.trans q1 (by simp)).next hA.only fun y hy => by have := hS y hy; omega, h.dl⟩
  · have := hS _ hm; omega
  · have := hS _ hm; omega
  · exact (h.rd.only0 q1).only hA.only fun hl hm => by have := hS _ hm; have := h.dl hl; omega
  · have := hA.own
    rw [← vcs_append, ← hlist] at this
    show w'.ownsRow _ _ _ _ _ _
    rw [hcnt]
    exact this

theorem SwI.zero {w wr wx : World} {a b : Vt} {ao : Option Addr} {d : Nat} {l : List Vt} {v : Value} {i : Nat} (h : SwI w wr a b ao d l v i) (ho : Only [] wr wx) : SwI w wx a b ao d l v i :=
  ⟨h.fa.only ho (by simp), h.fb.only ho (by simp), h.rd.only0 ho, rows_only h.own ho (by simp), h.only.trans ho (by simp), h.dl⟩
theorem vcs_one1 (x : Vt) : (vcs [x]).length = 1 * 4 := rfl

set_option maxHeartbeats 4000000 in
set_option maxRecDepth 100000 in
theorem swapped_any {w : World} (a b : Vt) {l : List Vt} {vl : Value} (hl : Rd w vl l) (n1 : l.length ≤ 1000000) :
    Calls Tryz.prog 24 #[vl, vtV a, vtV b] w fun e w' => ∃ v, e = .returned v ∧ OwV w' w.heap.size v (l.map (swV a b)) ∧ Only [] w w' := by
  obtain ⟨ao, ac, d, rfl, rl, el⟩ := hl
  have o1 := ((Only.refl [] w).alloc (.cells #[.int .i64 a.1, .int .i64 a.2.1, .string (str a.2.2.1), .int .i64 a.2.2.2] 25)).alloc (.cells #[.int .i64 b.1, .int .i64 b.2.1, .string (str b.2.2.1), .int .i64 b.2.2.2] 25)
  have VA : VtAt ((w.alloc (.cells #[.int .i64 a.1, .int .i64 a.2.1, .string (str a.2.2.1), .int .i64 a.2.2.2] 25)).alloc (.cells #[.int .i64 b.1, .int .i64 b.2.1, .string (str b.2.2.1), .int .i64 b.2.2.2] 25)) w.heap.size 0 a := VtAt.alloc ⟨by rw [cell_new]; rfl, by rw [cell_new]; rfl, by rw [cell_new]; rfl, by rw [cell_new]; rfl⟩ _
  have VB : VtAt ((w.alloc (.cells #[.int .i64 a.1, .int .i64 a.2.1, .string (str a.2.2.1), .int .i64 a.2.2.2] 25)).alloc (.cells #[.int .i64 b.1, .int .i64 b.2.1, .string (str b.2.2.1), .int .i64 b.2.2.2] 25)) (w.heap.size + 1) 0 b := by
    rw [show w.heap.size + 1 = (w.alloc (.cells #[.int .i64 a.1, .int .i64 a.2.1, .string (str a.2.2.1), .int .i64 a.2.2.2] 25)).heap.size by simp]
    exact ⟨by rw [cell_new]; rfl, by rw [cell_new]; rfl, by rw [cell_new]; rfl, by rw [cell_new]; rfl⟩
  have I0 : Hid (SwI w ((w.alloc (.cells #[.int .i64 a.1, .int .i64 a.2.1, .string (str a.2.2.1), .int .i64 a.2.2.2] 25)).alloc (.cells #[.int .i64 b.1, .int .i64 b.2.1, .string (str b.2.2.1), .int .i64 b.2.2.2] 25)) a b ao d l (.slice none 0 0) 0) := hid ⟨VA, VB, rl.only0 o1, World.ownsRow_nil _ _ _ _, o1, fun h => rl.lt h⟩
  have hS0 : w.heap.size + 2 ≤ ((w.alloc (.cells #[.int .i64 a.1, .int .i64 a.2.1, .string (str a.2.2.1), .int .i64 a.2.2.2] 25)).alloc (.cells #[.int .i64 b.1, .int .i64 b.2.1, .string (str b.2.2.1), .int .i64 b.2.2.2] 25)).heap.size := by simp
  replace hS0 := hid hS0
  replace el := hid el
  clear VA VB o1 rl
  unfold vtV
  go_enter Tryz.func24, Tryz.ntmps24
  go_wp2_with fail
  go_loopw [7, 8] (fun v7 v8 wr => ∃ (i : Nat) (p : Option Addr) (cap : Nat), i ≤ l.length ∧ v8 = .int .i64 (i : Int) ∧ v7 = .slice p i cap ∧ Hid (SwI w wr a b ao d l (.slice p i cap) i) ∧ Hid (w.heap.size + 2 ≤ wr.heap.size)) (fun _ v8 _ => l.length - (intOf v8).toNat)
  case atStart => exact ⟨0, none, 0, Nat.zero_le _, rfl, rfl, I0, hS0⟩
  case round =>
    obtain ⟨i, p, cap, hi, rfl, rfl, hJ, hsz⟩ := hrel
    clear I0 hS0
    by_cases hlt : i < l.length
    · have g1' : ((i : Int) < (l.length : Int)) := by omega
      obtain ⟨off, rfl, hV⟩ := hJ.out.rd.vtAt hlt
      obtain ⟨t, ht⟩ : ∃ t, t = l[i] := ⟨_, rfl⟩
      rw [← ht] at hV
      replace ht := hid ht
      have HE : ∀ w, _ := fun w => eq_vt t a w
      unfold vtV at HE
      obtain ⟨e0, e1, e2, e3⟩ := hV
      obtain ⟨a0, a1, a2, a3⟩ := hJ.out.fa
      obtain ⟨b0, b1, b2, b3⟩ := hJ.out.fb
      simp only [Nat.zero_add] at a1 a2 a3 b1 b2 b3
      go_upto_region 5 with fail
      go_quiet (fail)
      have hJ2 := hid (hJ.out.zero ((Only.refl [] wr).drewM nq))
      clear hJ
      by_cases ea : t = a
      · have hd : decide (t = a) = true := by simp [ea]
        rw [hd]
        have hx : swV a b l[i] = b := if_pos (ht.out.symm.trans ea)
        replace hx := hid hx
        clear ea hd HE
        have hw := (rows_only hJ2.out.own ((Only.refl [] _).alloc (.cells #[.int .i64 b.1, .int .i64 b.2.1, .string (str b.2.2.1), .int .i64 b.2.2.2] 25)) (by simp))
        have hcn : ((l.take i).map (swV a b)).length = i := by simp; omega
        unfold OwV at hw
        rw [hcn] at hw
        replace hw := hid hw
        have R := hid (rows_vt (wr.drewN nq) b.1 b.2.1 b.2.2.2 b.2.2.1 (b := wr.heap.size) rfl)
        have hsz2 : w.heap.size + 2 ≤ ((wr.drewN nq).alloc (.cells #[.int .i64 b.1, .int .i64 b.2.1, .string (str b.2.2.1), .int .i64 b.2.2.2] 25)).heap.size := by have := hsz.out; simp; omega
        replace hsz2 := hid hsz2
        clear hcn
        go_wp2_with (refine wpList_append_any rfl (.tmp 21) (.tmp 23) elVt Tryz.underlying26 rfl (B := w.heap.size + 2) (ys := vcs [b]) (d := wr.heap.size) rfl rfl hw.out R.out (vcs_one1 b) (vcs_one _) (fun h => by cases h) (by omega) hsz2.out ?_; intro p' cap' w' hA)
        have fin := hJ2.out.next hlt hx.out rfl hA
        have hsz3 := Nat.le_trans hsz2.out hA.only.size
        exact ⟨⟨i + 1, p', cap', by omega, by go_num, rfl, hid fin, hid hsz3⟩, by simp [intOf]; omega⟩
      · have hd : decide (t = a) = false := by simp [ea]
        rw [hd]
        have hx : swV a b l[i] = t := by rw [← ht.out]; exact if_neg ea
        replace hx := hid hx
        clear ea hd HE
        have hw := (rows_only hJ2.out.own ((Only.refl [] _).alloc (.cells #[.int .i64 t.1, .int .i64 t.2.1, .string (str t.2.2.1), .int .i64 t.2.2.2] 25)) (by simp))
        have hcn : ((l.take i).map (swV a b)).length = i := by simp; omega
        unfold OwV at hw
        rw [hcn] at hw
        replace hw := hid hw
        have R := hid (rows_vt (wr.drewN nq) t.1 t.2.1 t.2.2.2 t.2.2.1 (b := wr.heap.size) rfl)
        have hsz2 : w.heap.size + 2 ≤ ((wr.drewN nq).alloc (.cells #[.int .i64 t.1, .int .i64 t.2.1, .string (str t.2.2.1), .int .i64 t.2.2.2] 25)).heap.size := by have := hsz.out; simp; omega
        replace hsz2 := hid hsz2
        clear hcn
        go_wp2_with (refine wpList_append_any rfl (.tmp 25) (.tmp 30) elVt Tryz.underlying26 rfl (B := w.heap.size + 2) (ys := vcs [t]) (d := wr.heap.size) rfl rfl hw.out R.out (vcs_one1 t) (vcs_one _) (fun h => by cases h) (by omega) hsz2.out ?_; intro p' cap' w' hA)
        have fin := hJ2.out.next hlt hx.out rfl hA
        have hsz3 := Nat.le_trans hsz2.out hA.only.size
        exact ⟨⟨i + 1, p', cap', by omega, by go_num, rfl, hid fin, hid hsz3⟩, by simp [intOf]; omega⟩
    · have g1' : ¬ ((i : Int) < (l.length : Int)) := by omega
      obtain rfl : i = l.length := by omega
      go_wp2
      go_ret
      have fin := hJ.out.own
      rw [List.take_length] at fin
      exact ⟨_, rfl, rows_mono fin (by omega), hJ.out.only⟩

end Go.Proofs.YtpjkgdkebkkjeaaGreatDoor
