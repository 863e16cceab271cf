/-
  What the proof leans on, part 8 of 28. The conditions stand in each theorem.
-/
import Derived.Test.YtildemmkhndhjaaGreatDoorB07
import Derived.Test.YtildemmkhndhjaaGreatDoorB01
import Derived.Lib.Builder
import Derived.Lib.FrozenHead
import Derived.Lib.FrozenHead2
import Derived.Lib.OthersKept
import Derived.Lib.AppendStr
import Derived.Shelf.Strings.BuilderK
import Derived.Shelf.Strings.Repeat
import Derived.Shelf.Strconv.Itoa4
import Derived.Test.YtildemmkhndhjaaGreatDoorProg
import Derived.Test.YtildemmkhndhjaaGreatDoorB02
import Derived.Lib.Repeat
import Derived.Test.YtildemmkhndhjaaGreatDoorB05
namespace Go.Proofs.YtildemmkhndhjaaGreatDoor
open Go.RowKit

/-- Does an instruction begin there? -/
def begunI (l : List In) (k : Nat) : Bool := l.any fun i => decide (i.1 = (k : Int))
def wrongI (all : List In) (l : List En) (locals : Int) (i : In) : Int := if rowI i.2.1 = 2 then (if locals ≤ i.2.2.1 then 43 else 0) else if rowI i.2.1 = 4 then (if begunI all i.2.2.1.toNat = true then 0 else 18) else entryI l i
def checkL (all : List In) (l : List En) (locals : Int) : List In → Int × Int
 | [] => (0, 0)
 | i :: r => if wrongI all l locals i = 0 then checkL all l locals r else (i.1, wrongI all l locals i)
def checkI (code : List UInt8) (l : List En) (locals : Int) : Int × Int := if code = [] then (0, 46) else if 1024 < code.length then (0, 5) else if (allR code).2.2 = 0 then checkL (allR code).1 l locals (allR code).1 else ((allR code).2.1, (allR code).2.2)

theorem wrongB_eq {bl : List Bool} {all : List In} (h : ∀ k, bl.getD k false = begunI all k) (l : List En) (locals : Int) (i : In) : wrongB bl l locals i = wrongI all l locals i := by
 unfold wrongB wrongI
 rw [h]

theorem begun_snoc (l : List In) (i : In) (k : Nat) : begunI (l ++ [i]) k = (begunI l k || decide (i.1 = (k : Int))) := by simp [begunI]

theorem begun_set {bl : List Bool} {l : List In} {i : In} {p : Nat} (h : ∀ k, bl.getD k false = begunI l k) (hi : i.1 = (p : Int)) (hp : p < bl.length) : ∀ k, (bl.set p true).getD k false = begunI (l ++ [i]) k := by
 intro k
 rw [begun_snoc, ← h k, hi]
 by_cases hk : k = p
 ·subst hk
  simp [List.getD, hp]
 ·have : ¬ ((p : Int) = (k : Int)) := by omega
  simp [List.getD, Ne.symm hk, this]

theorem checkL_drop {all : List In} {l : List En} {locals : Int} {r : List In} {j : Nat} (h : j < r.length) : checkL all l locals (r.drop j) = if wrongI all l locals r[j] = 0 then checkL all l locals (r.drop (j + 1)) else (r[j].1, wrongI all l locals r[j]) := by
 rw [List.drop_eq_getElem_cons h, checkL]

theorem elBool : ElT 4 (.bool false) 1 1 := ⟨by kernel_rfl, rfl, by decide, by decide⟩

theorem lcs_replicate (n : Nat) : (madeCells (Value.bool false).cells (n * 1)).toList = lcs (List.replicate n false) := by
 have : (Value.bool false).cells = #[Value.bool false] := rfl
 rw [this, Nat.mul_one, toList_madeCells_one]
 simp [lcs]

theorem lcs_set (l : List Bool) (k : Nat) (b : Bool) : (lcs l).set k (.bool b) = lcs (l.set k b) := by
 simp [lcs, List.map_set]

/-- The bounds of a method in memory. -/
structure BdAt (w : World) (b : Nat) (x y z : Value) : Prop where
 c0 : w.cell? ⟨b, 0, none⟩ = some x
 c1 : w.cell? ⟨b, 1, none⟩ = some y
 c2 : w.cell? ⟨b, 2, none⟩ = some z

theorem bdAt_new (w : World) (x y z : Value) (t : TypeId) : BdAt (w.alloc (.cells #[x, y, z] t)) w.heap.size x y z :=
 ⟨by rw [cell_new]; rfl, by rw [cell_new]; rfl, by rw [cell_new]; rfl⟩

theorem BdAt.only {w w' : World} {S : List Nat} {b : Nat} {x y z : Value} (h : BdAt w b x y z) (ho : Only S w w') (hb : b ∉ S) : BdAt w' b x y z := by
 have hl : b < w.heap.size := World.block_lt_of_cell? w _ h.c0
 exact ⟨by rw [ho.cell hl hb]; exact h.c0, by rw [ho.cell hl hb]; exact h.c1, by rw [ho.cell hl hb]; exact h.c2⟩

theorem begun_nil (n : Nat) : ∀ k, (List.replicate n false).getD k false = begunI [] k := by
 intro k
 simp only [begunI, List.any_nil, List.getD, List.getElem?_replicate]
 split <;> rfl

set_option maxHeartbeats 2000000 in
set_option maxRecDepth 100000 in
theorem icheck_any {w : World} {ao eo : Option Addr} {code : List UInt8} {l : List En} {d de cap ecap : Nat} (hB : RS w ao (bcs code) d) (hc : code.length ≤ cap) (hcl : cap ≤ 9223372036854775807)
  (hE : ES w eo l de) (hl : l.length ≤ 9223372036854775807) (hA : ∀ e ∈ l, e.2.1.length ≤ 9223372036854775807) (locals : Int) :
  Calls Tryz.prog 125 #[.slice ao code.length cap, .slice eo l.length ecap, .int .i64 locals] w fun e w' => e = .returned (.tuple #[.int .i64 (checkI code l locals).1, .int .i64 (checkI code l locals).2]) ∧ Only [] w w' := by
 unfold checkI
 by_cases h0 : code = []
 ·subst h0
  rw [if_pos rfl]
  clear hB hE
  go_enter Tryz.func125, Tryz.ntmps125
  go_wp2
  go_ret2
  exact ⟨rfl, Only.refl _ _⟩
 rw [if_neg h0]
 have hpos := List.length_pos_iff.2 h0
 have g0 : ¬ ((code.length : Int) = 0) := by omega
 have g0' : ((code.length : Int) == 0) = false := by simpa using g0
 clear h0
 by_cases h1 : 1024 < code.length
 ·rw [if_pos h1]
  have g1 : (1024 < (code.length : Int)) := by omega
  clear hB hE
  go_enter Tryz.func125, Tryz.ntmps125
  go_wp2
  go_ret2
  exact ⟨rfl, Only.refl _ _⟩
 rw [if_neg h1]
 have g1 : ¬ (1024 < (code.length : Int)) := by omega
 have HA := hid (all_any hB hc hcl (by omega))
 have hev := all_each code
 have hln := all_len code
 generalize allR code = X at *
 obtain ⟨al, aa, ae⟩ := X
 simp only at hev hln ⊢
 clear hB
 by_cases hae : ae = 0
 ·subst hae
  rw [if_pos rfl]
  have HW := hid (fun W (hW : Only [] w W) (go : Option Addr) (bl : List Bool) (dg gc : Nat) (hG : RS W go (lcs bl) dg) (hbl : bl.length ≤ 9223372036854775807) (i : In) (hn : 0 ≤ i.2.2.1) => wrong_in (cap := ecap) (gc := gc) (hE.only hW (by simp)) hl hA hG hbl locals i.1 i.2.1 i.2.2.1 i.2.2.2 hn)
  clear hE hA
  obtain ⟨i0, hi, hz0, hz1, hz2⟩ := elBool.parts
  obtain ⟨x, hx⟩ : ∃ x, x = checkL al l locals al := ⟨_, rfl⟩
  rw [← hx]
  have hr : Hid (x = checkL al l locals (al.drop 0)) := by rw [hx]; rfl
  clear hx
  replace hev := hid hev
  go_enter Tryz.func125, Tryz.ntmps125
  go_wp2_with (first | (go_at_call 169; refine HA.out.mono ?_; rintro e w1 ⟨ao1, cap1, rfl, hown1, ho1⟩) | (at_make; refine wpList_make_full _ rfl (.tmp 36) (.tmp 36) 246 rfl w1.heap.size 4 i0 (.bool false) 1 Tryz.underlying246 hi hz0 hz1 .i64 .i64 _ _ code.length rfl rfl rfl rfl (by rw [hz2]; omega) (by unfold maxLen; omega) (Nat.le_refl _) ?_; intro w2 hownG hgr) | fail)
  have hG0 := hownG
  rw [lcs_replicate] at hG0
  have s2 := hgr.size
  have hg2 : w1.heap.size < w2.heap.size := by
   have := hG0.lt w1.heap.size rfl
   omega
  have o2 := hid ((ho1.next (Only.of_grown hgr) (by simp)).alloc (.cells #[.slice eo l.length ecap, .int .i64 locals, .slice (some ⟨w1.heap.size, 0, none⟩) code.length code.length] 248))
  obtain ⟨d1, hR1⟩ : ∃ d, RS w1 ao1 (qcs al) d := ⟨_, (RS.of_owns hown1).1⟩
  have hd1 : al ≠ [] → d1 < w1.heap.size := fun h => hR1.lt (qcs_ne h)
  have R1 := hid (hR1.only0 ((Only.of_grown hgr).next ((Only.refl [] w2).alloc (.cells #[.slice eo l.length ecap, .int .i64 locals, .slice (some ⟨w1.heap.size, 0, none⟩) code.length code.length] 248)) (by simp)))
  have B1 := hid (bdAt_new w2 (.slice eo l.length ecap) (.int .i64 locals) (.slice (some ⟨w1.heap.size, 0, none⟩) code.length code.length) 248)
  have G1 := hid (hG0.alloc (.cells #[.slice eo l.length ecap, .int .i64 locals, .slice (some ⟨w1.heap.size, 0, none⟩) code.length code.length] 248))
  have hN0 := hid (begun_nil code.length)
  have hlt1 := ho1.size
  clear hownG hG0 hgr hown1 hR1 HA
  replace hd1 := hid hd1
  go_loopw [41] (fun i wr => ∃ (j : Nat) (bl : List Bool), j ≤ al.length ∧ i = .int .i64 (j : Int) ∧ Hid (bl.length = code.length) ∧ Hid (∀ k, bl.getD k false = begunI (al.take j) k) ∧ Hid (wr.ownsRow w1.heap.size 4 1 (.slice (some ⟨w1.heap.size, 0, none⟩) code.length code.length) code.length (lcs bl)) ∧ Hid (BdAt wr w2.heap.size (.slice eo l.length ecap) (.int .i64 locals) (.slice (some ⟨w1.heap.size, 0, none⟩) code.length code.length)) ∧ Hid (RS wr ao1 (qcs al) d1) ∧ Hid (Only [] w wr)) (fun i _ => al.length - (intOf i).toNat)
  case atStart => exact ⟨0, List.replicate code.length false, by omega, rfl, by simp [Hid], hN0, G1, B1, R1, o2⟩
  case round =>
   obtain ⟨j, bl, hj, rfl, hbl, hbg, hG, hBd, hR, hor⟩ := hrel
   clear G1 B1 R1 o2 hN0
   by_cases hlt : j < al.length
   ·have g2 : ((j : Int) < (al.length : Int)) := by omega
    obtain ⟨off, rfl, y0, y1, y2, y3⟩ := hR.out.inAt hlt
    obtain ⟨v0, v1, _, _, _, v5, _, _⟩ := hev.out al[j] (List.getElem_mem hlt)
    have htk := List.take_succ_eq_append_getElem hlt
    have hd := hd1.out (fun e => by rw [e] at hlt; simp at hlt)
    clear hev HW hr
    generalize al[j] = i at *
    obtain ⟨p, o, n, s⟩ := i
    simp only at y0 y1 y2 y3 v0 v1 v5
    obtain ⟨p, rfl⟩ : ∃ q : Nat, p = (q : Int) := ⟨p.toNat, by omega⟩
    have hp : p < code.length := by omega
    have hgl : w1.heap.size < wr.heap.size := ((hG.out.lt w1.heap.size rfl)).2
    have z0 : wr.cell? ⟨w1.heap.size, p, none⟩ = some (.bool (bl[p]'(by rw [hbl.out]; exact hp))) := by
     rw [hG.out.cellAt p (by omega), lcs_get bl p (by rw [hbl.out]; exact hp)]
    have z0' := fun o => cell_alloc o z0
    have zf : ∀ o, (wr.alloc o).frozen? ⟨w1.heap.size, p, none⟩ = false := fun o => by rw [frozen_alloc o hgl]; exact hG.out.frozenAt p
    obtain ⟨b0, b1, b2⟩ := hBd.out
    have b2' := fun o => cell_alloc o b2
    have g3 : ((p : Int) < (code.length : Int)) := by omega
    have hbg' : Hid (∀ k, (bl.set p true).getD k false = begunI (al.take (j + 1)) k) := by
     rw [htk]
     exact begun_set hbg.out rfl (by rw [hbl.out]; exact hp)
    have G2 := hG.out.stored p (.bool true)
    rw [lcs_set] at G2
    have oo := hid (((Only.refl [w1.heap.size] wr).setCell (p := ⟨w1.heap.size, p, none⟩) (.inl (by simp)) (.bool true)).alloc (.cells #[.int .i64 (p : Int), .int .i64 o, .int .i64 n, .int .i64 s] 250))
    replace G2 := hid (G2.1.alloc (.cells #[.int .i64 (p : Int), .int .i64 o, .int .i64 n, .int .i64 s] 250))
    clear htk b0 b1 b2 z0 hd1
    go_wp2
    refine ⟨⟨j + 1, bl.set p true, by omega, by go_num, by simpa [Hid] using hbl.out, hbg', G2, hid (hBd.out.only oo.out (by simp; omega)), hid (hR.out.only oo.out (fun _ => by simp; omega)), hid ((hor.out.setCell (p := ⟨w1.heap.size, p, none⟩) (.inr hlt1) _).alloc _)⟩, by simp [intOf]; omega⟩
   ·have g2 : ¬ ((j : Int) < (al.length : Int)) := by omega
    have hbg' : Hid (∀ k, bl.getD k false = begunI al k) := by
     have := hbg.out
     rw [List.take_of_length_le (by omega)] at this
     exact this
    have HW2 := hid (fun W (hW : Only [] w W) (hG : RS W (some ⟨w1.heap.size, 0, none⟩) (lcs bl) w1.heap.size) (i : In) (hn : 0 ≤ i.2.2.1) => HW.out W hW _ bl _ code.length hG (by rw [hbl.out]; omega) i hn)
    simp only [hbl.out, inV, wrongB_eq hbg'.out] at HW2
    clear hbg hbg' HW
    go_wp2
    go_loopw [53] (fun i wr => ∃ (j : Nat), j ≤ al.length ∧ i = .int .i64 (j : Int) ∧ Hid (x = checkL al l locals (al.drop j)) ∧ Hid (wr.ownsRow w1.heap.size 4 1 (.slice (some ⟨w1.heap.size, 0, none⟩) code.length code.length) code.length (lcs bl)) ∧ Hid (BdAt wr w2.heap.size (.slice eo l.length ecap) (.int .i64 locals) (.slice (some ⟨w1.heap.size, 0, none⟩) code.length code.length)) ∧ Hid (RS wr ao1 (qcs al) d1) ∧ Hid (Only [] w wr)) (fun i _ => al.length - (intOf i).toNat)
    case atStart => exact ⟨0, by omega, rfl, hr, hG, hBd, hR, hor⟩
    case round =>
     obtain ⟨j', hj', rfl, hq, hG', hBd', hR', hor'⟩ := hrel
     clear hr hG hBd hR hor
     by_cases hlt' : j' < al.length
     ·have g4 : ((j' : Int) < (al.length : Int)) := by omega
      obtain ⟨off, rfl, y0, y1, y2, y3⟩ := hR'.out.inAt hlt'
      obtain ⟨_, _, _, _, _, _, v6, _⟩ := hev.out al[j'] (List.getElem_mem hlt')
      have hdr := checkL_drop (all := al) (l := l) (locals := locals) hlt'
      rw [← hq.out] at hdr
      clear hq hev hd1
      generalize al[j'] = i at *
      obtain ⟨p, o, n, s⟩ := i
      simp only at y0 y1 y2 y3 v6 hdr
      have oo := hid ((Only.refl [] wr).alloc (.cells #[.int .i64 p, .int .i64 o, .int .i64 n, .int .i64 s] 250))
      have I0 := hid (inAt_new wr p o n s 250)
      obtain ⟨b0, b1, b2⟩ := hBd'.out
      have b0' := fun o => cell_alloc o b0
      have b1' := fun o => cell_alloc o b1
      have b2' := fun o => cell_alloc o b2
      have HW3 := HW2.out _ (hor'.out.next oo.out (by simp)) (RS.of_owns (rows_only hG'.out oo.out (by simp))).1 (p, o, n, s) v6
      simp only at HW3
      generalize wrongI al l locals (p, o, n, s) = er at *
      replace HW3 := hid HW3
      by_cases he : er = 0
      ·subst he
       rw [if_pos rfl] at hdr
       replace hdr := hid hdr
       go_wp2_with (go_at_call 170; refine HW3.out.mono ?_; rintro e w5 ⟨rfl, ho5⟩)
       exact ⟨⟨j' + 1, by omega, by go_num, hdr, hid (rows_only hG'.out (oo.out.next ho5 (by simp)) (by simp)), hid (hBd'.out.only (oo.out.next ho5 (by simp)) (by simp)), hid (hR'.out.only0 (oo.out.next ho5 (by simp))), hid (hor'.out.next (oo.out.next ho5 (by simp)) (by simp))⟩, by simp [intOf]; omega⟩
      ·have ge : (er == 0) = false := by simpa using he
       rw [if_neg he] at hdr
       subst hdr
       go_wp2_with (go_at_call 170; refine HW3.out.mono ?_; rintro e w5 ⟨rfl, ho5⟩; obtain ⟨c0, c1, c2, c3⟩ := I0.out.only ho5 (by simp))
       go_ret2
       exact ⟨rfl, hor'.out.next (oo.out.next ho5 (by simp)) (by simp)⟩
     ·have g4 : ¬ ((j' : Int) < (al.length : Int)) := by omega
      have hxx : x = (0, 0) := by rw [hq.out, List.drop_eq_nil_of_le (by omega)]; rfl
      subst hxx
      clear hq hev hd1 HW2
      go_wp2
      go_ret2
      exact ⟨rfl, hor'.out⟩
 ·have ge : (ae == 0) = false := by simpa using hae
  rw [if_neg hae]
  clear hE hA hev
  go_enter Tryz.func125, Tryz.ntmps125
  go_wp2_with (go_at_call 169; refine HA.out.mono ?_; rintro e w1 ⟨ao1, cap1, rfl, hown1, ho1⟩; clear hown1)
  go_ret2
  exact ⟨rfl, ho1⟩

/-- A builder in block b that holds these bytes. -/
abbrev Bu (B b : Nat) (l : List UInt8) (w : World) : Prop := Lib.IsBuilderF 270 5 B b (Lib.byteCells l) w
abbrev Bs (w w' : World) (b : Nat) : Prop := Lib.OthersKept 5 (some b) w w'

theorem no_escape (x : Value) (w : World) : (callFunc 222 #[x]).run Tryz.prog w = .ok (.value x) w := by
 rw [run_callFunc_extern Tryz.func222 (by kernel_rfl) (by kernel_rfl) (by kernel_rfl) (e := Extern.AbiNoEscape.same) (by kernel_rfl), Lib.run_noEscape]
 rfl

theorem sizeB : (Tryz.prog.info? 270).map (·.size) = some 2 := by kernel_rfl
theorem liesB : liesAt Tryz.prog Tryz.prog.depth 270 (2 / Tryz.prog.cellsOf 270) 0 270 1 = true := by kernel_rfl

set_option maxHeartbeats 400000 in
theorem check_fresh {w : World} {b : Nat} (c0 : w.cell? ⟨b, 0, none⟩ = some (.pointer none)) (hsh : w.shape? b = some (270, 2)) (f0 : w.frozen? ⟨b, 0, none⟩ = false) :
  Calls Tryz.prog 206 #[.pointer (some ⟨b, 0, none⟩)] w fun e w' => e = .returned (.tuple #[]) ∧ w' = w.setCell ⟨b, 0, none⟩ (.pointer (some ⟨b, 0, none⟩)) := by
 obtain ⟨j, hj, hjs⟩ := Option.map_eq_some_iff.1 sizeB
 have k1 := Lib.run_to_unsafe (src := 268) (dst := 128) w ⟨b, 0, none⟩ Tryz.underlying268 Tryz.underlying128 hj (by omega) hsh (Nat.zero_lt_succ 1)
 have k2 := Lib.run_from_unsafe (src := 128) (dst := 268) w ⟨b, 0, none⟩ Tryz.underlying128 Tryz.underlying268 hj hsh liesB
 have k3 := no_escape (.pointer (some ⟨b, 0, none⟩))
 have k4 := fun w => Lib.run_neq_ptr_same (P := Tryz.prog) w ⟨b, 0, none⟩ Tryz.underlying268 hj
 go_enter Tryz.func206, Tryz.ntmps206
 go_wp2
 go_end0
 exact ⟨rfl, rfl⟩

set_option maxHeartbeats 400000 in
theorem check_used {w : World} {b : Nat} (c0 : w.cell? ⟨b, 0, none⟩ = some (.pointer (some ⟨b, 0, none⟩))) :
  Calls Tryz.prog 206 #[.pointer (some ⟨b, 0, none⟩)] w fun e w' => e = .returned (.tuple #[]) ∧ w' = w := by
 obtain ⟨j, hj, hjs⟩ := Option.map_eq_some_iff.1 sizeB
 have k4 := fun w => Lib.run_neq_ptr_same (P := Tryz.prog) w ⟨b, 0, none⟩ Tryz.underlying268 hj
 go_enter Tryz.func206, Tryz.ntmps206
 go_wp2
 go_end0
 exact ⟨rfl, rfl⟩

/-- A builder that was used. -/
abbrev BuAt (B b : Nat) (l : List UInt8) (w : World) : Prop := Lib.BuilderAtF 270 5 B b (.pointer (some ⟨b, 0, none⟩)) (Lib.byteCells l) w

theorem check_any' {B b : Nat} {l : List UInt8} {w : World} (h : Bu B b l w) :
  Calls Tryz.prog 206 #[.pointer (some ⟨b, 0, none⟩)] w fun e w' => e = .returned (.tuple #[]) ∧ BuAt B b l w' ∧ Below B w w' ∧ Bs w w' b := by
 rcases h with h | h
 ·refine (check_fresh h.cell0 h.shape h.frozen0).mono ?_
  rintro e w' ⟨rfl, rfl⟩
  exact ⟨rfl, h.used _, (Below.refl B w).setCell (p := ⟨b, 0, none⟩) h.1 _, (Lib.OthersKept.refl _ _ w).setCell ⟨b, 0, none⟩ rfl _⟩
 ·refine (check_used h.cell0).mono ?_
  rintro e w' ⟨rfl, rfl⟩
  exact ⟨rfl, h, Below.refl B _, Lib.OthersKept.refl _ _ _⟩

theorem infoU : (Tryz.prog.info? 5).map (fun i => (i.zero, i.size, i.bytes)) = some (some (.int .u8 0), 1, 1) := by kernel_rfl

theorem cells_append (a b : List UInt8) : Lib.byteCells (a ++ b) = Lib.byteCells a ++ Lib.byteCells b := by simp [Lib.byteCells]
theorem cells_length (l : List UInt8) : (Lib.byteCells l).length = l.length := by simp [Lib.byteCells]
theorem cells_str (l : List UInt8) : Lib.strCells (str l) = Lib.byteCells l := by
 unfold Lib.strCells Lib.byteCells
 rw [str_data]

/-- What an append to a builder's bytes leaves. -/
theorem bu_put {B b : Nat} {l m : List UInt8} {v v' : Value} {w1 w2 : World} {row : Option Nat} (hB : B ≤ b) (hbk : w1.heap[b]? = some (.cells #[.pointer (some ⟨b, 0, none⟩), v] 270 (0, 0))) (hg : w1.grownBy w2 row) (hne : row ≠ some b)
  (hown : w2.ownsRowF B 5 1 v' (l.length + m.length) (Lib.byteCells l ++ Lib.byteCells m)) :
  w2.heap[b]? = some (.cells #[.pointer (some ⟨b, 0, none⟩), v] 270 (0, 0)) ∧ BuAt B b (l ++ m) (w2.setCell ⟨b, 1, none⟩ v') := by
 have hb2 : w2.heap[b]? = some (.cells #[.pointer (some ⟨b, 0, none⟩), v] 270 (0, 0)) := by
  rw [hg.block b (Array.getElem?_eq_some_iff.1 hbk).1 (fun e => hne e.symm)]
  exact hbk
 refine ⟨hb2, Lib.BuilderAtF.put hB hb2 ?_ (by decide)⟩
 rw [cells_append, List.length_append, cells_length, cells_length]
 exact hown

set_option maxHeartbeats 1000000 in
theorem write_any {B b : Nat} {l : List UInt8} {w : World} (h : Bu B b l w) (m : List UInt8) (hlen : l.length + m.length ≤ 140737488355328) (hBw : B ≤ w.heap.size) :
  Calls Tryz.prog 187 #[.pointer (some ⟨b, 0, none⟩), .string (str m)] w fun e w' => e = .returned (.tuple #[.int .i64 (m.length : Int), .nilIface]) ∧ BuAt B b (l ++ m) w' ∧ Below B w w' ∧ Bs w w' b := by
 obtain ⟨i0, hi, hz0, hz1, hz2⟩ := info_parts infoU
 have HC := hid (check_any' h)
 have hm := str_size m
 go_enter Tryz.func187, Tryz.ntmps187
 go_wp2_with fail
 refine HC.out.mono ?_
 rintro e w1 ⟨rfl, ⟨hB, v, hbk, hown, hne⟩, hb1, hk1⟩
 have c0 : w1.cell? ⟨b, 0, none⟩ = some (.pointer (some ⟨b, 0, none⟩)) := by rw [Lib.cell_of_heap hbk]; rfl
 have c1 : w1.cell? ⟨b, 1, none⟩ = some v := by rw [Lib.cell_of_heap hbk]; rfl
 rw [cells_length] at hown
 have hsz := hb1.size
 go_wp2_with (at_builtin; refine Lib.wpList_append_own_stringF _ rfl (.tmp 12) (.tmp 13) 38 9 rfl B 5 i0 Tryz.underlying38 Tryz.underlying9 hi hz0 hz1 hz2 v l.length (Lib.byteCells l) rfl hown (str m) rfl (by rw [hm]; unfold maxLen; omega) (by omega) (by omega) ?_)
 intro v' w2 hown' hgrow _
 rw [cells_str] at hown'
 obtain ⟨hb2, hat⟩ := bu_put hB hbk hgrow hne hown'
 have d0 : w2.cell? ⟨b, 0, none⟩ = some (.pointer (some ⟨b, 0, none⟩)) := by rw [Lib.cell_of_heap hb2]; rfl
 have d1 : w2.cell? ⟨b, 1, none⟩ = some v := by rw [Lib.cell_of_heap hb2]; rfl
 have f1 : w2.frozen? ⟨b, 1, none⟩ = false := Lib.frozen_of_heap hb2 1
 obtain ⟨ao, n', cap, rfl⟩ : ∃ ao n' cap, v' = .slice ao n' cap := by
  rcases hown'.2 with ⟨hv, _⟩ | ⟨g, cap, cur, fz, hv, _⟩
  ·exact ⟨_, _, _, hv⟩
  ·exact ⟨_, _, _, hv⟩
 go_wp2
 go_ret2
 refine ⟨rfl, hat, ?_, (hk1.grown hgrow (Lib.ownsRowF_kind hown)).setCell ⟨b, 1, none⟩ rfl _⟩
 exact (hb1.grown hgrow (by omega) (fun k hk => (hown.lt k hk).1)).setCell (p := ⟨b, 1, none⟩) hB _

set_option maxHeartbeats 1000000 in
theorem writeByte_any {B b : Nat} {l : List UInt8} {w : World} (h : Bu B b l w) (c : UInt8) (hlen : l.length + 1 ≤ 140737488355328) (hBw : B ≤ w.heap.size) :
  Calls Tryz.prog 189 #[.pointer (some ⟨b, 0, none⟩), .int .u8 (c.toNat : Int)] w fun e w' => e = .returned .nilIface ∧ BuAt B b (l ++ [c]) w' ∧ Below B w w' ∧ Bs w w' b := by
 obtain ⟨i0, hi, hz0, hz1, hz2⟩ := info_parts infoU
 have HC := hid (check_any' h)
 go_enter Tryz.func189, Tryz.ntmps189
 go_wp2_with fail
 refine HC.out.mono ?_
 rintro e w1 ⟨rfl, ⟨hB, v, hbk, hown, hne⟩, hb1, hk1⟩
 have c0 : w1.cell? ⟨b, 0, none⟩ = some (.pointer (some ⟨b, 0, none⟩)) := by rw [Lib.cell_of_heap hbk]; rfl
 have c1 : w1.cell? ⟨b, 1, none⟩ = some v := by rw [Lib.cell_of_heap hbk]; rfl
 rw [cells_length] at hown
 have hsz := hb1.size
 have hlt := (Array.getElem?_eq_some_iff.1 hbk).1
 go_wp2_with (at_builtin; refine wpList_append_ownF _ rfl (.tmp 11) (.tmp 13) 38 rfl B 5 i0 (.int .u8 0) 1 1 Tryz.underlying38 hi hz0 hz1 hz2 rfl (by decide) v l.length (Lib.byteCells l) rfl (hown.alloc _) ⟨w1.heap.size, 0, none⟩ 1 1 [.int .u8 (c.toNat : Int)] rfl rfl ?c1 ?c2 ?c3 ?c4 ?c5 ?_)
 case c1 =>
  intro j u hj
  match j, hj with
  | 0, hj =>
   simp at hj
   subst hj
   rw [Addr.add_lit, cell_new]
   rfl
 case c2 => intro u hu; simp at hu; subst hu; rfl
 case c3 => unfold maxLen; omega
 case c4 => omega
 case c5 => simp; omega
 intro v' w2 hown' hgrow _
 have hbk' : (w1.alloc (.cells #[.int .u8 (c.toNat : Int)] 5)).heap[b]? = some (.cells #[.pointer (some ⟨b, 0, none⟩), v] 270 (0, 0)) := (Lib.alloc_old w1 _ b hlt).trans hbk
 obtain ⟨hb2, hat⟩ := bu_put (m := [c]) hB hbk' hgrow hne hown'
 have d0 : w2.cell? ⟨b, 0, none⟩ = some (.pointer (some ⟨b, 0, none⟩)) := by rw [Lib.cell_of_heap hb2]; rfl
 have d1 : w2.cell? ⟨b, 1, none⟩ = some v := by rw [Lib.cell_of_heap hb2]; rfl
 have f1 : w2.frozen? ⟨b, 1, none⟩ = false := Lib.frozen_of_heap hb2 1
 obtain ⟨ao, n', cap, rfl⟩ : ∃ ao n' cap, v' = .slice ao n' cap := by
  rcases hown'.2 with ⟨hv, _⟩ | ⟨g, cap, cur, fz, hv, _⟩
  ·exact ⟨_, _, _, hv⟩
  ·exact ⟨_, _, _, hv⟩
 go_wp2
 go_ret
 refine ⟨rfl, hat, ?_, ((hk1.alloc _).grown hgrow (Lib.ownsRowF_kind (hown.alloc _))).setCell ⟨b, 1, none⟩ rfl _⟩
 exact ((hb1.alloc (by omega) _).grown hgrow (by simp; omega) (fun k hk => (hown.lt k hk).1)).setCell (p := ⟨b, 1, none⟩) hB _

end Go.Proofs.YtildemmkhndhjaaGreatDoor
namespace Go.Proofs
open Go.Shelf
def Tryz.lays169_ren : Go.Shelf.Ren := ⟨fun | 169 => 190 | n => n, fun | 70 => 268 | 9 => 9 | 0 => 0 | 72 => 270 | 37 => 38 | 127 => 294 | 3 => 3 | 5 => 5 | n => n, fun | n => n⟩
theorem Tryz.lays169 : Go.Proofs.Lays.n169 Tryz.prog Tryz.lays169_ren := {
  mixed := by kernel_rfl
  f169 := Tryz.func190.trans (congrArg some (by kernel_rfl))
  t0 := Tryz.underlying0
  a0 := Tryz.isAgg0
  z0 := Tryz.sizeOf0
  v0 := Tryz.zeroValue0
  t3 := Tryz.underlying3
  a3 := Tryz.isAgg3
  z3 := Tryz.sizeOf3
  v3 := Tryz.zeroValue3
  t9 := Tryz.underlying9
  a9 := Tryz.isAgg9
  z9 := Tryz.sizeOf9
  v9 := Tryz.zeroValue9
  t37 := Tryz.underlying38
  a37 := Tryz.isAgg38
  z37 := Tryz.sizeOf38
  v37 := Tryz.zeroValue38
  t70 := Tryz.underlying268
  a70 := Tryz.isAgg268
  z70 := Tryz.sizeOf268
  v70 := Tryz.zeroValue268
  t72 := Tryz.underlying270
  a72 := Tryz.isAgg270
  z72 := Tryz.sizeOf270
  v72 := Tryz.zeroValue270
  t127 := Tryz.underlying294
  a127 := Tryz.isAgg294
  z127 := Tryz.sizeOf294
  v127 := Tryz.zeroValue294 }
theorem Tryz.Builder_Extra_169 : Builder.Extra Tryz.prog Tryz.lays169_ren := {
  sizeBuilder := by kernel_rfl
  liesBuilder := by kernel_rfl
  t5 := Tryz.underlying5
  a5 := Tryz.isAgg5
  z5 := Tryz.sizeOf5
  v5 := Tryz.zeroValue5
  infoByte := by kernel_rfl
  cellsByte := by kernel_rfl
  sizeByte := by kernel_rfl
  neB5 := by decide }
open Go.RowKit in
theorem Tryz.Builder_String_any_k (B b : Nat) (l : List UInt8) (w : World) (h : Lib.IsBuilderF 270 5 B b (Lib.byteCells l) w) (hBw : B ≤ w.heap.size) :
    Calls Tryz.prog 190 #[.pointer (some ⟨b, 0, none⟩)] w fun e w' => e = .returned (.string ⟨l.toArray⟩) ∧ (Lib.IsBuilderF 270 5 B b (Lib.byteCells l) w' ∧ Below B w w' ∧ Lib.OthersKept 5 (some b) w w') := Any.Builder_String_any_k Tryz.lays169 Tryz.Builder_Extra_169 B b l w h hBw
def Tryz.lays105_ren : Go.Shelf.Ren := ⟨fun | 105 => 188 | 212 => 207 | 99 => 186 | 165 => 208 | 166 => 187 | 170 => 209 | 169 => 190 | 263 => 223 | 264 => 224 | 206 => 205 | 240 => 206 | 241 => 225 | 276 => 222 | 277 => 234 | n => n, fun | 9 => 9 | 3 => 3 | 4 => 4 | 20 => 20 | 0 => 0 | 46 => 255 | 109 => 292 | 5 => 5 | 72 => 270 | 76 => 271 | 51 => 310 | 146 => 311 | 53 => 212 | 148 => 313 | 70 => 268 | 37 => 38 | 75 => 48 | 127 => 294 | 164 => 128 | 80 => 82 | n => n, fun | n => n⟩
theorem Tryz.lays105 : Go.Proofs.Lays.n105 Tryz.prog Tryz.lays105_ren := {
  mixed := by kernel_rfl
  f99 := Tryz.func186.trans (congrArg some (by kernel_rfl))
  f105 := Tryz.func188.trans (congrArg some (by kernel_rfl))
  f165 := Tryz.func208.trans (congrArg some (by kernel_rfl))
  f166 := Tryz.func187.trans (congrArg some (by kernel_rfl))
  f169 := Tryz.func190.trans (congrArg some (by kernel_rfl))
  f170 := Tryz.func209.trans (congrArg some (by kernel_rfl))
  f206 := Tryz.func205.trans (congrArg some (by kernel_rfl))
  f212 := Tryz.func207.trans (congrArg some (by kernel_rfl))
  f240 := Tryz.func206.trans (congrArg some (by kernel_rfl))
  f241 := Tryz.func225.trans (congrArg some (by kernel_rfl))
  f263 := Tryz.func223.trans (congrArg some (by kernel_rfl))
  f264 := Tryz.func224.trans (congrArg some (by kernel_rfl))
  f276 := Tryz.func222.trans (congrArg some (by kernel_rfl))
  f277 := Tryz.func234.trans (congrArg some (by kernel_rfl))
  t0 := Tryz.underlying0
  a0 := Tryz.isAgg0
  z0 := Tryz.sizeOf0
  v0 := Tryz.zeroValue0
  t3 := Tryz.underlying3
  a3 := Tryz.isAgg3
  z3 := Tryz.sizeOf3
  v3 := Tryz.zeroValue3
  t4 := Tryz.underlying4
  a4 := Tryz.isAgg4
  z4 := Tryz.sizeOf4
  v4 := Tryz.zeroValue4
  t5 := Tryz.underlying5
  a5 := Tryz.isAgg5
  z5 := Tryz.sizeOf5
  v5 := Tryz.zeroValue5
  t9 := Tryz.underlying9
  a9 := Tryz.isAgg9
  z9 := Tryz.sizeOf9
  v9 := Tryz.zeroValue9
  t20 := Tryz.underlying20
  a20 := Tryz.isAgg20
  z20 := Tryz.sizeOf20
  v20 := Tryz.zeroValue20
  t37 := Tryz.underlying38
  a37 := Tryz.isAgg38
  z37 := Tryz.sizeOf38
  v37 := Tryz.zeroValue38
  t46 := Tryz.underlying255
  a46 := Tryz.isAgg255
  z46 := Tryz.sizeOf255
  v46 := Tryz.zeroValue255
  t51 := Tryz.underlying310
  a51 := Tryz.isAgg310
  z51 := Tryz.sizeOf310
  v51 := Tryz.zeroValue310
  t53 := Tryz.underlying212
  a53 := Tryz.isAgg212
  z53 := Tryz.sizeOf212
  v53 := Tryz.zeroValue212
  t70 := Tryz.underlying268
  a70 := Tryz.isAgg268
  z70 := Tryz.sizeOf268
  v70 := Tryz.zeroValue268
  t72 := Tryz.underlying270
  a72 := Tryz.isAgg270
  z72 := Tryz.sizeOf270
  v72 := Tryz.zeroValue270
  t75 := Tryz.underlying48
  a75 := Tryz.isAgg48
  z75 := Tryz.sizeOf48
  v75 := Tryz.zeroValue48
  t76 := Tryz.underlying271
  a76 := Tryz.isAgg271
  z76 := Tryz.sizeOf271
  v76 := Tryz.zeroValue271
  t109 := Tryz.underlying292
  a109 := Tryz.isAgg292
  z109 := Tryz.sizeOf292
  v109 := Tryz.zeroValue292
  t127 := Tryz.underlying294
  a127 := Tryz.isAgg294
  z127 := Tryz.sizeOf294
  v127 := Tryz.zeroValue294
  t146 := Tryz.underlying311
  a146 := Tryz.isAgg311
  z146 := Tryz.sizeOf311
  v146 := Tryz.zeroValue311
  t148 := Tryz.underlying313
  a148 := Tryz.isAgg313
  z148 := Tryz.sizeOf313
  v148 := Tryz.zeroValue313
  t164 := Tryz.underlying128
  a164 := Tryz.isAgg128
  z164 := Tryz.sizeOf128
  v164 := Tryz.zeroValue128 }
theorem Tryz.Builder_Extra_105 : Builder.Extra Tryz.prog Tryz.lays105_ren := {
  sizeBuilder := by kernel_rfl
  liesBuilder := by kernel_rfl
  t5 := Tryz.underlying5
  a5 := Tryz.isAgg5
  z5 := Tryz.sizeOf5
  v5 := Tryz.zeroValue5
  infoByte := by kernel_rfl
  cellsByte := by kernel_rfl
  sizeByte := by kernel_rfl
  neB5 := by decide }
open Go.RowKit Go.Lib in
theorem Tryz.strings_Repeat (s : ByteArray) (c : Nat) (w : World) (hc : c ≤ 9223372036854775807) (hlen : s.size * c ≤ 140737488355328) :
    Calls Tryz.prog 188 #[.string s, .int .i64 c] w fun e w' => e = .returned (.string ⟨(Lib.repeatL s.data.toList c).toArray⟩) ∧ Below w.heap.size w w' := Any.strings_Repeat Tryz.lays105 Tryz.Builder_Extra_105 s c w hc hlen
end Go.Proofs
namespace Go.Proofs.YtildemmkhndhjaaGreatDoor
open Go.RowKit

/-- A right type's text. -/
def tyText (t : Ty) : List UInt8 := List.replicate t.1.toNat 91 ++ (if t.2 = [] then [73] else 76 :: (t.2 ++ [59]))
def tyTexts : List Ty → List UInt8
 | [] => []
 | t :: l => tyText t ++ tyTexts l

theorem tyTexts_append (a b : List Ty) : tyTexts (a ++ b) = tyTexts a ++ tyTexts b := by
 induction a with
 | nil => rfl
 | cons t l ih => simp [tyTexts, ih]

/-- A type that a text may be made of. -/
def Fit (t : Ty) : Prop := 0 ≤ t.1 ∧ t.1 ≤ 8 ∧ t.2.length ≤ 32

theorem fit_len {t : Ty} (h : Fit t) : (tyText t).length ≤ 42 := by
 obtain ⟨h1, h2, h3⟩ := h
 unfold tyText
 split
 ·simp
  omega
 ·simp
  omega

theorem fits_len (l : List Ty) (h : ∀ t ∈ l, Fit t) : (tyTexts l).length ≤ 42 * l.length := by
 induction l with
 | nil => simp [tyTexts]
 | cons t l ih =>
  have h1 := fit_len (h t (by simp))
  have h2 := ih fun x hx => h x (by simp [hx])
  simp [tyTexts]
  omega

theorem repeat_one (c : UInt8) (n : Nat) : Lib.repeatL [c] n = List.replicate n c := by
 induction n with
 | zero => rfl
 | succ n ih => simp [Lib.repeatL, ih, List.replicate_succ]

theorem below_only {w w' : World} (h : Below w.heap.size w w') : Only [] w w' := ⟨h.os, h.tape, h.output, h.size, fun k hk _ => h.block k hk⟩

theorem bu_below {B b : Nat} {l : List UInt8} {w w' : World} (h : Bu B b l w) (hb : Below w.heap.size w w') : Bu B b l w' := by
 have hg : w.grownBy w' none := ⟨hb.os, hb.tape, hb.output, hb.size, fun k hk _ => hb.block k hk⟩
 rcases h with ⟨h1, v, h2, h3, h4⟩ | ⟨h1, v, h2, h3, h4⟩
 ·exact .inl ⟨h1, v, by rw [hb.block b (Array.getElem?_eq_some_iff.1 h2).1]; exact h2, h3.kept hg (by cases hv : v.ownBlock <;> simp), h4⟩
 ·exact .inr ⟨h1, v, by rw [hb.block b (Array.getElem?_eq_some_iff.1 h2).1]; exact h2, h3.kept hg (by cases hv : v.ownBlock <;> simp), h4⟩

theorem run_cat (x y : List UInt8) (h : x.length + y.length ≤ 9223372036854775807) (w : World) : (Op.stringOp .add (str x) (str y)).run Tryz.prog w = .ok (.string (str (x ++ y))) w := by
 rw [run_string_add_sum w _ _ (by rw [str_size, str_size]; exact h)]
 simp [str, ByteArray.mk_append_mk]

theorem rep_any (n : Nat) (hn : n ≤ 8) (w : World) : Calls Tryz.prog 188 #[.string ⟨#[91]⟩, .int .i64 (n : Int)] w fun e w' => e = .returned (.string (str (List.replicate n 91))) ∧ Below w.heap.size w w' := by
 refine (Tryz.strings_Repeat ⟨#[91]⟩ n w (by omega) (by rw [show (⟨#[91]⟩ : ByteArray).size = 1 from rfl]; omega)).mono ?_
 rintro e w' ⟨rfl, hb⟩
 refine ⟨?_, hb⟩
 rw [show (⟨#[91]⟩ : ByteArray).data.toList = [91] from rfl, repeat_one]
 rfl

set_option maxHeartbeats 400000 in
set_option maxRecDepth 100000 in
theorem texts_any {w : World} {ao : Option Addr} {l : List Ty} {d cap : Nat} (hT : TS w ao l d) (hF : ∀ t ∈ l, Fit t) (hl : l.length ≤ 1000000) :
  Calls Tryz.prog 166 #[.slice ao l.length cap] w fun e w' => e = .returned (.string (str (tyTexts l))) ∧ Only [] w w' := by
 have hB0 : Bu w.heap.size w.heap.size [] (w.alloc (.cells #[.pointer none, .slice none 0 0] 270)) := Lib.IsBuilderF.of (Lib.fresh_isBuilder _ _ w)
 have hb0 : Below w.heap.size w (w.alloc (.cells #[.pointer none, .slice none 0 0] 270)) := (Below.refl _ w).alloc (Nat.le_refl _) _
 go_enter Tryz.func166, Tryz.ntmps166
 go_wp2
 go_loopw [8] (fun i wr => ∃ k : Nat, k ≤ l.length ∧ i = .int .i64 (k : Int) ∧ Bu w.heap.size w.heap.size (tyTexts (l.take k)) wr ∧ Below w.heap.size w wr) (fun i _ => l.length - (intOf i).toNat)
 case atStart => exact ⟨0, by omega, rfl, hB0, hb0⟩
 case round =>
  obtain ⟨k, hk, rfl, hBu, hbl⟩ := hrel
  by_cases hlt : k < l.length
  ·have g2 : ((k : Int) < (l.length : Int)) := by omega
   have hne : l ≠ [] := by intro e; simp [e] at hlt
   rcases hT.only (below_only hbl) (by simp) with h | ⟨off, rfl, hc⟩
   ·exact absurd h hne
   have hft := hF l[k] (List.getElem_mem hlt)
   obtain ⟨c0, c1⟩ := hc k hlt
   clear hc
   have htk : tyTexts (l.take (k + 1)) = tyTexts (l.take k) ++ tyText l[k] := by
    rw [List.take_succ_eq_append_getElem hlt, tyTexts_append]
    simp [tyTexts]
   have hlen := fits_len (l.take k) fun t ht => hF t (List.mem_of_mem_take ht)
   have hlen2 : (l.take k).length ≤ 1000000 := by simp; omega
   generalize l[k] = t at *
   obtain ⟨td, nm⟩ := t
   obtain ⟨f1, f2, f3⟩ := hft
   obtain ⟨dn, rfl⟩ : ∃ dn : Nat, td = (dn : Int) := ⟨td.toNat, by simp at f1; omega⟩
   simp only [] at f1 f2 f3 c0 c1
   have hszr := hbl.size
   have hA : Below wr.heap.size wr (wr.alloc (.cells #[.int .i64 (dn : Int), .string (str nm)] 35)) := (Below.refl _ wr).alloc (Nat.le_refl _) _
   have hobj : (wr.alloc (.cells #[.int .i64 (dn : Int), .string (str nm)] 35)).heap[wr.heap.size]? = some (.cells #[.int .i64 (dn : Int), .string (str nm)] 35 (0, 0)) := Go.heap_alloc_new wr _
   have hszA : (wr.alloc (.cells #[.int .i64 (dn : Int), .string (str nm)] 35)).heap.size = wr.heap.size + 1 := by simp
   have HR := hid (rep_any dn (by omega) (wr.alloc (.cells #[.int .i64 (dn : Int), .string (str nm)] 35)))
   have htn := str_toList nm
   go_wp2_with fail
   refine HR.out.mono ?_
   rintro e w2 ⟨rfl, hb2⟩
   have hBu2 := bu_below (bu_below hBu hA) hb2
   have hsz2 := hb2.size
   rw [hszA] at hsz2
   have hobj2 : w2.heap[wr.heap.size]? = some (.cells #[.int .i64 (dn : Int), .string (str nm)] 35 (0, 0)) := by
    rw [hb2.block _ (by rw [hszA]; omega)]
    exact hobj
   have HW := hid (write_any hBu2 (List.replicate dn 91) (by simp; omega) (by omega))
   go_wp2_with fail
   refine HW.out.mono ?_
   rintro e w3 ⟨rfl, hat3, hb3, hk3⟩
   have hbt := hBu2
   have hneb : some wr.heap.size ≠ some w.heap.size := by
    have := hb0.size
    rcases hBu with q | q
    ·have := q.lt
     simp
     omega
    ·have := q.lt
     simp
     omega
   have hobj3 := hk3 _ _ hobj2 hneb (by intro c fz h; cases h)
   have y1 : w3.cell? ⟨wr.heap.size, 1, none⟩ = some (.string (str nm)) := by rw [Lib.cell_of_heap hobj3]; rfl
   have hsz3 := hb3.size
   have hbl3 : Below w.heap.size w w3 := ((hbl.alloc hszr _).trans ((hb2.mono (by rw [hszA]; omega)))).trans hb3
   have hl3 : (tyTexts (l.take k) ++ List.replicate dn 91).length ≤ 42000008 := by simp; omega
   by_cases hz : nm = []
   ·subst hz
    have HB := writeByte_any (.inr hat3) 73 (by omega) (by omega)
    rw [show ((73 : UInt8).toNat : Int) = 73 from rfl] at HB
    have HB := hid HB
    go_wp2_with (go_at_call 189; refine HB.out.mono ?_; rintro e w4 ⟨rfl, hat4, hb4, hk4⟩)
    refine ⟨⟨k + 1, by omega, by go_num, ?_, hbl3.trans hb4⟩, by simp [intOf]; omega⟩
    rw [htk]
    have e1 : tyTexts (l.take k) ++ tyText ((dn : Int), []) = tyTexts (l.take k) ++ List.replicate dn 91 ++ [73] := by simp [tyText]
    rw [e1]
    exact .inr hat4
   ·have hzi : nm.isEmpty = false := by simpa using hz
    have k1 : ∀ w, (Op.stringOp .add ⟨#[76]⟩ (str nm)).run Tryz.prog w = .ok (.string (str (76 :: nm))) w := fun w => run_cat [76] nm (by simp; omega) w
    have k2 : ∀ w, (Op.stringOp .add (str (76 :: nm)) ⟨#[59]⟩).run Tryz.prog w = .ok (.string (str (76 :: (nm ++ [59])))) w := fun w => run_cat (76 :: nm) [59] (by simp; omega) w
    have HB := hid (write_any (.inr hat3) (76 :: (nm ++ [59])) (by simp at hl3 ⊢; omega) (by omega))
    go_wp2_with (go_at_call 187; refine HB.out.mono ?_; rintro e w4 ⟨rfl, hat4, hb4, hk4⟩)
    refine ⟨⟨k + 1, by omega, by go_num, ?_, hbl3.trans hb4⟩, by simp [intOf]; omega⟩
    rw [htk]
    have e1 : tyTexts (l.take k) ++ tyText ((dn : Int), nm) = tyTexts (l.take k) ++ List.replicate dn 91 ++ (76 :: (nm ++ [59])) := by simp [tyText, hz]
    rw [e1]
    exact .inr hat4
  ·have g2 : ¬ ((k : Int) < (l.length : Int)) := by omega
   obtain rfl : k = l.length := by omega
   rw [List.take_of_length_le (Nat.le_refl _)] at hBu
   have HS := Tryz.Builder_String_any_k _ _ _ _ hBu hbl.size
   have HS := hid HS
   go_wp2_with (go_at_call 190; refine HS.out.mono ?_; rintro e w2 ⟨rfl, _, hb2, _⟩)
   go_ret
   exact ⟨rfl, below_only (hbl.trans hb2)⟩

/-- A type's text, if it is one. -/
def ttR (t : Ty) : List UInt8 := if tyCheck t = 0 then tyText t else []

theorem name_len {n : List UInt8} (h : nameOK n = true) : n.length ≤ 32 := by
 unfold nameOK at h
 simp at h
 omega

theorem check_fit {t : Ty} (h : tyCheck t = 0) : Fit t := by
 obtain ⟨d, n⟩ := t
 obtain ⟨h1, h2⟩ := check_bounds h
 refine ⟨h1, h2, ?_⟩
 simp only [tyCheck] at h
 split at h
 ·omega
 ·split at h
  ·omega
  ·rename_i h4
   by_cases hz : n = []
   ·subst hz
    simp
   ·have : nameOK n = true := by
     cases hn : nameOK n with
     | true => rfl
     | false => exact absurd ⟨hz, hn⟩ h4
    exact name_len this

/-- A block that holds one type is a row of one type. -/
theorem ts_one (w : World) (t : Ty) (u : TypeId) : TS (w.alloc (.cells #[.int .i64 t.1, .string (str t.2)] u)) (some ⟨w.heap.size, 0, none⟩) [t] w.heap.size := by
 refine .inr ⟨0, rfl, fun j hj => ?_⟩
 have : j = 0 := by simp at hj; omega
 subst this
 exact ⟨by rw [cell_new]; rfl, by rw [cell_new]; rfl⟩

set_option maxHeartbeats 400000 in
set_option maxRecDepth 100000 in
theorem typeText_any (t : Ty) (hl : t.2.length ≤ 9223372036854775807) (w : World) : Calls Tryz.prog 174 #[tyV t] w fun e w' => e = .returned (.tuple #[.string (str (ttR t)), .int .i64 (tyCheck t)]) ∧ Only [] w w' := by
 obtain ⟨d, n⟩ := t
 have ho := (Only.refl [] w).alloc (.cells #[.int .i64 d, .string (str n)] 35)
 have HC := hid (check_any (d, n) hl (w.alloc (.cells #[.int .i64 d, .string (str n)] 35)))
 by_cases h : tyCheck (d, n) = 0
 ·have hf := check_fit h
  have e1 : ttR (d, n) = tyText (d, n) := by simp [ttR, h]
  rw [e1, h]
  rw [h] at HC
  simp only [tyV] at HC ⊢
  go_enter Tryz.func174, Tryz.ntmps174
  go_wp2_with fail
  refine HC.out.mono ?_
  rintro e w1 ⟨rfl, ho1⟩
  have c0 : w1.cell? ⟨w.heap.size, 0, none⟩ = some (.int .i64 d) := by rw [ho1.cell (by simp) (by simp), cell_new]; rfl
  have c1 : w1.cell? ⟨w.heap.size, 1, none⟩ = some (.string (str n)) := by rw [ho1.cell (by simp) (by simp), cell_new]; rfl
  have HT := texts_any (cap := 1) (ts_one w1 (d, n) 35) (by intro t ht; simp at ht; subst ht; exact hf) (by simp)
  simp only [tyTexts, List.append_nil, List.length_cons, List.length_nil] at HT
  have HT := hid HT
  go_wp2_with fail
  refine HT.out.mono ?_
  rintro e w2 ⟨rfl, ho2⟩
  go_wp2
  go_ret2
  exact ⟨rfl, ((ho.next ho1 (by simp)).alloc _).next ho2 (by simp)⟩
 ·have hne : ¬ (tyCheck (d, n) = 0) := h
  have e1 : ttR (d, n) = [] := by simp [ttR, h]
  rw [e1]
  generalize tyCheck (d, n) = e at *
  simp only [tyV] at HC ⊢
  go_enter Tryz.func174, Tryz.ntmps174
  go_wp2_with fail
  refine HC.out.mono ?_
  rintro e w1 ⟨rfl, ho1⟩
  go_wp2
  go_ret2
  exact ⟨rfl, ho.next ho1 (by simp)⟩

/-- The first thing that is wrong with types in a row. -/
def checkAll : List Ty → Int
 | [] => 0
 | t :: l => if tyCheck t = 0 then checkAll l else tyCheck t

/-- What is wrong with a signature. -/
def sigCheck (l : List Ty) (void : Bool) (t : Ty) : Int := if 16 < l.length then 4 else if checkAll l = 0 then (if void = true ∧ t ≠ (0, []) then 1 else tyCheck t) else checkAll l

theorem checkAll_ok (l : List Ty) : checkAll l = 0 ↔ ∀ t ∈ l, tyCheck t = 0 := by
 induction l with
 | nil => simp [checkAll]
 | cons t l ih =>
  unfold checkAll
  split
  ·rename_i h
   simp [ih, h]
  ·rename_i h
   simp [h]

theorem checkAll_at (l : List Ty) (k : Nat) (hk : k < l.length) (h0 : ∀ j (hj : j < k), tyCheck (l[j]'(by omega)) = 0) (h1 : tyCheck l[k] ≠ 0) : checkAll l = tyCheck l[k] := by
 induction l generalizing k with
 | nil => simp at hk
 | cons t l ih =>
  cases k with
  | zero =>
   simp at h1 ⊢
   simp [checkAll, h1]
  | succ k =>
   have := h0 0 (by omega)
   simp at this
   rw [checkAll, if_pos this]
   simpa using ih k (by simpa using hk) (fun j hj => by simpa using h0 (j + 1) (by omega)) (by simpa using h1)

set_option maxHeartbeats 400000 in
set_option maxRecDepth 100000 in
theorem checkSig_any {w : World} {ao : Option Addr} {l : List Ty} {d cap : Nat} (hT : TS w ao l d) (hl : l.length ≤ 9223372036854775807) (hA : ∀ t ∈ l, t.2.length ≤ 9223372036854775807) (void : Bool) (t : Ty) (ht : t.2.length ≤ 9223372036854775807) :
  Calls Tryz.prog 165 #[sigV (.slice ao l.length cap) void t] w fun e w' => e = .returned (.int .i64 (sigCheck l void t)) ∧ Only [] w w' := by
 obtain ⟨td, tn⟩ := t
 simp only [sigV]
 by_cases h16 : 16 < l.length
 ·have g1 : (16 < (l.length : Int)) := by omega
  have e1 : sigCheck l void (td, tn) = 4 := by simp [sigCheck, h16]
  rw [e1]
  go_enter Tryz.func165, Tryz.ntmps165
  go_wp2
  go_ret
  exact ⟨rfl, (Only.refl [] w).alloc _⟩
 ·have g1 : ¬ (16 < (l.length : Int)) := by omega
  go_enter Tryz.func165, Tryz.ntmps165
  go_wp2
  go_loopw [13] (fun i wr => ∃ k : Nat, k ≤ l.length ∧ i = .int .i64 (k : Int) ∧ (∀ j (hj : j < l.length), j < k → tyCheck l[j] = 0) ∧ Only [] (w.alloc (.cells #[.slice ao l.length cap, .bool void, .int .i64 td, .string (str tn)] 37)) wr) (fun i _ => l.length - (intOf i).toNat)
  case atStart => exact ⟨0, by omega, rfl, fun j _ h => by omega, Only.refl _ _⟩
  case round =>
   obtain ⟨k, hk, rfl, hok, hor⟩ := hrel
   have ho0 := (Only.refl [] w).alloc (.cells #[.slice ao l.length cap, .bool void, .int .i64 td, .string (str tn)] 37)
   have hon := ho0.next hor (by simp)
   have c1 : wr.cell? ⟨w.heap.size, 1, none⟩ = some (.bool void) := by rw [hor.cell (by simp) (by simp), cell_new]; rfl
   have c2 : wr.cell? ⟨w.heap.size, 2, none⟩ = some (.int .i64 td) := by rw [hor.cell (by simp) (by simp), cell_new]; rfl
   have c3 : wr.cell? ⟨w.heap.size, 3, none⟩ = some (.string (str tn)) := by rw [hor.cell (by simp) (by simp), cell_new]; rfl
   by_cases hlt : k < l.length
   ·have g2 : ((k : Int) < (l.length : Int)) := by omega
    have hne : l ≠ [] := by intro e; simp [e] at hlt
    rcases hT.only hon (by simp) with h | ⟨off, rfl, hc⟩
    ·exact absurd h hne
    obtain ⟨y0, y1⟩ := hc k hlt
    clear hc
    have hat := fun (h : tyCheck l[k] ≠ 0) => checkAll_at l k hlt (fun j hj => hok j (by omega) hj) h
    have hnx : tyCheck l[k] = 0 → ∀ j (hj : j < l.length), j < k + 1 → tyCheck l[j] = 0 := by
     intro h0 j hj hjk
     by_cases e : j = k
     ·subst e
      exact h0
     ·exact hok j hj (by omega)
    have hln := hA l[k] (List.getElem_mem hlt)
    generalize l[k] = t at *
    obtain ⟨d0, nm⟩ := t
    clear hok
    have HC := check_any (d0, nm) hln (wr.alloc (.cells #[.int .i64 d0, .string (str nm)] 35))
    by_cases hz : tyCheck (d0, nm) = 0
    ·rw [hz] at HC
     simp only [tyV] at HC y0 y1
     have HC := hid HC
     have hnx := hid (hnx hz)
     clear hat hz
     go_wp2_with (go_at_call 117; refine HC.out.mono ?_; rintro e w2 ⟨rfl, ho2⟩)
     exact ⟨⟨k + 1, by omega, by go_num, hnx.out, (hor.alloc _).next ho2 (by simp)⟩, by simp [intOf]; omega⟩
    ·have hat := hat hz
     have e1 : Hid (sigCheck l void (td, tn) = tyCheck (d0, nm)) := by
      unfold Hid sigCheck
      rw [if_neg h16, hat, if_neg hz]
     clear hat hnx
     generalize tyCheck (d0, nm) = c at *
     simp only [tyV] at HC y0 y1
     have HC := hid HC
     go_wp2_with (go_at_call 117; refine HC.out.mono ?_; rintro e w2 ⟨rfl, ho2⟩)
     go_ret
     exact ⟨by rw [e1.out]; rfl, (hon.alloc _).next ho2 (by simp)⟩
   ·have g2 : ¬ ((k : Int) < (l.length : Int)) := by omega
    obtain rfl : k = l.length := by omega
    have hall : checkAll l = 0 := (checkAll_ok l).2 fun t ht => by
     obtain ⟨j, hj, rfl⟩ := List.getElem_of_mem ht
     exact hok j hj hj
    clear hok
    have hq := neq_type (td, tn) (0, [])
    rw [ty_zero] at hq
    simp only [tyV] at hq
    have HC := check_any (td, tn) ht wr
    simp only [tyV] at HC
    have HC := hid HC
    by_cases hz : (td, tn) = (((0 : Int), []) : Ty)
    ·have e1 : Hid (sigCheck l void (td, tn) = tyCheck (td, tn)) := by
      unfold Hid sigCheck
      rw [if_neg h16, if_pos hall, if_neg (by simp [hz])]
     simp only [hz, decide_true, Bool.not_true] at hq
     clear hz hall
     cases void
     ·go_wp2_with (go_at_call 117; refine HC.out.mono ?_; rintro e w2 ⟨rfl, ho2⟩)
      go_ret
      exact ⟨by rw [e1.out]; rfl, hon.next ho2 (by simp)⟩
     ·go_wp2_with (go_at_call 117; refine HC.out.mono ?_; rintro e w2 ⟨rfl, ho2⟩)
      go_ret
      exact ⟨by rw [e1.out]; rfl, hon.next ho2 (by simp)⟩
    ·have e1 : Hid (sigCheck l void (td, tn) = if void = true then 1 else tyCheck (td, tn)) := by
      unfold Hid sigCheck
      rw [if_neg h16, if_pos hall]
      simp [hz]
     simp only [hz, decide_false, Bool.not_false] at hq
     clear hz hall
     cases void
     ·go_wp2_with (go_at_call 117; refine HC.out.mono ?_; rintro e w2 ⟨rfl, ho2⟩)
      go_ret
      exact ⟨by rw [e1.out]; simp, hon.next ho2 (by simp)⟩
     ·go_wp2
      go_ret
      exact ⟨by rw [e1.out]; simp, hon⟩

/-- A right signature's text. -/
def sigText (l : List Ty) (void : Bool) (t : Ty) : List UInt8 := 40 :: (tyTexts l ++ 41 :: (if void = true then [86] else tyText t))
def stR (l : List Ty) (void : Bool) (t : Ty) : List UInt8 := if sigCheck l void t = 0 then sigText l void t else []

theorem sigCheck_ok {l : List Ty} {void : Bool} {t : Ty} (h : sigCheck l void t = 0) : l.length ≤ 16 ∧ (∀ x ∈ l, tyCheck x = 0) ∧ tyCheck t = 0 ∧ (void = true → t = (0, [])) := by
 unfold sigCheck at h
 split at h
 ·omega
 ·split at h
  ·rename_i h1 h2
   split at h
   ·omega
   ·rename_i h3
    refine ⟨by omega, (checkAll_ok l).1 h2, h, fun hv => ?_⟩
    by_cases e : t = (0, [])
    ·exact e
    ·exact absurd ⟨hv, e⟩ h3
  ·contradiction

set_option maxHeartbeats 400000 in
set_option maxRecDepth 100000 in
theorem sigText_any {w : World} {ao : Option Addr} {l : List Ty} {d cap : Nat} (hT : TS w ao l d) (hl : l.length ≤ 9223372036854775807) (hA : ∀ t ∈ l, t.2.length ≤ 9223372036854775807) (void : Bool) (t : Ty) (ht : t.2.length ≤ 9223372036854775807) :
  Calls Tryz.prog 120 #[sigV (.slice ao l.length cap) void t] w fun e w' => e = .returned (.tuple #[.string (str (stR l void t)), .int .i64 (sigCheck l void t)]) ∧ Only [] w w' := by
 have ho := (Only.refl [] w).alloc (.cells #[.slice ao l.length cap, .bool void, .int .i64 t.1, .string (str t.2)] 37)
 have HC := hid (checkSig_any (cap := cap) (hT.only ho (by simp)) hl hA void t ht)
 by_cases h : sigCheck l void t = 0
 ·obtain ⟨h1, h2, h3, h4⟩ := sigCheck_ok h
  have e1 : stR l void t = sigText l void t := by simp [stR, h]
  have hlen := fits_len l fun x hx => check_fit (h2 x hx)
  have hlt := fit_len (check_fit h3)
  have hft := check_fit h3
  rw [e1, h]
  rw [h] at HC
  clear e1 h h3
  obtain ⟨td, tn⟩ := t
  cases void with
  | true =>
   clear h4
   simp only [sigV] at HC ⊢
   have e2 : Hid (sigText l true (td, tn) = 40 :: (tyTexts l ++ [41, 86])) := by simp [Hid, sigText]
   go_enter Tryz.func120, Tryz.ntmps120
   go_wp2_with fail
   refine HC.out.mono ?_
   rintro e w1 ⟨rfl, ho1⟩
   have c0 : w1.cell? ⟨w.heap.size, 0, none⟩ = some (.slice ao l.length cap) := by rw [ho1.cell (by simp) (by simp), cell_new]; rfl
   have c1 : w1.cell? ⟨w.heap.size, 1, none⟩ = some (.bool true) := by rw [ho1.cell (by simp) (by simp), cell_new]; rfl
   have o1 := ho.next ho1 (by simp)
   have HT := hid (texts_any (cap := cap) (hT.only o1 (by simp)) (fun x hx => check_fit (h2 x hx)) (by omega))
   go_wp2_with fail
   refine HT.out.mono ?_
   rintro e w2 ⟨rfl, ho2⟩
   generalize tyTexts l = u at *
   have k1 : ∀ w, (Op.stringOp .add ⟨#[40]⟩ (str u)).run Tryz.prog w = .ok (.string (str (40 :: u))) w := fun w => run_cat [40] u (by simp; omega) w
   have k2 : ∀ w, (Op.stringOp .add (str (40 :: u)) ⟨#[41]⟩).run Tryz.prog w = .ok (.string (str (40 :: (u ++ [41])))) w := fun w => run_cat (40 :: u) [41] (by simp; omega) w
   have k3 : ∀ w, (Op.stringOp .add (str (40 :: (u ++ [41]))) ⟨#[86]⟩).run Tryz.prog w = .ok (.string (str (40 :: (u ++ [41, 86])))) w := fun w => by
    have := run_cat (40 :: (u ++ [41])) [86] (by simp; omega) w
    simp only [List.cons_append, List.append_assoc, List.nil_append] at this
    exact this
   go_wp2
   go_ret2
   exact ⟨by rw [e2.out]; rfl, o1.next ho2 (by simp)⟩
  | false =>
   clear h4
   simp only [sigV] at HC ⊢
   have e2 : Hid (sigText l false (td, tn) = 40 :: (tyTexts l ++ 41 :: tyText (td, tn))) := by simp [Hid, sigText]
   go_enter Tryz.func120, Tryz.ntmps120
   go_wp2_with fail
   refine HC.out.mono ?_
   rintro e w1 ⟨rfl, ho1⟩
   have c0 : w1.cell? ⟨w.heap.size, 0, none⟩ = some (.slice ao l.length cap) := by rw [ho1.cell (by simp) (by simp), cell_new]; rfl
   have c1 : w1.cell? ⟨w.heap.size, 1, none⟩ = some (.bool false) := by rw [ho1.cell (by simp) (by simp), cell_new]; rfl
   have c2 : w1.cell? ⟨w.heap.size, 2, none⟩ = some (.int .i64 td) := by rw [ho1.cell (by simp) (by simp), cell_new]; rfl
   have c3 : w1.cell? ⟨w.heap.size, 3, none⟩ = some (.string (str tn)) := by rw [ho1.cell (by simp) (by simp), cell_new]; rfl
   have o1 := ho.next ho1 (by simp)
   have HR := texts_any (cap := 1) (ts_one w1 (td, tn) 35) (by intro t ht; simp at ht; subst ht; exact hft) (by simp)
   simp only [tyTexts, List.append_nil, List.length_cons, List.length_nil] at HR
   have HR := hid HR
   go_wp2_with fail
   refine HR.out.mono ?_
   rintro e w2 ⟨rfl, ho2⟩
   have o2 := (o1.alloc (.cells #[.int .i64 td, .string (str tn)] 35)).next ho2 (by simp)
   have c0 : w2.cell? ⟨w.heap.size, 0, none⟩ = some (.slice ao l.length cap) := by rw [ho2.cell (by have := World.block_lt_of_cell? _ _ c0; simp at this ⊢; omega) (by simp)]; exact cell_alloc _ c0
   clear c1 c2 c3
   have HT := hid (texts_any (cap := cap) (hT.only o2 (by simp)) (fun x hx => check_fit (h2 x hx)) (by omega))
   go_wp2_with fail
   refine HT.out.mono ?_
   rintro e w3 ⟨rfl, ho3⟩
   generalize tyTexts l = u at *
   generalize tyText (td, tn) = v at *
   have k1 : ∀ w, (Op.stringOp .add ⟨#[40]⟩ (str u)).run Tryz.prog w = .ok (.string (str (40 :: u))) w := fun w => run_cat [40] u (by simp; omega) w
   have k2 : ∀ w, (Op.stringOp .add (str (40 :: u)) ⟨#[41]⟩).run Tryz.prog w = .ok (.string (str (40 :: (u ++ [41])))) w := fun w => run_cat (40 :: u) [41] (by simp; omega) w
   have k3 : ∀ w, (Op.stringOp .add (str (40 :: (u ++ [41]))) (str v)).run Tryz.prog w = .ok (.string (str (40 :: (u ++ 41 :: v)))) w := fun w => by
    have := run_cat (40 :: (u ++ [41])) v (by simp; omega) w
    simp only [List.cons_append, List.append_assoc, List.nil_append] at this
    exact this
   go_wp2
   go_ret2
   exact ⟨by rw [e2.out]; rfl, o2.next ho3 (by simp)⟩
 ·have e1 : stR l void t = [] := by simp [stR, h]
  rw [e1]
  obtain ⟨td, tn⟩ := t
  generalize sigCheck l void (td, tn) = c at *
  simp only [sigV] at HC ⊢
  go_enter Tryz.func120, Tryz.ntmps120
  go_wp2_with fail
  refine HC.out.mono ?_
  rintro e w1 ⟨rfl, ho1⟩
  go_wp2
  go_ret2
  exact ⟨rfl, ho.next ho1 (by simp)⟩

end Go.Proofs.YtildemmkhndhjaaGreatDoor
