/-
  What Check answers, as plain functions; the contract of Check. No conditions beyond the shapes of what comes in.
-/
import Derived.Test.YtemjhlhioeopnabDoorICheck2
import Derived.Test.YtemjhlhioeopnabDoorIAll
import Derived.Test.YtemjhlhioeopnabDoorIPure
namespace Go.Proofs.YtemjhlhioeopnabDoor
open Go.RowKit

/-- Does an instruction begin there? -/
def begunI (l : List In) (k : Nat) : Bool := l.any fun i => decide (i.1 = (k : Int))
def wrongI (all : List In) (l : List En) (locals : Int) (i : In) : Int := if rowI i.2.1 = 2 then (if locals ≤ i.2.2.1 then 43 else 0) else if rowI i.2.1 = 4 then (if begunI all i.2.2.1.toNat = true then 0 else 18) else entryI l i
def checkL (all : List In) (l : List En) (locals : Int) : List In → Int × Int
  | [] => (0, 0)
  | i :: r => if wrongI all l locals i = 0 then checkL all l locals r else (i.1, wrongI all l locals i)
def checkI (code : List UInt8) (l : List En) (locals : Int) : Int × Int := if code = [] then (0, 46) else if 1024 < code.length then (0, 5) else if (allR code).2.2 = 0 then checkL (allR code).1 l locals (allR code).1 else ((allR code).2.1, (allR code).2.2)

theorem wrongB_eq {bl : List Bool} {all : List In} (h : ∀ k, bl.getD k false = begunI all k) (l : List En) (locals : Int) (i : In) : wrongB bl l locals i = wrongI all l locals i := by
  unfold wrongB wrongI
  rw [h]

theorem begun_snoc (l : List In) (i : In) (k : Nat) : begunI (l ++ [i]) k = (begunI l k || decide (i.1 = (k : Int))) := by simp [begunI]

theorem begun_set {bl : List Bool} {l : List In} {i : In} {p : Nat} (h : ∀ k, bl.getD k false = begunI l k) (hi : i.1 = (p : Int)) (hp : p < bl.length) : ∀ k, (bl.set p true).getD k false = begunI (l ++ [i]) k := by
  intro k
  rw [begun_snoc, ← h k, hi]
  by_cases hk : k = p
  · subst hk
    simp [List.getD, hp]
  · have : ¬ ((p : Int) = (k : Int)) := by omega
    simp [List.getD, Ne.symm hk, this]

theorem checkL_drop {all : List In} {l : List En} {locals : Int} {r : List In} {j : Nat} (h : j < r.length) : checkL all l locals (r.drop j) = if wrongI all l locals r[j] = 0 then checkL all l locals (r.drop (j + 1)) else (r[j].1, wrongI all l locals r[j]) := by
  rw [List.drop_eq_getElem_cons h, checkL]

theorem elBool : ElT 4 (.bool false) 1 1 := ⟨by kernel_rfl, rfl, by decide, by decide⟩

theorem lcs_replicate (n : Nat) : (madeCells (Value.bool false).cells (n * 1)).toList = lcs (List.replicate n false) := by
  have : (Value.bool false).cells = #[Value.bool false] := rfl
  rw [this, Nat.mul_one, toList_madeCells_one]
  simp [lcs]

theorem lcs_set (l : List Bool) (k : Nat) (b : Bool) : (lcs l).set k (.bool b) = lcs (l.set k b) := by
  simp [lcs, List.map_set]

/-- The bounds of a method in memory. -/
structure BdAt (w : World) (b : Nat) (x y z : Value) : Prop where
  c0 : w.cell? ⟨b, 0, none⟩ = some x
  c1 : w.cell? ⟨b, 1, none⟩ = some y
  c2 : w.cell? ⟨b, 2, none⟩ = some z

theorem bdAt_new (w : World) (x y z : Value) (t : TypeId) : BdAt (w.alloc (.cells #[x, y, z] t)) w.heap.size x y z :=
  ⟨by rw [cell_new]; rfl, by rw [cell_new]; rfl, by rw [cell_new]; rfl⟩

theorem BdAt.only {w w' : World} {S : List Nat} {b : Nat} {x y z : Value} (h : BdAt w b x y z) (ho : Only S w w') (hb : b ∉ S) : BdAt w' b x y z := by
  have hl : b < w.heap.size := World.block_lt_of_cell? w _ h.c0
  exact ⟨by rw [ho.cell hl hb]; exact h.c0, by rw [ho.cell hl hb]; exact h.c1, by rw [ho.cell hl hb]; exact h.c2⟩

theorem begun_nil (n : Nat) : ∀ k, (List.replicate n false).getD k false = begunI [] k := by
  intro k
  simp only [begunI, List.any_nil, List.getD, List.getElem?_replicate]
  split <;> rfl

set_option maxHeartbeats 2000000 in
set_option maxRecDepth 100000 in
theorem icheck_any {w : World} {ao eo : Option Addr} {code : List UInt8} {l : List En} {d de cap ecap : Nat} (hB : RS w ao (bcs code) d) (hc : code.length ≤ cap) (hcl : cap ≤ 9223372036854775807)
    (hE : ES w eo l de) (hl : l.length ≤ 9223372036854775807) (hA : ∀ e ∈ l, e.2.1.length ≤ 9223372036854775807) (locals : Int) :
    Calls Tryd.prog 14 #[.slice ao code.length cap, .slice eo l.length ecap, .int .i64 locals] w fun e w' => e = .returned (.tuple #[.int .i64 (checkI code l locals).1, .int .i64 (checkI code l locals).2]) ∧ Only [] w w' := by
  unfold checkI
  by_cases h0 : code = []
  · subst h0
    rw [if_pos rfl]
    clear hB hE
    go_enter Tryd.func14, Tryd.ntmps14
    go_wp2
    go_ret2
    exact ⟨rfl, Only.refl _ _⟩
  rw [if_neg h0]
  have hpos := List.length_pos_iff.2 h0
  have g0 : ¬ ((code.length : Int) = 0) := by omega
  have g0' : ((code.length : Int) == 0) = false := by simpa using g0
  clear h0
  by_cases h1 : 1024 < code.length
  · rw [if_pos h1]
    have g1 : (1024 < (code.length : Int)) := by omega
    clear hB hE
    go_enter Tryd.func14, Tryd.ntmps14
    go_wp2
    go_ret2
    exact ⟨rfl, Only.refl _ _⟩
  rw [if_neg h1]
  have g1 : ¬ (1024 < (code.length : Int)) := by omega
  have HA := hid (all_any hB hc hcl (by omega))
  have hev := all_each code
  have hln := all_len code
  generalize allR code = X at *
  obtain ⟨al, aa, ae⟩ := X
  simp only at hev hln ⊢
  clear hB
  by_cases hae : ae = 0
  · subst hae
    rw [if_pos rfl]
    have HW := hid (fun W (hW : Only [] w W) (go : Option Addr) (bl : List Bool) (dg gc : Nat) (hG : RS W go (lcs bl) dg) (hbl : bl.length ≤ 9223372036854775807) (i : In) (hn : 0 ≤ i.2.2.1) => wrong_in (cap := ecap) (gc := gc) (hE.only hW (by simp)) hl hA hG hbl locals i.1 i.2.1 i.2.2.1 i.2.2.2 hn)
    clear hE hA
    obtain ⟨i0, hi, hz0, hz1, hz2⟩ := elBool.parts
    obtain ⟨x, hx⟩ : ∃ x, x = checkL al l locals al := ⟨_, rfl⟩
    rw [← hx]
    have hr : Hid (x = checkL al l locals (al.drop 0)) := by rw [hx]; rfl
    clear hx
    replace hev := hid hev
    go_enter Tryd.func14, Tryd.ntmps14
    go_wp2_with (first | (go_at_call 9; refine HA.out.mono ?_; rintro e w1 ⟨ao1, cap1, rfl, hown1, ho1⟩) | (at_make; refine wpList_make_full _ rfl (.tmp 36) (.tmp 36) 43 rfl w1.heap.size 4 i0 (.bool false) 1 Tryd.underlying43 hi hz0 hz1 .i64 .i64 _ _ code.length rfl rfl rfl rfl (by rw [hz2]; omega) (by unfold maxLen; omega) (Nat.le_refl _) ?_; intro w2 hownG hgr) | fail)
    have hG0 := hownG
    rw [lcs_replicate] at hG0
    have s2 := hgr.size
    have hg2 : w1.heap.size < w2.heap.size := by
      have := hG0.lt w1.heap.size rfl
      omega
    have o2 := hid ((ho1.next (Only.of_grown hgr) (by simp)).alloc (.cells #[.slice eo l.length ecap, .int .i64 locals, .slice (some ⟨w1.heap.size, 0, none⟩) code.length code.length] 54))
    obtain ⟨d1, hR1⟩ : ∃ d, RS w1 ao1 (qcs al) d := ⟨_, (RS.of_owns hown1).1⟩
    have hd1 : al ≠ [] → d1 < w1.heap.size := fun h => hR1.lt (qcs_ne h)
    have R1 := hid (hR1.only0 ((Only.of_grown hgr).next ((Only.refl [] w2).alloc (.cells #[.slice eo l.length ecap, .int .i64 locals, .slice (some ⟨w1.heap.size, 0, none⟩) code.length code.length] 54)) (by simp)))
    have B1 := hid (bdAt_new w2 (.slice eo l.length ecap) (.int .i64 locals) (.slice (some ⟨w1.heap.size, 0, none⟩) code.length code.length) 54)
    have G1 := hid (hG0.alloc (.cells #[.slice eo l.length ecap, .int .i64 locals, .slice (some ⟨w1.heap.size, 0, none⟩) code.length code.length] 54))
    have hN0 := hid (begun_nil code.length)
    have hlt1 := ho1.size
    clear hownG hG0 hgr hown1 hR1 HA
    replace hd1 := hid hd1
    go_loopw [41] (fun i wr => ∃ (j : Nat) (bl : List Bool), j ≤ al.length ∧ i = .int .i64 (j : Int) ∧ Hid (bl.length = code.length) ∧ Hid (∀ k, bl.getD k false = begunI (al.take j) k) ∧ Hid (wr.ownsRow w1.heap.size 4 1 (.slice (some ⟨w1.heap.size, 0, none⟩) code.length code.length) code.length (lcs bl)) ∧ Hid (BdAt wr w2.heap.size (.slice eo l.length ecap) (.int .i64 locals) (.slice (some ⟨w1.heap.size, 0, none⟩) code.length code.length)) ∧ Hid (RS wr ao1 (qcs al) d1) ∧ Hid (Only [] w wr)) (fun i _ => al.length - (intOf i).toNat)
    case atStart => exact ⟨0, List.replicate code.length false, by omega, rfl, by simp [Hid], hN0, G1, B1, R1, o2⟩
    case round =>
      obtain ⟨j, bl, hj, rfl, hbl, hbg, hG, hBd, hR, hor⟩ := hrel
      clear G1 B1 R1 o2 hN0
      by_cases hlt : j < al.length
      · have g2 : ((j : Int) < (al.length : Int)) := by omega
        obtain ⟨off, rfl, y0, y1, y2, y3⟩ := hR.out.inAt hlt
        obtain ⟨v0, v1, _, _, _, v5, _, _⟩ := hev.out al[j] (List.getElem_mem hlt)
        have htk := List.take_succ_eq_append_getElem hlt
        have hd := hd1.out (fun e => by rw [e] at hlt; simp at hlt)
        clear hev HW hr
        generalize al[j] = i at *
        obtain ⟨p, o, n, s⟩ := i
        simp only at y0 y1 y2 y3 v0 v1 v5
        obtain ⟨p, rfl⟩ : ∃ q : Nat, p = (q : Int) := ⟨p.toNat, by omega⟩
        have hp : p < code.length := by omega
        have hgl : w1.heap.size < wr.heap.size := ((hG.out.lt w1.heap.size rfl)).2
        have z0 : wr.cell? ⟨w1.heap.size, p, none⟩ = some (.bool (bl[p]'(by rw [hbl.out]; exact hp))) := by
          rw [hG.out.cellAt p (by omega), lcs_get bl p (by rw [hbl.out]; exact hp)]
        have z0' := fun o => cell_alloc o z0
        have zf : ∀ o, (wr.alloc o).frozen? ⟨w1.heap.size, p, none⟩ = false := fun o => by rw [frozen_alloc o hgl]; exact hG.out.frozenAt p
        obtain ⟨b0, b1, b2⟩ := hBd.out
        have b2' := fun o => cell_alloc o b2
        have g3 : ((p : Int) < (code.length : Int)) := by omega
        have hbg' : Hid (∀ k, (bl.set p true).getD k false = begunI (al.take (j + 1)) k) := by
          rw [htk]
          exact begun_set hbg.out rfl (by rw [hbl.out]; exact hp)
        have G2 := hG.out.stored p (.bool true)
        rw [lcs_set] at G2
        have oo := hid (((Only.refl [w1.heap.size] wr).setCell (p := ⟨w1.heap.size, p, none⟩) (.inl (by simp)) (.bool true)).alloc (.cells #[.int .i64 (p : Int), .int .i64 o, .int .i64 n, .int .i64 s] 31))
        replace G2 := hid (G2.1.alloc (.cells #[.int .i64 (p : Int), .int .i64 o, .int .i64 n, .int .i64 s] 31))
        clear htk b0 b1 b2 z0 hd1
        go_wp2
        refine ⟨⟨j + 1, bl.set p true, by omega, by go_num, by simpa [Hid] using hbl.out, hbg', G2, hid (hBd.out.only oo.out (by simp; omega)), hid (hR.out.only oo.out (fun _ => by simp; omega)), hid ((hor.out.setCell (p := ⟨w1.heap.size, p, none⟩) (.inr hlt1) _).alloc _)⟩, by simp [intOf]; omega⟩
      · have g2 : ¬ ((j : Int) < (al.length : Int)) := by omega
        have hbg' : Hid (∀ k, bl.getD k false = begunI al k) := by
          have := hbg.out
          rw [List.take_of_length_le (by omega)] at this
          exact this
        have HW2 := hid (fun W (hW : Only [] w W) (hG : RS W (some ⟨w1.heap.size, 0, none⟩) (lcs bl) w1.heap.size) (i : In) (hn : 0 ≤ i.2.2.1) => HW.out W hW _ bl _ code.length hG (by rw [hbl.out]; omega) i hn)
        simp only [hbl.out, inV, wrongB_eq hbg'.out] at HW2
        clear hbg hbg' HW
        go_wp2
        go_loopw [53] (fun i wr => ∃ (j : Nat), j ≤ al.length ∧ i = .int .i64 (j : Int) ∧ Hid (x = checkL al l locals (al.drop j)) ∧ Hid (wr.ownsRow w1.heap.size 4 1 (.slice (some ⟨w1.heap.size, 0, none⟩) code.length code.length) code.length (lcs bl)) ∧ Hid (BdAt wr w2.heap.size (.slice eo l.length ecap) (.int .i64 locals) (.slice (some ⟨w1.heap.size, 0, none⟩) code.length code.length)) ∧ Hid (RS wr ao1 (qcs al) d1) ∧ Hid (Only [] w wr)) (fun i _ => al.length - (intOf i).toNat)
        case atStart => exact ⟨0, by omega, rfl, hr, hG, hBd, hR, hor⟩
        case round =>
          obtain ⟨j', hj', rfl, hq, hG', hBd', hR', hor'⟩ := hrel
          clear hr hG hBd hR hor
          by_cases hlt' : j' < al.length
          · have g4 : ((j' : Int) < (al.length : Int)) := by omega
            obtain ⟨off, rfl, y0, y1, y2, y3⟩ := hR'.out.inAt hlt'
            obtain ⟨_, _, _, _, _, _, v6, _⟩ := hev.out al[j'] (List.getElem_mem hlt')
            have hdr := checkL_drop (all := al) (l := l) (locals := locals) hlt'
            rw [← hq.out] at hdr
            clear hq hev hd1
            generalize al[j'] = i at *
            obtain ⟨p, o, n, s⟩ := i
            simp only at y0 y1 y2 y3 v6 hdr
            have oo := hid ((Only.refl [] wr).alloc (.cells #[.int .i64 p, .int .i64 o, .int .i64 n, .int .i64 s] 31))
            have I0 := hid (inAt_new wr p o n s 31)
            obtain ⟨b0, b1, b2⟩ := hBd'.out
            have b0' := fun o => cell_alloc o b0
            have b1' := fun o => cell_alloc o b1
            have b2' := fun o => cell_alloc o b2
            have HW3 := HW2.out _ (hor'.out.next oo.out (by simp)) (RS.of_owns (rows_only hG'.out oo.out (by simp))).1 (p, o, n, s) v6
            simp only at HW3
            generalize wrongI al l locals (p, o, n, s) = er at *
            replace HW3 := hid HW3
            by_cases he : er = 0
            · subst he
              rw [if_pos rfl] at hdr
              replace hdr := hid hdr
              go_wp2_with (go_at_call 18; refine HW3.out.mono ?_; rintro e w5 ⟨rfl, ho5⟩)
              exact ⟨⟨j' + 1, by omega, by go_num, hdr, hid (rows_only hG'.out (oo.out.next ho5 (by simp)) (by simp)), hid (hBd'.out.only (oo.out.next ho5 (by simp)) (by simp)), hid (hR'.out.only0 (oo.out.next ho5 (by simp))), hid (hor'.out.next (oo.out.next ho5 (by simp)) (by simp))⟩, by simp [intOf]; omega⟩
            · have ge : (er == 0) = false := by simpa using he
              rw [if_neg he] at hdr
              subst hdr
              go_wp2_with (go_at_call 18; refine HW3.out.mono ?_; rintro e w5 ⟨rfl, ho5⟩; obtain ⟨c0, c1, c2, c3⟩ := I0.out.only ho5 (by simp))
              go_ret2
              exact ⟨rfl, hor'.out.next (oo.out.next ho5 (by simp)) (by simp)⟩
          · have g4 : ¬ ((j' : Int) < (al.length : Int)) := by omega
            have hxx : x = (0, 0) := by rw [hq.out, List.drop_eq_nil_of_le (by omega)]; rfl
            subst hxx
            clear hq hev hd1 HW2
            go_wp2
            go_ret2
            exact ⟨rfl, hor'.out⟩
  · have ge : (ae == 0) = false := by simpa using hae
    rw [if_neg hae]
    clear hE hA hev
    go_enter Tryd.func14, Tryd.ntmps14
    go_wp2_with (go_at_call 9; refine HA.out.mono ?_; rintro e w1 ⟨ao1, cap1, rfl, hown1, ho1⟩; clear hown1)
    go_ret2
    exact ⟨rfl, ho1⟩

end Go.Proofs.YtemjhlhioeopnabDoor
