/-
  The walk of PoolOwn: it answers true of whatever entries and calls, and writes nothing that was there. No conditions.
-/
import Derived.Test.YtcdjddakdlflmabPKnown
import Derived.Test.YtcdjddakdlflmabPAgain
namespace Go.Proofs.Ytcdjddakdlflmab
open Go.RowKit

theorem ecs_set (l : List En) (j : Nat) (h : j < l.length) (e : En) : ecs (l.set j e) = ((((((ecs l).set (j * 6) (.int .i64 e.1)).set (j * 6 + 1) (.string (str e.2.1))).set (j * 6 + 2) (.int .i64 e.2.2.1)).set (j * 6 + 3) (.int .i64 e.2.2.2.1)).set (j * 6 + 4) (.int .i64 e.2.2.2.2.1)).set (j * 6 + 5) (.int .i64 e.2.2.2.2.2) := by
  induction l generalizing j with
  | nil => simp at h
  | cons a l ih =>
    cases j with
    | zero => rfl
    | succ j =>
      have := ih j (by simpa using h)
      simp only [List.set_cons_succ, ecs, Nat.add_mul, Nat.one_mul]
      rw [this]

theorem owe_put {w : World} {B g cap : Nat} {l : List En} (h : OwE w B (.slice (some ⟨g, 0, none⟩) l.length cap) l) (j : Nat) (hj : j < l.length) (e : En) :
    OwE ((((((w.setCell ⟨g, j * 6, none⟩ (.int .i64 e.1)).setCell ⟨g, j * 6 + 1, none⟩ (.string (str e.2.1))).setCell ⟨g, j * 6 + 2, none⟩ (.int .i64 e.2.2.1)).setCell ⟨g, j * 6 + 3, none⟩ (.int .i64 e.2.2.2.1)).setCell ⟨g, j * 6 + 4, none⟩ (.int .i64 e.2.2.2.2.1)).setCell ⟨g, j * 6 + 5, none⟩ (.int .i64 e.2.2.2.2.2)) B (.slice (some ⟨g, 0, none⟩) l.length cap) (l.set j e) := by
  unfold OwE
  rw [List.length_set, ecs_set l j hj]
  exact ((((((h.stored (j * 6) (.int .i64 e.1)).1.stored (j * 6 + 1) (.string (str e.2.1))).1.stored (j * 6 + 2) (.int .i64 e.2.2.1)).1.stored (j * 6 + 3) (.int .i64 e.2.2.2.1)).1.stored (j * 6 + 4) (.int .i64 e.2.2.2.2.1)).1.stored (j * 6 + 5) (.int .i64 e.2.2.2.2.2)).1

theorem six_only (w : World) (g i0 i1 i2 i3 i4 i5 : Nat) (x0 x1 x2 x3 x4 x5 : Value) : Only [g] w ((((((w.setCell ⟨g, i0, none⟩ x0).setCell ⟨g, i1, none⟩ x1).setCell ⟨g, i2, none⟩ x2).setCell ⟨g, i3, none⟩ x3).setCell ⟨g, i4, none⟩ x4).setCell ⟨g, i5, none⟩ x5) :=
  ((((((Only.refl [g] w).setCell (.inl (by simp)) _).setCell (.inl (by simp)) _).setCell (.inl (by simp)) _).setCell (.inl (by simp)) _).setCell (.inl (by simp)) _).setCell (.inl (by simp)) _

theorem owe_own {w : World} {B : Nat} {ao : Option Addr} {cap : Nat} {l : List En} (h : OwE w B (.slice ao l.length cap) l) : ∀ x ∈ (Value.ownBlock (.slice ao l.length cap)).toList, B ≤ x ∧ x < w.heap.size := by
  intro x hx
  cases ao with
  | none => cases hx
  | some a =>
    simp [Value.ownBlock] at hx
    subst hx
    have := (ES.of_owns h).2.2.2.2 a rfl
    exact ⟨this.1, this.2.1⟩

set_option maxHeartbeats 2000000 in
set_option maxRecDepth 100000 in
theorem own_any {w : World} {ao : Option Addr} {l : List En} {d cap : Nat} (hE : ES w ao l d) (hn : ao = none → cap = 0) (hl : l.length ≤ 9223372036854775807) (hA : ∀ e ∈ l, e.2.1.length ≤ 9223372036854775807)
    {c : Cal} (hC : CalOK w c) {x : Cal} (hX : CalOK w x) :
    Calls Try.prog 4 #[.slice ao l.length cap, clV c, clV x] w fun e w' => e = .returned (.bool true) ∧ Only [] w w' := by
  have o0 := ((Only.refl [] w).alloc (.cells #[.int .i64 c.k, .int .i64 c.n, .string (str c.c), .string (str c.m), .int .i64 c.t.1, .string (str c.t.2), .slice c.ao c.ps.length c.cap, .bool c.v, .int .i64 c.r.1, .string (str c.r.2)] 36)).alloc (.cells #[.int .i64 x.k, .int .i64 x.n, .string (str x.c), .string (str x.m), .int .i64 x.t.1, .string (str x.t.2), .slice x.ao x.ps.length x.cap, .bool x.v, .int .i64 x.r.1, .string (str x.r.2)] 36)
  have C0 := (calAt_new w c 36).only ((Only.refl [] _).alloc (.cells #[.int .i64 x.k, .int .i64 x.n, .string (str x.c), .string (str x.m), .int .i64 x.t.1, .string (str x.t.2), .slice x.ao x.ps.length x.cap, .bool x.v, .int .i64 x.r.1, .string (str x.r.2)] 36)) (by simp)
  have X0 := calAt_new (w.alloc (.cells #[.int .i64 c.k, .int .i64 c.n, .string (str c.c), .string (str c.m), .int .i64 c.t.1, .string (str c.t.2), .slice c.ao c.ps.length c.cap, .bool c.v, .int .i64 c.r.1, .string (str c.r.2)] 36)) x 36
  rw [World.size_alloc] at X0
  have HK := hid (known_any ((w.alloc (.cells #[.int .i64 c.k, .int .i64 c.n, .string (str c.c), .string (str c.m), .int .i64 c.t.1, .string (str c.t.2), .slice c.ao c.ps.length c.cap, .bool c.v, .int .i64 c.r.1, .string (str c.r.2)] 36)).alloc (.cells #[.int .i64 x.k, .int .i64 x.n, .string (str x.c), .string (str x.m), .int .i64 x.t.1, .string (str x.t.2), .slice x.ao x.ps.length x.cap, .bool x.v, .int .i64 x.r.1, .string (str x.r.2)] 36)))
  have hEl := hid (fun W (hW : Only [] w W) => hE.only hW (by simp))
  replace hC := hid hC
  replace hX := hid hX
  replace C0 := hid C0
  replace X0 := hid X0
  replace hA := hid hA
  have hnl := newE_len l
  simp only [clV]
  clear hE
  by_cases h1 : 1000 < l.length
  · have g1 : (1000 < (l.length : Int)) := by omega
    go_enter Try.func4, Try.ntmps4
    go_wp2_with (go_at_call 5; refine HK.out.mono ?_; rintro e w1 ⟨rfl, ho1⟩)
    go_ret
    exact ⟨rfl, o0.next ho1 (by simp)⟩
  have g1 : ¬ (1000 < (l.length : Int)) := by omega
  by_cases h2 : 100 < c.ps.length
  · have g2 : (100 < (c.ps.length : Int)) := by omega
    go_enter Try.func4, Try.ntmps4
    go_wp2_with fail
    refine HK.out.mono ?_
    rintro e w1 ⟨rfl, ho1⟩
    have c6 := (C0.out.only ho1 (by simp)).c6
    simp only [Nat.zero_add] at c6
    go_wp2
    go_ret
    exact ⟨rfl, o0.next ho1 (by simp)⟩
  have g2 : ¬ (100 < (c.ps.length : Int)) := by omega
  by_cases h3 : 100 < x.ps.length
  · have g3 : (100 < (x.ps.length : Int)) := by omega
    go_enter Try.func4, Try.ntmps4
    go_wp2_with fail
    refine HK.out.mono ?_
    rintro e w1 ⟨rfl, ho1⟩
    have c6 := (C0.out.only ho1 (by simp)).c6
    have x6 := (X0.out.only ho1 (by simp)).c6
    simp only [Nat.zero_add] at c6 x6
    go_wp2
    go_ret
    exact ⟨rfl, o0.next ho1 (by simp)⟩
  have g3 : ¬ (100 < (x.ps.length : Int)) := by omega
  go_enter Try.func4, Try.ntmps4
  go_wp2_with fail
  refine HK.out.mono ?_
  rintro e w1 ⟨rfl, ho1⟩
  have o1 := o0.next ho1 (by simp)
  have C1 := hid (C0.out.only ho1 (by simp))
  have X1 := hid (X0.out.only ho1 (by simp))
  have c6 := C1.out.c6
  have x6 := X1.out.c6
  simp only [Nat.zero_add] at c6 x6
  have HN := hid (new_any (cap := cap) (hEl.out _ o1) hn hl hA.out)
  clear HK C0 X0
  go_wp2_with fail
  refine HN.out.mono ?_
  rintro e w2 ⟨a, R, rfl, hb2, hB2, hR2, ho2⟩
  have o2 := o1.next ho2 (by simp)
  have HN2 := hid (new_any (cap := cap) (hEl.out _ o2) hn hl hA.out)
  replace hB2 := hid hB2
  clear HN c6 x6
  go_wp2_with fail
  refine HN2.out.mono ?_
  rintro e w3 ⟨b, Q, rfl, hb3, hB3, hR3, ho3⟩
  have o3 := o2.next ho3 (by simp)
  have o13 := ho2.next ho3 (by simp)
  have z1 := o1.size
  have z2 := ho2.size
  have z3 := ho3.size
  have ha2 := hB2.out.lt
  have hr2 := hB2.out.row_lt
  have hb3l := hB3.lt
  have hq3 := hB3.row_lt
  have HA := again_any (hB2.out.only ho3 (by simp) (by simp)) (by omega) (hC.out.only o3 (by simp))
  obtain ⟨c0, c1, c2, c3, c4, c5, c6, c7, c8, c9⟩ := C1.out.only o13 (by simp)
  simp only [Nat.zero_add] at c0 c1 c2 c3 c4 c5 c6 c7 c8 c9
  have hcl := againB_len (newE l) hnl c
  unfold BPost at HA
  simp only [clV] at HA
  replace HA := hid HA
  replace hB3 := hid hB3
  clear HN2
  go_wp2_with fail
  refine HA.out.mono ?_
  rintro e w4 ⟨rfl, R4, hb4⟩
  have z4 := hb4.only.size
  have ha4 := hb4.bd.lt
  have hr4 := hb4.bd.row_lt
  have haR : ∀ y ∈ a :: R.toList, w1.heap.size ≤ y ∧ y < w2.heap.size := by
    intro y hy
    simp at hy
    rcases hy with rfl | hy
    · exact ⟨hb2, ha2⟩
    · exact ⟨hR2 _ hy, hr2 _ hy⟩
  have hpc : ∀ y, y < w1.heap.size → y ∉ a :: R.toList := fun y hy hm => by have := haR y hm; omega
  have o4 : Only [] w w4 := o3.next hb4.only (fun y hy => by have := haR y hy; omega)
  have o14 : Only (a :: R.toList) w1 w4 := (o13.mono (S' := a :: R.toList) (by simp)).trans hb4.only (fun y hy => .inl hy)
  have hbQ : ∀ y ∈ b :: Q.toList, w2.heap.size ≤ y ∧ y < w3.heap.size := by
    intro y hy
    simp at hy
    rcases hy with rfl | hy
    · exact ⟨hb3, hb3l⟩
    · exact ⟨hR3 _ hy, hq3 _ hy⟩
  have hB4 := hB3.out.only hb4.only (fun hm => by have := haR b hm; omega) (fun g hg hm => by have := haR g hm; have := hbQ g (by simp [hg]); omega)
  have HA2 := again_any hB4 (by omega) (hX.out.only o4 (by simp))
  have hcw := hC.out
  obtain ⟨d0, d1, d2, d3, d4, d5, d6, d7, d8, d9⟩ := X1.out.only o14 (hpc _ (by have := X1.out.lt; omega))
  simp only [Nat.zero_add] at d0 d1 d2 d3 d4 d5 d6 d7 d8 d9
  unfold BPost at HA2
  simp only [clV] at HA2
  replace HA2 := hid HA2
  replace hb4 := hid hb4
  generalize hL : (againB (newE l) c).1 = L4 at *
  replace hL := hid hL
  clear HA c0 c1 c2 c3 c4 c5 c6 c7 c8 c9 hB4 hcw
  go_wp2_with fail
  refine HA2.out.mono ?_
  rintro e w5 ⟨rfl, Q5, hb5⟩
  have z5 := hb5.only.size
  have hA5 := hb4.out.bd.only hb5.only (fun hm => by have := hbQ a hm; omega) (by
    intro g hg hm
    have := hbQ g hm
    rcases hb4.out.row with e | ⟨g', e, hg'⟩
    · have := haR g (by rw [e] at hg; simp [hg])
      omega
    · rw [e] at hg
      simp at hg
      omega)
  have o5 : Only [] w w5 := o4.next hb5.only (fun y hy => by have := hbQ y hy; omega)
  have C5 := hid ((C1.out.only o14 (hpc _ (by have := C1.out.lt; omega))).only hb5.only (fun hm => by have := hbQ _ hm; have := C1.out.lt; omega))
  have ha5 := hA5.lt
  have hr5 := hA5.row_lt
  have HP := hid (pool_any hA5 (by omega))
  replace hA5 := hid hA5
  clear HA2 d0 d1 d2 d3 d4 d5 d6 d7 d8 d9 hb5 X1
  go_wp2_with fail
  refine HP.out.mono ?_
  rintro e w6 ⟨xo, xc, rfl, hx6, ho6⟩
  have z6 := ho6.size
  have HP2 := hid (pool_any (hA5.out.only ho6 (by simp) (by simp)) (by omega))
  replace hx6 := hid hx6
  clear HP
  go_wp2_with fail
  refine HP2.out.mono ?_
  rintro e w7 ⟨yo, yc, rfl, hy7, ho7⟩
  have z7 := ho7.size
  have hom := hid (owe_made w7)
  have hyE := ES.of_owns hy7
  have hT := hid (hyE.1.only ((Only.refl [] w7).alloc (.cells #[] 43)) (by simp))
  have hyn := hyE.2.2.2.1
  replace hy7 := hid hy7
  clear HP2 hyE
  go_wp2_with (at_builtin; refine wpList_append_entries rfl (.tmp 54) (.tmp 55) Try.underlying37 rfl rfl rfl hom.out hT.out hyn (by simp; omega) (by simp) ?_)
  intro wo wc w8 hw8 hg8 hao8 hnn8 hold8
  have ho8 : Only [] w7 w8 := ((Only.refl [] w7).alloc _).trans (Only.of_grown hg8) (by simp [Value.ownBlock])
  have z8 := ho8.size
  have hx8 := owe_only (owe_only hx6.out ho7 (by simp)) ho8 (by simp)
  have hy8 := hid (owe_only hy7.out ho8 (by simp))
  have o58 := (ho6.next ho7 (by simp)).next ho8 (by simp)
  have hA8 := hid (hA5.out.only o58 (by simp) (by simp))
  have C8 := hid (C5.out.only o58 (by simp))
  have o8 := o5.next o58 (by simp)
  have hgx := hid (owe_own hx6.out)
  replace hw8 := hid hw8
  replace hx8 := hid hx8
  clear hg8 hao8 hnn8 hold8 hom hT hyn hx6 hy7 hA5 C5
  go_wp2
  go_loopw [12] (fun i wr => ∃ j : Nat, j ≤ L4.length ∧ i = .int .i64 (j : Int) ∧ (∃ lx : List En, lx.length = L4.length ∧ OwE wr w5.heap.size (.slice xo L4.length xc) lx) ∧ Only (Value.ownBlock (.slice xo L4.length xc)).toList w8 wr) (fun i _ => L4.length - (intOf i).toNat)
  case atStart => exact ⟨0, by omega, rfl, ⟨L4, rfl, hx8.out⟩, Only.refl _ _⟩
  case round =>
    obtain ⟨j, hj, rfl, ⟨lx, hlx, hro⟩, hor⟩ := hrel
    clear hx8
    by_cases hlt : j < L4.length
    · have g4 : ((j : Int) < (L4.length : Int)) := by omega
      rw [← hlx] at hro
      obtain ⟨hts, _, _, _, hsome⟩ := ES.of_owns hro
      cases xo with
      | none =>
        have := hts.none_nil
        subst this
        simp at hlx
        omega
      | some q =>
        obtain ⟨_, _, hq⟩ := hsome q rfl
        obtain ⟨g, off, sp⟩ := q
        simp at hq
        obtain ⟨rfl, rfl⟩ := hq
        have hjl : j < lx.length := by omega
        obtain ⟨e0, e1, e2, e3, e4, e5⟩ := ecs_get lx j hjl
        have y0 := hro.cellAt (j * 6) (by omega)
        have y1 := hro.cellAt (j * 6 + 1) (by omega)
        have y2 := hro.cellAt (j * 6 + 2) (by omega)
        have y3 := hro.cellAt (j * 6 + 3) (by omega)
        have y4 := hro.cellAt (j * 6 + 4) (by omega)
        have y5 := hro.cellAt (j * 6 + 5) (by omega)
        rw [e0] at y0
        rw [e1] at y1
        rw [e2] at y2
        rw [e3] at y3
        rw [e4] at y4
        rw [e5] at y5
        have f0 := hro.frozenAt (j * 6)
        have f1 := hro.frozenAt (j * 6 + 1)
        have f2 := hro.frozenAt (j * 6 + 2)
        have f3 := hro.frozenAt (j * 6 + 3)
        have f4 := hro.frozenAt (j * 6 + 4)
        have f5 := hro.frozenAt (j * 6 + 5)
        have hput := owe_put hro j hjl (77, [], 0, 0, 0, 0)
        rw [hlx] at hput
        have hor2 := hor.trans (six_only wr g (j * 6) (j * 6 + 1) (j * 6 + 2) (j * 6 + 3) (j * 6 + 4) (j * 6 + 5) (.int .i64 77) (.string ⟨#[]⟩) (.int .i64 0) (.int .i64 0) (.int .i64 0) (.int .i64 0)) (fun y hy => .inl (by simpa [Value.ownBlock] using hy))
        replace hput := hid hput
        replace hor2 := hid hor2
        replace hlx := hid hlx
        clear hro hts hsome e0 e1 e2 e3 e4 e5 hor
        go_wp2
        exact ⟨⟨j + 1, by omega, by go_num, ⟨lx.set j (77, [], 0, 0, 0, 0), by rw [List.length_set]; exact hlx.out, hput.out⟩, hor2.out⟩, by simp [intOf]; omega⟩
    · have g4 : ¬ ((j : Int) < (L4.length : Int)) := by omega
      rw [← hlx] at hro
      have hro0 := hid (owe_mono hro (Nat.zero_le _))
      replace hor := hid hor
      have hlx' : lx.length ≤ 4096 := by omega
      have hxs : Hid (Value.slice xo L4.length xc = .slice xo lx.length xc) := by unfold Hid; rw [hlx]
      clear hro hj hlt
      go_wp2
      clear g4
      go_loopw [9, 13] (fun v i wx => ∃ q : Nat, q ≤ 20 ∧ i = .int .i64 (q : Int) ∧ ∃ xo' xc' lq, v = .slice xo' lq.length xc' ∧ lq.length ≤ 4096 + q ∧ OwE wx 0 (.slice xo' lq.length xc') lq ∧ Only (Value.ownBlock (.slice xo L4.length xc)).toList w8 wx ∧ ∀ y ∈ (Value.ownBlock (.slice xo' lq.length xc')).toList, y ∈ (Value.ownBlock (.slice xo L4.length xc)).toList ∨ w8.heap.size ≤ y) (fun _ i _ => 20 - (intOf i).toNat)
      case atStart => exact ⟨0, by omega, rfl, xo, xc, lx, by rw [hlx], by omega, hro0.out, hor.out, fun y hy => .inl (by rw [hxs.out]; exact hy)⟩
      case round =>
        clear hro0 hor hxs
        obtain ⟨q, hq, rfl, xo', xc', lq, rfl, hlq, hown, hor, hbk⟩ := hrel
        by_cases hlt : q < 20
        · have g4 : ((q : Int) < 20) := by omega
          have hO := hid (owe_only hown ((Only.refl [] wr).alloc (.cells #[.int .i64 78, .string (str []), .int .i64 0, .int .i64 0, .int .i64 0, .int .i64 0] 43)) (by simp))
          have hX2 := hid (es_one wr (78, [], 0, 0, 0, 0) 43)
          replace hor := hid hor
          replace hbk := hid hbk
          clear hown
          go_wp2_with (at_builtin; refine wpList_append_entries rfl (.tmp 71) (.tmp 73) Try.underlying37 rfl rfl rfl hO.out hX2.out (by simp) (by simp; omega) (by simp) ?_)
          intro xo2 xc2 w9 hown9 hg9 hao9 hnn9 hold9
          have hor9 : Only (Value.ownBlock (.slice xo L4.length xc)).toList w8 w9 := (hor.out.alloc _).trans (Only.of_grown hg9) hbk.out
          have hz9 := hor.out.size
          have hbk9 : ∀ y ∈ (Value.ownBlock (.slice xo2 (lq.length + 1) xc2)).toList, y ∈ (Value.ownBlock (.slice xo L4.length xc)).toList ∨ w8.heap.size ≤ y := by
            intro y hy
            cases xo2 with
            | none => cases hy
            | some p =>
              simp [Value.ownBlock] at hy
              subst hy
              rcases hao9 p rfl with ⟨p', e1, e2⟩ | e1
              · rw [← e2]
                exact hbk.out _ (by simp [Value.ownBlock, e1])
              · right
                omega
          replace hown9 := hid hown9
          replace hor9 := hid hor9
          replace hbk9 := hid hbk9
          clear hg9 hao9 hnn9 hold9
          go_wp2
          refine ⟨⟨q + 1, by omega, by go_num, xo2, xc2, lq ++ [(78, [], 0, 0, 0, 0)], by simp, by simp; omega, by simpa using hown9.out, hor9.out, by simpa using hbk9.out⟩, by simp [intOf]; omega⟩
        · have g4 : ¬ ((q : Int) < 20) := by omega
          have hsep : ∀ y, (y < w5.heap.size ∨ w6.heap.size ≤ y) → y ∉ (Value.ownBlock (.slice xo L4.length xc)).toList := by
            intro y hy hm
            have := hgx.out y hm
            omega
          have hyr := owe_only hy8.out hor (fun k hk => hsep k (.inr (by
            have := owe_own hy8.out k (by simp [hk])
            omega)))
          have hwr := owe_only hw8.out hor (fun k hk => hsep k (.inr (by
            have := owe_own hw8.out k (by simp [hk])
            omega)))
          have hAr := hA8.out.only hor (hsep a (.inl (by omega))) (fun g hg => hsep g (.inl (by have := hr5 g hg; omega)))
          have hCr := hid (C8.out.only hor (hsep _ (.inl (by have := C1.out.lt; omega))))
          have owr : Only [] w wr := o8.next hor (fun y hy => by have := hgx.out y hy; omega)
          have HS := same_any (cap := yc) (bap := wc) (ES.of_owns hyr).1 (ES.of_owns hwr).1 (by omega)
          rw [decide_eq_true rfl] at HS
          replace HS := hid HS
          replace hAr := hid hAr
          replace hwr := hid hwr
          clear hown hbk hyr
          go_wp2_with fail
          refine HS.out.mono ?_
          rintro e w10 ⟨rfl, ho10⟩
          have HP3 := hid (pool_any (hAr.out.only ho10 (by simp) (by simp)) (by omega))
          clear HS
          go_wp2_with fail
          refine HP3.out.mono ?_
          rintro e w11 ⟨po, pc, rfl, hp11, ho11⟩
          have hw11 := owe_only hwr.out (ho10.next ho11 (by simp)) (by simp)
          have HS2 := same_any (cap := pc) (bap := wc) (ES.of_owns hp11).1 (ES.of_owns hw11).1 (by omega)
          rw [decide_eq_true rfl] at HS2
          replace HS2 := hid HS2
          replace hw11 := hid hw11
          clear HP3 hp11 hAr
          go_wp2_with fail
          refine HS2.out.mono ?_
          rintro e w12 ⟨rfl, ho12⟩
          have o912 := (ho10.next ho11 (by simp)).next ho12 (by simp)
          have o12 := owr.next o912 (by simp)
          have hw12 := hid (owe_only hw11.out ho12 (by simp))
          have HN3 := hid (new_any (cap := cap) (hEl.out _ o12) hn hl hA.out)
          clear HS2 hw11 hwr
          go_wp2_with fail
          refine HN3.out.mono ?_
          rintro e w13 ⟨t, Z, rfl, hb13, hB13, hR13, ho13⟩
          have o13' := o12.next ho13 (by simp)
          have HA3 := again_any hB13 (by omega) (hC.out.only o13' (by simp))
          unfold BPost at HA3
          rw [hL.out] at HA3
          simp only [clV] at HA3
          replace HA3 := hid HA3
          obtain ⟨c0, c1, c2, c3, c4, c5, c6, c7, c8, c9⟩ := (hCr.out.only o912 (by simp)).only ho13 (by simp)
          simp only [Nat.zero_add] at c0 c1 c2 c3 c4 c5 c6 c7 c8 c9
          have hw13 := hid (owe_only hw12.out ho13 (by simp))
          have hwb := hid (owe_own hw12.out)
          clear HN3 hB13
          go_wp2_with fail
          refine HA3.out.mono ?_
          rintro e w14 ⟨rfl, Z4, hb14⟩
          have hzz : ∀ y ∈ t :: Z.toList, w12.heap.size ≤ y := by
            intro y hy
            simp at hy
            rcases hy with rfl | hy
            · exact hb13
            · exact hR13 _ hy
          have hzo := o12.size
          have o14' := o13'.next hb14.only (fun y hy => by have := hzz y hy; omega)
          have hw14 := owe_only hw13.out hb14.only (fun k hk hm => by have := hzz k hm; have := hwb.out k (by simp [hk]); omega)
          have HP4 := hid (pool_any hb14.bd (by omega))
          replace hw14 := hid hw14
          clear HA3 c0 c1 c2 c3 c4 c5 c6 c7 c8 c9 hb14
          go_wp2_with fail
          refine HP4.out.mono ?_
          rintro e w15 ⟨po2, pc2, rfl, hp15, ho15⟩
          have HS3 := same_any (cap := pc2) (bap := wc) (ES.of_owns hp15).1 (ES.of_owns (owe_only hw14.out ho15 (by simp))).1 (by omega)
          rw [decide_eq_true rfl] at HS3
          replace HS3 := hid HS3
          clear HP4 hp15
          go_wp2_with fail
          refine HS3.out.mono ?_
          rintro e w16 ⟨rfl, ho16⟩
          go_wp2
          go_ret
          exact ⟨rfl, (o14'.next ho15 (by simp)).next ho16 (by simp)⟩

theorem own_walk {w : World} {ao : Option Addr} {l : List En} {d cap : Nat} (hE : ES w ao l d) (hn : ao = none → cap = 0) (hl : l.length ≤ 9223372036854775807) (hA : ∀ e ∈ l, e.2.1.length ≤ 9223372036854775807)
    {c : Cal} (hC : CalOK w c) {x : Cal} (hX : CalOK w x) :
    Calls Try.prog 4 #[.slice ao l.length cap, clV c, clV x] w fun e w' => e = .returned (.bool true) ∧ Below w.heap.size w w' :=
  (own_any hE hn hl hA hC hX).mono fun _ _ h => ⟨h.1, h.2.below (Nat.le_refl _) (by simp)⟩

end Go.Proofs.Ytcdjddakdlflmab
