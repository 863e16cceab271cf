/-
  The walk of InstrFits: it answers true of whatever bytes, entries and number of locals, and writes nothing that was there. The table of words holds the words.
-/
import Derived.Test.YtemjhlhioeopnabDoorICPure
import Derived.Test.YtemjhlhioeopnabDoorINext
namespace Go.Proofs.YtemjhlhioeopnabDoor
open Go.RowKit

theorem allL_next (f : Nat) : ∀ (n k : Nat) (bs : List UInt8), bs.length ≤ n → bs.length ≤ f → (allL f k bs).2.2 = 0 →
    (bs ≠ [] → ∃ i ∈ (allL f k bs).1, i.1 = (k : Int)) ∧ ∀ i ∈ (allL f k bs).1, i.1 + i.2.2.2 = ((k + bs.length : Nat) : Int) ∨ ∃ j ∈ (allL f k bs).1, j.1 = i.1 + i.2.2.2 := by
  intro n
  induction n with
  | zero =>
    intro k bs h1 h2 _
    have : bs = [] := List.eq_nil_of_length_eq_zero (by omega)
    subst this
    rw [allL_nil]
    simp
  | succ n ih =>
    intro k bs h1 h2 h
    rcases allL_cases (k := k) h2 with ⟨h0, e⟩ | ⟨c, r, hb, hp, hl, _, _, e⟩ | ⟨_, hd, e⟩
    · rw [e]
      simp [h0]
    · rw [e, joinR_err] at h
      rw [e, joinR_ok h]
      obtain ⟨q1, q2⟩ := ih (k + sizeN c.toNat) (bs.drop (sizeN c.toNat)) (by simp; omega) (by simp; omega) h
      refine ⟨fun _ => ⟨((k : Int), (c.toNat : Int), (beI (r.take (sizeN c.toNat - 1)) : Int), (sizeN c.toNat : Int)), by simp, rfl⟩, fun i hi => ?_⟩
      simp only [List.singleton_append, List.mem_cons] at hi
      rcases hi with rfl | hi
      · simp only
        by_cases hz : bs.drop (sizeN c.toNat) = []
        · left
          have := congrArg List.length hz
          simp at this
          omega
        · right
          obtain ⟨j, hj, hk⟩ := q1 hz
          exact ⟨j, by simp [hj], by rw [hk]; omega⟩
      · rcases q2 i hi with q | ⟨j, hj, q⟩
        · left
          rw [q]
          simp
          omega
        · exact .inr ⟨j, by simp [hj], q⟩
    · rw [e] at h
      exact absurd h hd

theorem begun_of {l : List In} {i : In} {x : Nat} (hi : i ∈ l) (hx : i.1 = (x : Int)) : begunI l x = true := by
  unfold begunI
  rw [List.any_eq_true]
  exact ⟨i, hi, by simp [hx]⟩

/-- Where the instructions of code that is taken go on. -/
theorem fits_pure {code : List UInt8} {l : List En} {locals : Int} (h : (checkI code l locals).2 = 0) :
    (allR code).2.2 = 0 ∧ (allR code).1 ≠ [] ∧ ∀ i ∈ (allR code).1, (∀ x ∈ nextR i, 0 ≤ x ∧ x ≤ code.length ∧ (begunI (allR code).1 x.toNat = true ∨ x = code.length)) ∧ ((i.2.1 = 3 ∨ i.2.1 = 4) → i.2.2.1 < locals) := by
  obtain ⟨hne, _, hok, hw, _⟩ := check_parts h
  obtain ⟨q1, q2⟩ := allL_next code.length code.length 0 code (Nat.le_refl _) (Nat.le_refl _) hok
  have hev := all_each code
  refine ⟨hok, ?_, fun i hi => ⟨fun x hx => ?_, fun hr => ?_⟩⟩
  · obtain ⟨i, hi, _⟩ := q1 hne
    intro e
    have hi' : i ∈ (allR code).1 := hi
    rw [e] at hi'
    simp at hi'
  · obtain ⟨v0, v1, _, _, _, v5, v6, _⟩ := hev i hi
    have hs : x = i.1 + i.2.2.2 → 0 ≤ x ∧ x ≤ code.length ∧ (begunI (allR code).1 x.toNat = true ∨ x = code.length) := by
      intro e
      refine ⟨by omega, by omega, ?_⟩
      rcases q2 i hi with q | ⟨j, hj, q⟩
      · right
        rw [e, q]
        simp
      · left
        exact begun_of (i := j) hj (by rw [q]; omega)
    have hj : rowI i.2.1 = 4 → x = i.2.2.1 → 0 ≤ x ∧ x ≤ code.length ∧ (begunI (allR code).1 x.toNat = true ∨ x = code.length) := by
      intro hr e
      have := hw i hi
      unfold wrongI at this
      rw [if_neg (by omega), if_pos hr] at this
      have hb : begunI (allR code).1 i.2.2.1.toNat = true := by
        by_cases hb : begunI (allR code).1 i.2.2.1.toNat = true
        · exact hb
        · rw [if_neg hb] at this
          exact absurd this (by decide)
      refine ⟨by omega, ?_, .inl (by rw [e]; exact hb)⟩
      unfold begunI at hb
      rw [List.any_eq_true] at hb
      obtain ⟨j, hj, hd⟩ := hb
      have hd := of_decide_eq_true hd
      have := hev j hj
      omega
    have hc := next_cases i
    have hrow : ∀ k, 19 ≤ k → k ≤ 24 → i.2.1 = k → rowI i.2.1 = 4 := by
      intro k h1 h2 e
      rw [e]
      unfold rowI
      rw [if_neg (by omega), if_neg (by omega), if_neg (by omega), if_pos ⟨h1, h2⟩]
    rcases hc with ⟨_, e⟩ | ⟨_, ⟨_, e⟩ | ⟨ho, e⟩ | ⟨ho, e⟩ | ⟨_, e⟩⟩
    · rw [e] at hx; simp at hx
    · rw [e] at hx; simp at hx
    · rw [e] at hx
      simp only [List.mem_singleton] at hx
      exact hj (hrow 19 (by decide) (by decide) ho) hx
    · rw [e] at hx
      have hr : rowI i.2.1 = 4 := hrow i.2.1 (by omega) (by omega) rfl
      split at hx
      · simp only [List.mem_singleton] at hx
        exact hs hx
      · simp only [List.mem_cons, List.not_mem_nil, or_false] at hx
        rcases hx with hx | hx
        · exact hs hx
        · exact hj hr hx
    · rw [e] at hx
      simp only [List.mem_singleton] at hx
      exact hs hx
  · have := hw i hi
    unfold wrongI at this
    rw [if_pos ((row_local _).2 hr)] at this
    by_cases hq : locals ≤ i.2.2.1
    · rw [if_pos hq] at this
      exact absurd this (by decide)
    · omega

theorem getD_set {bl : List Bool} {p k : Nat} (hp : p < bl.length) (h : bl.getD k false = true ∨ k = p) : (bl.set p true).getD k false = true := by
  by_cases hk : k = p
  · subst hk
    simp [List.getD, hp]
  · rcases h with h | h
    · simpa [List.getD, Ne.symm hk] using h
    · exact absurd h hk

set_option maxHeartbeats 2000000 in
set_option maxRecDepth 100000 in
theorem fits_any {w : World} (hL : Laid w) {ao eo : Option Addr} {code : List UInt8} {l : List En} {d de cap ecap : Nat} (hB : RS w ao (bcs code) d) (hc : code.length ≤ cap) (hcl : cap ≤ 9223372036854775807)
    (hE : ES w eo l de) (hl : l.length ≤ 9223372036854775807) (hA : ∀ e ∈ l, e.2.1.length ≤ 9223372036854775807) (locals : Int) :
    Calls Tryd.prog 5 #[.slice ao code.length cap, .slice eo l.length ecap, .int .i64 locals] w fun e w' => e = .returned (.bool true) ∧ Only [] w w' := by
  have HK := hid (known_any hL)
  clear hL
  by_cases h5 : 1100 < code.length
  · have g1 : (1100 < (code.length : Int)) := by omega
    clear hB hE
    go_enter Tryd.func5, Tryd.ntmps5
    go_wp2_with (go_at_call 7; refine HK.out.mono ?_; rintro e w1 ⟨rfl, ho1⟩)
    go_ret
    exact ⟨rfl, ho1⟩
  have g1 : ¬ (1100 < (code.length : Int)) := by omega
  by_cases h4 : 400 < l.length
  · have g2 : (400 < (l.length : Int)) := by omega
    clear hB hE
    go_enter Tryd.func5, Tryd.ntmps5
    go_wp2_with (go_at_call 7; refine HK.out.mono ?_; rintro e w1 ⟨rfl, ho1⟩)
    go_ret
    exact ⟨rfl, ho1⟩
  have g2 : ¬ (400 < (l.length : Int)) := by omega
  have HC := fun W (hW : Only [] w W) => icheck_any (ecap := ecap) (hB.only0 hW) hc hcl (hE.only hW (by simp)) hl hA locals
  have HA := fun W (hW : Only [] w W) => all_any (hB.only0 hW) hc hcl (by omega)
  have hp := fun h => @fits_pure code l locals h
  have hev := all_each code
  have hln := all_len code
  generalize checkI code l locals = X at *
  generalize allR code = Z at *
  obtain ⟨xa, xe⟩ := X
  obtain ⟨al, za, ze⟩ := Z
  simp only at hp hev hln
  replace HC := hid HC
  replace HA := hid HA
  replace hp := hid hp
  replace hev := hid hev
  clear hB hE hA
  obtain ⟨i0, hi, hz0, hz1, hz2⟩ := elBool.parts
  go_enter Tryd.func5, Tryd.ntmps5
  go_wp2_with (first | (go_at_call 7; refine HK.out.mono ?_; rintro e w1 ⟨rfl, ho1⟩) | fail)
  refine (HC.out _ ho1).mono ?_
  rintro e w2 ⟨rfl, ho2⟩
  have o2 := hid (ho1.next ho2 (by simp))
  clear HC HK
  by_cases he : xe = 0
  · subst he
    obtain ⟨rfl, hne, hfit⟩ := hp.out rfl
    have hpos := List.length_pos_iff.2 hne
    have g3 : ¬ ((al.length : Int) = 0) := by omega
    have g3' : ((al.length : Int) == 0) = false := by simpa using g3
    replace hfit := hid hfit
    clear hp
    go_wp2_with fail
    refine (HA.out _ o2.out).mono ?_
    rintro e w3 ⟨ao3, cap3, rfl, hown3, ho3⟩
    obtain ⟨d3, hd3⟩ : ∃ d, RS w3 ao3 (qcs al) d := ⟨_, (RS.of_owns hown3).1⟩
    have hdlt := hd3.lt (qcs_ne hne)
    have s23 := o2.out.size
    have s33 := ho3.size
    clear hown3 HA hne
    go_wp2_with (at_make; refine wpList_make_full _ rfl (.tmp 51) (.tmp 51) 43 rfl w3.heap.size 4 i0 (.bool false) 1 Tryd.underlying43 hi hz0 hz1 .i64 .i64 _ _ (code.length + 1) rfl rfl (by omega) (by omega) (by rw [hz2]; omega) (by unfold maxLen; omega) (Nat.le_refl _) ?_; intro w4 hownG hgr)
    have hG0 := hownG
    rw [lcs_replicate] at hG0
    have o4 := hid ((o2.out.next ho3 (by simp)).next (Only.of_grown hgr) (by simp))
    have R4 := hid (hd3.only0 (Only.of_grown hgr))
    have G4 := hid hG0
    have hN0 := hid (begun_nil (code.length + 1))
    clear hownG hG0 hgr hd3
    go_loopw [13] (fun i wr => ∃ (j : Nat) (bl : List Bool), j ≤ al.length ∧ i = .int .i64 (j : Int) ∧ Hid (bl.length = code.length + 1) ∧ Hid (∀ k, bl.getD k false = begunI (al.take j) k) ∧ Hid (wr.ownsRow w3.heap.size 4 1 (.slice (some ⟨w3.heap.size, 0, none⟩) (code.length + 1) (code.length + 1)) (code.length + 1) (lcs bl)) ∧ Hid (RS wr ao3 (qcs al) d3) ∧ Hid (Only [] w wr)) (fun i _ => al.length - (intOf i).toNat)
    case atStart => exact ⟨0, List.replicate (code.length + 1) false, by omega, rfl, by simp [Hid], hN0, G4, R4, o4⟩
    case round =>
      obtain ⟨j, bl, hj, rfl, hbl, hbg, hG, hR, hor⟩ := hrel
      clear G4 R4 o4 hN0
      have hgl : w3.heap.size < wr.heap.size := ((hG.out.lt w3.heap.size rfl)).2
      by_cases hlt : j < al.length
      · have g4 : ((j : Int) < (al.length : Int)) := by omega
        have hRI := hid hR.out
        obtain ⟨off, rfl, y0, y1, y2, y3⟩ := hR.out.inAt hlt
        have v0 := (hev.out al[j] (List.getElem_mem hlt)).1
        have v1 : al[j].1 < code.length := by have := hev.out al[j] (List.getElem_mem hlt); omega
        have htk := List.take_succ_eq_append_getElem hlt
        clear hev hfit
        generalize al[j] = i at *
        obtain ⟨p, o, n, s⟩ := i
        simp only at y0 y1 y2 y3 v0 v1
        obtain ⟨p, rfl⟩ : ∃ q : Nat, p = (q : Int) := ⟨p.toNat, by omega⟩
        have hp : p < code.length := by omega
        obtain ⟨bz, z0⟩ : ∃ bz, wr.cell? ⟨w3.heap.size, p, none⟩ = some (.bool bz) := ⟨bl[p]'(by rw [hbl.out]; omega), by
          rw [hG.out.cellAt p (by omega), lcs_get bl p (by rw [hbl.out]; omega)]⟩
        have zf := hG.out.frozenAt p
        have g5 : ((p : Int) < ((code.length : Int) + 1)) := by omega
        have hbg' : Hid (∀ k, (bl.set p true).getD k false = begunI (al.take (j + 1)) k) := by
          rw [htk]
          exact begun_set hbg.out rfl (by rw [hbl.out]; omega)
        have G2 := hG.out.stored p (.bool true)
        rw [lcs_set] at G2
        have oo := hid ((Only.refl [w3.heap.size] wr).setCell (p := ⟨w3.heap.size, p, none⟩) (.inl (by simp)) (.bool true))
        replace G2 := hid G2.1
        clear htk
        go_wp2
        refine ⟨⟨j + 1, bl.set p true, by omega, by go_num, by simpa [Hid] using hbl.out, hbg', G2, hid (hRI.out.only oo.out (fun _ => by simp; omega)), hid (hor.out.setCell (p := ⟨w3.heap.size, p, none⟩) (.inr (by simp only; omega)) _)⟩, by simp [intOf]; omega⟩
      · have g4 : ¬ ((j : Int) < (al.length : Int)) := by omega
        have hbg' : Hid (∀ k, (begunI al k = true ∨ k = code.length) → (bl.set code.length true).getD k false = true) := by
          intro k hk
          refine getD_set (by rw [hbl.out]; omega) ?_
          have := hbg.out k
          rw [List.take_of_length_le (by omega)] at this
          rw [this]
          exact hk
        have hbl' : Hid ((bl.set code.length true).length = code.length + 1) := by rw [Hid, List.length_set]; exact hbl.out
        obtain ⟨bz, z0⟩ : ∃ bz, wr.cell? ⟨w3.heap.size, code.length, none⟩ = some (.bool bz) := ⟨bl[code.length]'(by rw [hbl.out]; omega), by
          rw [hG.out.cellAt code.length (by omega), lcs_get bl code.length (by rw [hbl.out]; omega)]⟩
        have zf := hG.out.frozenAt code.length
        have g5 : ((code.length : Int) < ((code.length : Int) + 1)) := by omega
        have G2 := hG.out.stored code.length (.bool true)
        rw [lcs_set] at G2
        replace G2 := hid G2.1
        have oo := hid ((Only.refl [w3.heap.size] wr).setCell (p := ⟨w3.heap.size, code.length, none⟩) (.inl (by simp)) (.bool true))
        have R2 := hid (hR.out.only oo.out (fun _ => by simp; omega))
        have q2 := hid (hor.out.setCell (p := ⟨w3.heap.size, code.length, none⟩) (.inr (by simp only; omega)) (.bool true))
        generalize bl.set code.length true = bl2 at *
        clear hbg hG hR hor oo hbl hgl
        go_wp2
        go_loopw [14] (fun i wr => ∃ (j : Nat), j ≤ al.length ∧ i = .int .i64 (j : Int) ∧ Hid (wr.ownsRow w3.heap.size 4 1 (.slice (some ⟨w3.heap.size, 0, none⟩) (code.length + 1) (code.length + 1)) (code.length + 1) (lcs bl2)) ∧ Hid (RS wr ao3 (qcs al) d3) ∧ Hid (Only [] w wr)) (fun i _ => al.length - (intOf i).toNat)
        case atStart => exact ⟨0, by omega, rfl, G2, R2, q2⟩
        case round =>
          obtain ⟨j', hj', rfl, hG, hR, hor⟩ := hrel
          clear G2 R2 q2 z0 zf
          by_cases hlt : j' < al.length
          · have g6 : ((j' : Int) < (al.length : Int)) := by omega
            have hRI := hid hR.out
            obtain ⟨off, ha3, hy⟩ := hR.out.inAt hlt
            obtain ⟨f1, f2⟩ := hfit.out al[j'] (List.getElem_mem hlt)
            have hvs := (hev.out al[j'] (List.getElem_mem hlt)).2.1
            have hvp := (hev.out al[j'] (List.getElem_mem hlt)).1
            have hvz := (hev.out al[j'] (List.getElem_mem hlt)).2.2.2.2.2.1
            have HX := fun W => next_any al[j'] (by omega) W
            have hXl : (nextR al[j']).length ≤ 2 := by
              unfold nextR
              repeat' split
              all_goals simp
            generalize al[j'] = i at *
            generalize nextR i = X at *
            obtain ⟨p, o, n, s⟩ := i
            have IY := hid hy
            obtain ⟨y0, y1, y2, y3⟩ := hy
            simp only at y0 y1 y2 y3 f2
            simp only [inV] at HX
            replace HX := hid HX
            replace f1 := hid f1
            replace f2 := hid f2
            clear hvs hvp hvz hfit hev
            subst ha3
            go_wp2_with (first | (go_at_call 15; refine (HX.out _).mono ?_; rintro e w5 ⟨ao5, cap5, rfl, hown5, ho5⟩) | fail)
            obtain ⟨d5, hd5⟩ : ∃ d, RS w5 ao5 (ics X) d := ⟨_, (RS.of_owns hown5).1⟩
            have N5 := hid hd5
            have G5 := hid (rows_only hG.out ho5 (by simp))
            have R5 := hid (hRI.out.only0 ho5)
            have o5 := hid (hor.out.next ho5 (by simp))
            have I5 := hid (IY.out.only ho5 (by simp))
            clear hown5 hd5 HX hG hR hRI hor y0 y1 y2 y3 IY
            go_loopw [16] (fun i wr => ∃ (k : Nat), k ≤ X.length ∧ i = .int .i64 (k : Int) ∧ wr = w5) (fun i _ => X.length - (intOf i).toNat)
            case atStart => exact ⟨0, by omega, rfl, rfl⟩
            case round =>
              obtain ⟨k, hk, rfl, rfl⟩ := hrel
              by_cases hkl : k < X.length
              · have g7 : ((k : Int) < (X.length : Int)) := by omega
                obtain ⟨off5, rfl, n0⟩ := N5.out.intAt hkl
                obtain ⟨u0, u1, u2⟩ := f1.out X[k] (List.getElem_mem hkl)
                generalize X[k] = x at *
                obtain ⟨x, rfl⟩ : ∃ q : Nat, x = (q : Int) := ⟨x.toNat, by omega⟩
                have hx : x < code.length + 1 := by omega
                have hb := hbg'.out x (by
                  rcases u2 with q | q
                  · exact .inl (by simpa using q)
                  · exact .inr (by omega))
                have b0 : wr.cell? ⟨w3.heap.size, x, none⟩ = some (.bool true) := by
                  rw [G5.out.cellAt x (by omega), lcs_get bl2 x (by rw [hbl'.out]; exact hx)]
                  congr 2
                  rw [← hb, List.getD_eq_getElem?_getD, List.getElem?_eq_getElem (by rw [hbl'.out]; exact hx)]
                  rfl
                have g8 : ¬ ((x : Int) < 0) := by omega
                have g9 : ¬ ((code.length : Int) < (x : Int)) := by omega
                have g10 : ((x : Int) < ((code.length : Int) + 1)) := by omega
                clear u0 u1 u2 hb f1 f2 hbg'
                go_wp2
                exact ⟨⟨k + 1, by omega, by go_num, by first | rfl | trivial⟩, by simp [intOf]; omega⟩
              · have g7 : ¬ ((k : Int) < (X.length : Int)) := by omega
                obtain ⟨y0, y1, y2, y3⟩ := I5.out
                simp only at y0 y1 y2 y3
                clear N5 f1 hbg'
                by_cases h3 : o = 3
                · subst h3
                  have hn := f2.out (.inl rfl)
                  have g8 : ¬ (locals ≤ n) := by omega
                  clear f2
                  go_wp2
                  exact ⟨⟨j' + 1, by omega, by go_num, G5, R5, o5⟩, by simp [intOf]; omega⟩
                · have b3 : (o == 3) = false := by simpa using h3
                  by_cases h4' : o = 4
                  · subst h4'
                    have hn := f2.out (.inr rfl)
                    have g8 : ¬ (locals ≤ n) := by omega
                    clear f2
                    go_wp2
                    exact ⟨⟨j' + 1, by omega, by go_num, G5, R5, o5⟩, by simp [intOf]; omega⟩
                  · have b4 : (o == 4) = false := by simpa using h4'
                    clear f2
                    go_wp2
                    exact ⟨⟨j' + 1, by omega, by go_num, G5, R5, o5⟩, by simp [intOf]; omega⟩
          · have g6 : ¬ ((j' : Int) < (al.length : Int)) := by omega
            clear hfit hev
            go_wp2
            go_ret
            exact ⟨rfl, hor.out⟩
  · have ge : (xe == 0) = false := by simpa using he
    clear hp hev HA
    go_wp2
    go_ret
    exact ⟨rfl, o2.out⟩

theorem fits_walk {w : World} (hL : Laid w) {ao eo : Option Addr} {code : List UInt8} {l : List En} {d de cap ecap : Nat} (hB : RS w ao (bcs code) d) (hc : code.length ≤ cap) (hcl : cap ≤ 9223372036854775807) (_ : ao = none → cap = 0)
    (hE : ES w eo l de) (_ : eo = none → ecap = 0) (hl : l.length ≤ 9223372036854775807) (hA : ∀ e ∈ l, e.2.1.length ≤ 9223372036854775807) (locals : Int) :
    Calls Tryd.prog 5 #[.slice ao code.length cap, .slice eo l.length ecap, .int .i64 locals] w fun e w' => e = .returned (.bool true) ∧ Below w.heap.size w w' :=
  (fits_any hL hB hc hcl hE hl hA locals).mono fun _ _ h => ⟨h.1, h.2.below (Nat.le_refl _) (by simp)⟩

end Go.Proofs.YtemjhlhioeopnabDoor
