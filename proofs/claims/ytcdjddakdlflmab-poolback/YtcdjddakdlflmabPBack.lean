/-
  The walk of PoolBack: it answers true of whatever calls, and writes nothing that was there. No conditions.
-/
import Derived.Test.YtcdjddakdlflmabPKnown
import Derived.Test.YtcdjddakdlflmabPMeant
import Derived.Test.YtcdjddakdlflmabPAppI
namespace Go.Proofs.Ytcdjddakdlflmab
open Go.RowKit

theorem good_text {l : List En} (h : Good l) : ∀ e ∈ l, e.2.1.length ≤ 9223372036854775807 := by
  intro e he
  have hw := h.all e he
  obtain ⟨h1, h6, hu⟩ := wrong_used hw
  by_cases hk : e.1 = 1
  · rw [wrong_of h1 h6 hu, if_pos hk] at hw
    have := short_len hw
    omega
  · have : e.2.1 = [] := by
      rw [hu]
      unfold usedE
      split
      · exact absurd (by assumption) hk
      · split
        · rfl
        · split <;> rfl
    rw [this]
    simp

/-- What the first loop keeps: the numbers that were told, the builder, what the numbers say. -/
structure Bk (w wr : World) (b : Nat) (cs : List Cal) (ao : Option Addr) (cp : Nat) (ns : List Int) (R : Option Nat) (L : List En) : Prop where
  row : OwI wr 0 (.slice ao ns.length cp) ns
  apart : ∀ a, ao = some a → a.block ≠ b ∧ R ≠ some a.block ∧ w.heap.size ≤ a.block
  bd : Bd wr b R L
  RR : ∀ g, R = some g → w.heap.size ≤ g
  bb : w.heap.size ≤ b
  good : Good L
  said : ∀ q (hq : q < ns.length) (hc : q < cs.length), ns[q] = -1 ∨ (SaidIs L cs[q] ns[q] ∧ 0 ≤ ns[q])
  only : Only [] w wr

theorem Bk.safe {w wr : World} {b : Nat} {cs : List Cal} {ao : Option Addr} {cp : Nat} {ns : List Int} {R : Option Nat} {L : List En} (h : Bk w wr b cs ao cp ns R L) : ∀ y ∈ b :: R.toList, w.heap.size ≤ y := by
  intro y hy
  simp at hy
  rcases hy with rfl | hy
  · exact h.bb
  · exact h.RR _ hy

/-- A call of the builder. -/
theorem Bk.step {w wr w2 : World} {b : Nat} {cs : List Cal} {ao : Option Addr} {cp : Nat} {ns : List Int} {R R2 : Option Nat} {L L2 : List En} (h : Bk w wr b cs ao cp ns R L) (k : Bt wr w2 b R R2 L2) (hg : Good L2) (hpre : ∃ r, L2 = L ++ r) : Bk w w2 b cs ao cp ns R2 L2 := by
  obtain ⟨r, rfl⟩ := hpre
  have hs := h.only.size
  have hrow := (owi_at h.row).1
  refine ⟨owi_only h.row k.only ?_, ?_, k.bd, ?_, h.bb, hg, ?_, h.only.next k.only h.safe⟩
  · intro x hx hm
    cases ao with
    | none => cases hx
    | some a =>
      simp [Value.ownBlock] at hx
      subst hx
      have := h.apart a rfl
      simp at hm
      rcases hm with hm | hm
      · exact this.1 hm
      · exact this.2.1 hm
  · intro a ha
    have q := h.apart a ha
    have q2 := (hrow a ha).2.1
    refine ⟨q.1, ?_, q.2.2⟩
    rcases k.row with e | ⟨g, e, hge⟩
    · rw [e]
      exact q.2.1
    · rw [e]
      simp
      omega
  · intro g hg'
    rcases k.row with e | ⟨g', e, hge⟩
    · exact h.RR g (by rw [← e]; exact hg')
    · rw [e] at hg'
      simp at hg'
      omega
  · intro q hq hc
    rcases h.said q hq hc with e | ⟨e, e2⟩
    · exact .inl e
    · exact .inr ⟨e.more, e2⟩

/-- A number behind the others. -/
theorem Bk.app {w wr w3 : World} {o : Obj} {b : Nat} {cs : List Cal} {ao ao' : Option Addr} {cp cp' : Nat} {ns : List Int} {R : Option Nat} {L : List En} {n : Int} (h : Bk w wr b cs ao cp ns R L) (hown : OwI w3 0 (.slice ao' (ns ++ [n]).length cp') (ns ++ [n])) (hg : (wr.alloc o).grownBy w3 (Value.ownBlock (.slice ao ns.length cp)))
    (hao : ∀ a, ao' = some a → (∃ a', ao = some a' ∧ a'.block = a.block) ∨ wr.heap.size + 1 ≤ a.block) (hsd : ∀ hc : ns.length < cs.length, n = -1 ∨ (SaidIs L cs[ns.length] n ∧ 0 ≤ n)) : Bk w w3 b cs ao' cp' (ns ++ [n]) R L := by
  have hs := h.only.size
  have hbl := h.bd.lt
  have hrl := h.bd.row_lt
  have ho3 : Only (Value.ownBlock (.slice ao ns.length cp)).toList wr w3 := ((Only.refl _ wr).alloc o).trans (Only.of_grown hg) (fun x hx => .inl hx)
  have hA : ∀ y ∈ (Value.ownBlock (.slice ao ns.length cp)).toList, y ≠ b ∧ R ≠ some y ∧ w.heap.size ≤ y := by
    intro y hy
    cases ao with
    | none => cases hy
    | some a =>
      simp [Value.ownBlock] at hy
      subst hy
      exact h.apart a rfl
  refine ⟨hown, ?_, h.bd.only ho3 (fun hm => (hA b hm).1 rfl) (fun g hg' hm => (hA g hm).2.1 hg'), h.RR, h.bb, h.good, ?_, h.only.next ho3 (fun y hy => (hA y hy).2.2)⟩
  · intro a ha
    rcases hao a ha with ⟨a', e1, e2⟩ | e1
    · rw [← e2]
      exact h.apart a' e1
    · refine ⟨by omega, fun e => ?_, by omega⟩
      have := hrl _ e
      omega
  · intro q hq hc
    by_cases e : q < ns.length
    · rw [List.getElem_append_left e]
      exact h.said q e hc
    · have : q = ns.length := by simp at hq; omega
      subst this
      rw [List.getElem_append_right (Nat.le_refl _)]
      simpa using hsd hc

theorem is_one (w : World) (n : Int) (u : TypeId) : IS (w.alloc (.cells #[.int .i64 n] u)) (some ⟨w.heap.size, 0, none⟩) [n] w.heap.size := by
  refine .inr ⟨0, rfl, fun j hj => ?_⟩
  have : j = 0 := by simpa using hj
  subst this
  simp

set_option maxHeartbeats 4000000 in
set_option maxRecDepth 100000 in
theorem back_any {w : World} {co : Option Addr} {cs : List Cal} {dc cop : Nat} (hC : CS w co cs dc) (hcl : cs.length ≤ 9223372036854775807) (hok : ∀ c ∈ cs, CalOK w c) :
    Calls Try.prog 3 #[.slice co cs.length cop] w fun e w' => e = .returned (.bool true) ∧ Only [] w w' := by
  have HK := hid (known_any w)
  have HN := fun W => new_any (w := W) (ao := none) (l := []) (d := 0) (cap := 0) (ES.nil _ _ _) (fun _ => rfl) (by simp) (by simp)
  have en : newE [] = [] := by decide
  unfold NewPost at HN
  rw [en] at HN
  simp only [List.length_nil] at HN
  replace HN := hid HN
  have hCl := hid (fun W S (hW : Only S w W) (hS : ∀ y ∈ S, w.heap.size ≤ y) => hC.only hW (fun hne hm => by have := hC.lt hne; have := hS _ hm; omega))
  have hOk := hid (fun W (hW : Only [] w W) x (hx : x ∈ cs) => (hok x hx).only hW (by simp))
  clear hC hok en
  go_enter Try.func3, Try.ntmps3
  go_wp2_with (first | (go_at_call 5; refine HK.out.mono ?_; rintro e w1 ⟨rfl, ho1⟩) | fail)
  refine (HN.out w1).mono ?_
  rintro e w2 ⟨b, R0, rfl, hb2, hB2, hR2, ho2⟩
  have o2 := ho1.next ho2 (by simp)
  have hz1 := ho1.size
  have K0 : Hid (Bk w w2 b cs none 0 [] R0 []) := ⟨owi_nil _ _, (fun a ha => by cases ha), hB2, fun g hg => by have := hR2 g hg; omega, by omega, good_nil, fun q hq => by simp at hq, o2⟩
  clear HK HN hB2
  go_wp2
  go_loopw [4, 5] (fun v i wr => ∃ j : Nat, j ≤ cs.length ∧ j ≤ 60 ∧ i = .int .i64 (j : Int) ∧ ∃ ao cp ns R L, v = .slice ao ns.length cp ∧ ns.length = j ∧ L.length ≤ 5 * j ∧ Bk w wr b cs ao cp ns R L) (fun _ i _ => 60 - (intOf i).toNat)
  case atStart => exact ⟨0, by omega, by omega, rfl, none, 0, [], R0, [], rfl, rfl, by simp, K0.out⟩
  case round =>
    clear K0
    obtain ⟨j, hj, hj60, rfl, ao, cp, ns, R, L, rfl, hnj, hLl, hK⟩ := hrel
    have hcond : (j < cs.length ∧ j < 60) ∨ (j < cs.length ∧ ¬ j < 60) ∨ ¬ j < cs.length := by omega
    rcases hcond with ⟨hlt, h60⟩ | ⟨hlt, h60⟩ | hlt
    · have g1 : ((j : Int) < (cs.length : Int)) := by omega
      have g2 : ((j : Int) < 60) := by omega
      obtain ⟨off, hco, hat⟩ := (hCl.out _ [] hK.only (by simp)).at hlt
      subst hco
      have HA := again_any hK.bd (by omega) (hOk.out _ hK.only cs[j] (List.getElem_mem hlt))
      obtain ⟨hg, hpre, hsd, hln⟩ := again_good hK.good (by omega) cs[j]
      have hsj : ∀ n, (n = -1 ∨ (SaidIs (againB L cs[j]).1 cs[j] n ∧ 0 ≤ n)) → ∀ hc : ns.length < cs.length, n = -1 ∨ (SaidIs (againB L cs[j]).1 cs[ns.length] n ∧ 0 ≤ n) := by
        intro n hn hc
        subst hnj
        exact hn
      have hat2 := fun w2 (R2 : Option Nat) (k : Bt wr w2 b R R2 (againB L cs[j]).1) => (hCl.out _ [] (hK.step k hg hpre).only (by simp)).at hlt
      generalize cs[j] = x at *
      generalize againB L x = y at *
      obtain ⟨yl, yn, ye⟩ := y
      simp only at hg hpre hsd hln hsj hat2
      obtain ⟨c0, c1, c2, c3, c4, c5, c6, c7, c8, c9⟩ := hat
      unfold BPost at HA
      simp only [clV] at HA
      replace HA := hid HA
      replace hsj := hid hsj
      replace hat2 := hid hat2
      replace hsd := hid hsd
      replace hpre := hid hpre
      replace hg := hid hg
      replace hK := hid hK
      replace hnj := hid hnj
      go_wp2_with fail
      refine HA.out.mono ?_
      rintro e w3 ⟨rfl, R2, hb3⟩
      have hK3 := hK.out.step hb3 hg.out hpre.out
      obtain ⟨off', hco, hat3⟩ := hat2.out w3 R2 hb3
      simp at hco
      subst hco
      clear c0 c1 c2 c3 c4 c5 c6 c7 c8 c9 hK HA hb3
      obtain ⟨c0, c1, c2, c3, c4, c5, c6, c7, c8, c9⟩ := hat3
      have hO := fun n => hid (owi_only hK3.row ((Only.refl [] w3).alloc (.cells #[.int .i64 n] 3)) (by simp))
      have hX := fun n => hid (is_one w3 n 3)
      replace hK3 := hid hK3
      by_cases hz : ye = 0
      · subst hz
        by_cases hp : 100 < x.ps.length
        · have gp : (100 < (x.ps.length : Int)) := by omega
          replace hO := hO (-1)
          replace hX := hX (-1)
          clear c0 c1 c2 c3 c4 c5 c7 c8 c9
          go_wp2_with (at_builtin; refine wpList_append_ints rfl (.tmp 52) (.tmp 54) Try.underlying26 rfl rfl rfl hO.out hX.out (by simp) (by have := hnj.out; simp; omega) (by simp) ?_)
          intro ao' cp' w4 hown hg4 hao hnn hold
          have hk4 := hK3.out.app (n := -1) (by simpa using hown) hg4 hao (hsj.out (-1) (.inl rfl))
          clear hown hg4 hao hnn hold
          replace hk4 := hid hk4
          go_wp2
          exact ⟨⟨j + 1, by omega, by omega, by go_num, ao', cp', ns ++ [-1], R2, yl, by simp, by simp [hnj.out], by omega, hk4.out⟩, by simp [intOf]; omega⟩
        · have gp : ¬ (100 < (x.ps.length : Int)) := by omega
          have hn0 : 0 ≤ yn := by
            have hs := hsd.out rfl
            rcases hs.ex with ⟨_, _, h3⟩ | ⟨_, h3⟩ | ⟨_, _, _, _, h3⟩ | ⟨_, _, _, _, h3⟩ | ⟨_, _, _, _, h3⟩ | ⟨_, _, _, _, _, h3⟩
            · obtain ⟨q, _, e, _⟩ := enAt_some h3
              omega
            · obtain ⟨q, _, e, _⟩ := enAt_some h3
              omega
            · obtain ⟨q, _, e, _⟩ := enAt_some h3
              omega
            · obtain ⟨q, _, e, _⟩ := enAt_some h3
              omega
            · obtain ⟨_, _, _, _, _, _, _, _, h4⟩ := h3.ex
              obtain ⟨q, _, e, _⟩ := enAt_some h4
              omega
            · obtain ⟨_, _, _, _, _, _, _, _, h4⟩ := h3.ex
              obtain ⟨q, _, e, _⟩ := enAt_some h4
              omega
          have hfin := hid (hsj.out yn (.inr ⟨hsd.out rfl, hn0⟩))
          replace hO := hO yn
          replace hX := hX yn
          clear c0 c1 c2 c3 c4 c5 c7 c8 c9
          go_wp2_with (at_builtin; refine wpList_append_ints rfl (.tmp 52) (.tmp 54) Try.underlying26 rfl rfl rfl hO.out hX.out (by simp) (by have := hnj.out; simp; omega) (by simp) ?_)
          intro ao' cp' w4 hown hg4 hao hnn hold
          have hk4 := hK3.out.app (n := yn) (by simpa using hown) hg4 hao hfin.out
          clear hown hg4 hao hnn hold
          replace hk4 := hid hk4
          go_wp2
          exact ⟨⟨j + 1, by omega, by omega, by go_num, ao', cp', ns ++ [yn], R2, yl, by simp, by simp [hnj.out], by omega, hk4.out⟩, by simp [intOf]; omega⟩
      · have gz : (ye == 0) = false := by simpa using hz
        replace hO := hO (-1)
        replace hX := hX (-1)
        clear c0 c1 c2 c3 c4 c5 c6 c7 c8 c9
        go_wp2_with (at_builtin; refine wpList_append_ints rfl (.tmp 52) (.tmp 54) Try.underlying26 rfl rfl rfl hO.out hX.out (by simp) (by have := hnj.out; simp; omega) (by simp) ?_)
        intro ao' cp' w4 hown hg4 hao hnn hold
        have hk4 := hK3.out.app (n := -1) (by simpa using hown) hg4 hao (hsj.out (-1) (.inl rfl))
        clear hown hg4 hao hnn hold
        replace hk4 := hid hk4
        go_wp2
        exact ⟨⟨j + 1, by omega, by omega, by go_num, ao', cp', ns ++ [-1], R2, yl, by simp, by simp [hnj.out], by omega, hk4.out⟩, by simp [intOf]; omega⟩
    · have g1 : ((j : Int) < (cs.length : Int)) := by omega
      have g2 : ¬ ((j : Int) < 60) := by omega
      obtain ⟨hrow, hapart, hbd, hRR, hbb, hgood, hsaid, honly⟩ := hK
      have hLn : L.length ≤ 300 := by omega
      have HP := hid (pool_any hbd (by omega))
      replace hrow := hid hrow
      replace hbd := hid hbd
      replace hsaid := hid hsaid
      replace hgood := hid hgood
      clear hLl
      go_wp2_with fail
      refine HP.out.mono ?_
      rintro e w4 ⟨po, pc, rfl, hp4, ho4⟩
      have hpE := (ES.of_owns hp4).1
      have HC := pcheck_any (cap := pc) hpE (by omega) (good_text hgood.out)
      rw [check_of_all (by omega) hgood.out.all] at HC
      simp only at HC
      replace HC := hid HC
      generalize hpd : (po.map (·.block)).getD 0 = pd at hpE
      have hpb : Hid (L ≠ [] → wr.heap.size ≤ pd ∧ pd < w4.heap.size) := by
        intro hne
        have hlt := hpE.lt hne
        refine ⟨?_, hlt⟩
        cases po with
        | none => exact absurd hpE.none_nil hne
        | some a =>
          have := ((ES.of_owns hp4).2.2.2.2 a rfl).1
          simp at hpd
          omega
      clear hpd
      replace hpE := hid hpE
      replace hp4 := hid hp4
      clear HP
      go_wp2_with fail
      refine HC.out.mono ?_
      rintro e w5 ⟨rfl, ho5⟩
      have o45 := ho4.next ho5 (by simp)
      have o5 := honly.next o45 (by simp)
      have B5 := hid (hbd.out.only o45 (by simp) (by simp))
      have hblt := hbd.out.lt
      have hrlt := hbd.out.row_lt
      have hz := honly.size
      have row5 := hid (owi_only hrow.out o45 (by simp))
      have P5 := hid (hpE.out.only ho5 (by simp))
      have hsafe : ∀ y ∈ b :: R.toList, w.heap.size ≤ y ∧ y < wr.heap.size := by
        intro y hy
        simp at hy
        rcases hy with rfl | hy
        · exact ⟨hbb, hblt⟩
        · exact ⟨hRR _ hy, hrlt _ hy⟩
      have hrowA : ∀ k, (Value.slice ao ns.length cp).ownBlock = some k → k ∉ b :: R.toList := by
        intro k hk hm
        cases ao with
        | none => cases hk
        | some a =>
          simp [Value.ownBlock] at hk
          subst hk
          have := hapart a rfl
          simp at hm
          rcases hm with hm | hm
          · exact this.1 hm
          · exact this.2.1 hm
      have hpA : L ≠ [] → pd ∉ b :: R.toList := by
        intro hne hm
        have := hsafe _ hm
        have := hpb.out hne
        omega
      replace hsafe := hid hsafe
      replace hrowA := hid hrowA
      replace hpA := hid hpA
      clear HC hrow hbd hpE
      go_wp2
      go_loopw [11] (fun i wx => ∃ q : Nat, q ≤ ns.length ∧ i = .int .i64 (q : Int) ∧ ∃ R', Bt w5 wx b R R' L) (fun i _ => ns.length - (intOf i).toNat)
      case atStart => exact ⟨0, by omega, rfl, R, Bt.refl B5.out⟩
      case round =>
        obtain ⟨q, hq, rfl, R', hbt⟩ := hrel
        have owr : Only [] w wr := o5.next hbt.only (fun y hy => (hsafe.out y hy).1)
        have hrw := owi_only row5.out hbt.only hrowA.out
        by_cases hql : q < ns.length
        · have gq : ((q : Int) < (ns.length : Int)) := by omega
          have hqc : q < cs.length := by omega
          have gqc : ((q : Int) < (cs.length : Int)) := by omega
          obtain ⟨g, hao, hcell⟩ := (owi_at hrw).2 q hql
          subst hao
          rcases hsaid.out q hql hqc with hm1 | ⟨hsd, hn0⟩
          · rw [hm1] at hcell
            replace hbt := hid hbt
            clear hrw
            go_wp2
            exact ⟨⟨q + 1, by omega, by go_num, R', hbt.out⟩, by simp [intOf]; omega⟩
          · have gn : ¬ (ns[q] < 0) := by omega
            obtain ⟨off, hco, hat⟩ := (hCl.out _ [] owr (by simp)).at hqc
            subst hco
            have hcok := hOk.out _ owr cs[q] (List.getElem_mem hqc)
            have HA := again_any hbt.bd (by omega) hcok
            rw [again_again hgood.out.once (by omega) hsd] at HA
            have hat2 := fun W (hW : Only [] w W) => (hCl.out _ [] hW (by simp)).at hqc
            have HM := fun W (hW : Only [] w W) (hPW : ES W po L pd) => meant_any (bap := pc) hPW (by omega) (good_text hgood.out) hgood.out (hOk.out _ hW cs[q] (List.getElem_mem hqc)) hsd
            have hcell2 := fun w6 R6 (k : Bt wr w6 b R' R6 L) => (owi_at (owi_only row5.out (hbt.trans k).only hrowA.out)).2 q hql
            generalize cs[q] = x at *
            generalize ns[q] = n at *
            obtain ⟨c0, c1, c2, c3, c4, c5, c6, c7, c8, c9⟩ := hat
            unfold BPost at HA
            simp only [clV] at HA HM
            replace HA := hid HA
            replace HM := hid HM
            replace hat2 := hid hat2
            replace hcell2 := hid hcell2
            replace hbt := hid hbt
            clear hrw hsd hcok
            go_wp2_with fail
            refine HA.out.mono ?_
            rintro e w6 ⟨rfl, R6, hb6⟩
            have hbt6 := hbt.out.trans hb6
            have ow6 : Only [] w w6 := o5.next hbt6.only (fun y hy => (hsafe.out y hy).1)
            obtain ⟨g', hg', hc6⟩ := hcell2.out w6 R6 hb6
            simp at hg'
            subst hg'
            obtain ⟨off', hco, hat6⟩ := hat2.out w6 ow6
            simp at hco
            subst hco
            replace HM := hid (HM.out w6 ow6 (P5.out.only hbt6.only hpA.out))
            clear c0 c1 c2 c3 c4 c5 c6 c7 c8 c9 HA hb6 hcell
            obtain ⟨c0, c1, c2, c3, c4, c5, c6, c7, c8, c9⟩ := hat6
            replace hbt6 := hid hbt6
            go_wp2_with (go_at_call 10; refine HM.out.mono ?_; rintro e w7 ⟨rfl, ho7⟩)
            exact ⟨⟨q + 1, by omega, by go_num, R6, hbt6.out.next ho7⟩, by simp [intOf]; omega⟩
        · have gq : ¬ ((q : Int) < (ns.length : Int)) := by omega
          have HP2 := hid (pool_any hbt.bd (by omega))
          have Pwr := hid (P5.out.only hbt.only hpA.out)
          replace owr := hid owr
          clear hrw hbt
          go_wp2_with fail
          refine HP2.out.mono ?_
          rintro e w8 ⟨po2, pc2, rfl, hp8, ho8⟩
          have HS := same_any (cap := pc2) (bap := pc) (ES.of_owns hp8).1 (Pwr.out.only ho8 (by simp)) (by omega)
          rw [decide_eq_true rfl] at HS
          replace HS := hid HS
          clear HP2 hp8
          go_wp2_with fail
          refine HS.out.mono ?_
          rintro e w9 ⟨rfl, ho9⟩
          have P9 := hid (Pwr.out.only (ho8.next ho9 (by simp)) (by simp))
          have o9 := hid (owr.out.next (ho8.next ho9 (by simp)) (by simp))
          have honce := hid hgood.out.once
          clear HS Pwr gq
          go_wp2
          go_loopw [14] (fun i wx => ∃ p : Nat, p ≤ L.length ∧ i = .int .i64 (p : Int) ∧ Only [] w9 wx) (fun i _ => L.length - (intOf i).toNat)
          case atStart => exact ⟨0, by omega, rfl, Only.refl _ _⟩
          case round =>
            obtain ⟨p, hp, rfl, hop⟩ := hrel
            by_cases hpl : p < L.length
            · have gp : ((p : Int) < (L.length : Int)) := by omega
              obtain ⟨offp, hpo, _⟩ := (P9.out.only hop (by simp)).at hpl
              subst hpo
              go_wp2
              go_loopw [15] (fun i wx => ∃ k : Nat, k ≤ p ∧ i = .int .i64 (k : Int) ∧ Only [] w9 wx) (fun i _ => p - (intOf i).toNat)
              case atStart => exact ⟨0, by omega, rfl, hop⟩
              case round =>
                clear hop
                obtain ⟨k, hk, rfl, hop⟩ := hrel
                by_cases hkp : k < p
                · have gk : ((k : Int) < (p : Int)) := by omega
                  have gk2 : ((k : Int) < (L.length : Int)) := by omega
                  obtain ⟨o1', ho1', y0, y1, y2, y3, y4, y5⟩ := (P9.out.only hop (by simp)).at hpl
                  simp at ho1'
                  subst ho1'
                  obtain ⟨o2', ho2', z0, z1, z2, z3, z4, z5⟩ := (P9.out.only hop (by simp)).at (show k < L.length by omega)
                  simp at ho2'
                  subst ho2'
                  have hqe := eq_entry L[p] (L[k]'(by omega))
                  have hne : ¬ (L[p] = L[k]'(by omega)) := by
                    intro e
                    have := (List.getElem_inj honce.out).1 e
                    omega
                  rw [decide_eq_false hne] at hqe
                  clear hne
                  generalize L[p] = u at *
                  generalize L[k]'(by omega) = u2 at *
                  simp only [enV] at hqe
                  go_wp2_with fail
                  go_region
                  go_wp2
                  exact ⟨⟨k + 1, by omega, by go_num, hop.drew⟩, by simp [intOf]; omega⟩
                · have gk : ¬ ((k : Int) < (p : Int)) := by omega
                  go_wp2
                  exact ⟨⟨p + 1, by omega, by go_num, hop⟩, by simp [intOf]; omega⟩
            · have gp : ¬ ((p : Int) < (L.length : Int)) := by omega
              go_wp2
              go_ret
              exact ⟨rfl, o9.out.next hop (by simp)⟩
    · have g1 : ¬ ((j : Int) < (cs.length : Int)) := by omega
      obtain ⟨hrow, hapart, hbd, hRR, hbb, hgood, hsaid, honly⟩ := hK
      have hLn : L.length ≤ 300 := by omega
      have HP := hid (pool_any hbd (by omega))
      replace hrow := hid hrow
      replace hbd := hid hbd
      replace hsaid := hid hsaid
      replace hgood := hid hgood
      clear hLl
      go_wp2_with fail
      refine HP.out.mono ?_
      rintro e w4 ⟨po, pc, rfl, hp4, ho4⟩
      have hpE := (ES.of_owns hp4).1
      have HC := pcheck_any (cap := pc) hpE (by omega) (good_text hgood.out)
      rw [check_of_all (by omega) hgood.out.all] at HC
      simp only at HC
      replace HC := hid HC
      generalize hpd : (po.map (·.block)).getD 0 = pd at hpE
      have hpb : Hid (L ≠ [] → wr.heap.size ≤ pd ∧ pd < w4.heap.size) := by
        intro hne
        have hlt := hpE.lt hne
        refine ⟨?_, hlt⟩
        cases po with
        | none => exact absurd hpE.none_nil hne
        | some a =>
          have := ((ES.of_owns hp4).2.2.2.2 a rfl).1
          simp at hpd
          omega
      clear hpd
      replace hpE := hid hpE
      replace hp4 := hid hp4
      clear HP
      go_wp2_with fail
      refine HC.out.mono ?_
      rintro e w5 ⟨rfl, ho5⟩
      have o45 := ho4.next ho5 (by simp)
      have o5 := honly.next o45 (by simp)
      have B5 := hid (hbd.out.only o45 (by simp) (by simp))
      have hblt := hbd.out.lt
      have hrlt := hbd.out.row_lt
      have hz := honly.size
      have row5 := hid (owi_only hrow.out o45 (by simp))
      have P5 := hid (hpE.out.only ho5 (by simp))
      have hsafe : ∀ y ∈ b :: R.toList, w.heap.size ≤ y ∧ y < wr.heap.size := by
        intro y hy
        simp at hy
        rcases hy with rfl | hy
        · exact ⟨hbb, hblt⟩
        · exact ⟨hRR _ hy, hrlt _ hy⟩
      have hrowA : ∀ k, (Value.slice ao ns.length cp).ownBlock = some k → k ∉ b :: R.toList := by
        intro k hk hm
        cases ao with
        | none => cases hk
        | some a =>
          simp [Value.ownBlock] at hk
          subst hk
          have := hapart a rfl
          simp at hm
          rcases hm with hm | hm
          · exact this.1 hm
          · exact this.2.1 hm
      have hpA : L ≠ [] → pd ∉ b :: R.toList := by
        intro hne hm
        have := hsafe _ hm
        have := hpb.out hne
        omega
      replace hsafe := hid hsafe
      replace hrowA := hid hrowA
      replace hpA := hid hpA
      clear HC hrow hbd hpE
      go_wp2
      go_loopw [11] (fun i wx => ∃ q : Nat, q ≤ ns.length ∧ i = .int .i64 (q : Int) ∧ ∃ R', Bt w5 wx b R R' L) (fun i _ => ns.length - (intOf i).toNat)
      case atStart => exact ⟨0, by omega, rfl, R, Bt.refl B5.out⟩
      case round =>
        obtain ⟨q, hq, rfl, R', hbt⟩ := hrel
        have owr : Only [] w wr := o5.next hbt.only (fun y hy => (hsafe.out y hy).1)
        have hrw := owi_only row5.out hbt.only hrowA.out
        by_cases hql : q < ns.length
        · have gq : ((q : Int) < (ns.length : Int)) := by omega
          have hqc : q < cs.length := by omega
          have gqc : ((q : Int) < (cs.length : Int)) := by omega
          obtain ⟨g, hao, hcell⟩ := (owi_at hrw).2 q hql
          subst hao
          rcases hsaid.out q hql hqc with hm1 | ⟨hsd, hn0⟩
          · rw [hm1] at hcell
            replace hbt := hid hbt
            clear hrw
            go_wp2
            exact ⟨⟨q + 1, by omega, by go_num, R', hbt.out⟩, by simp [intOf]; omega⟩
          · have gn : ¬ (ns[q] < 0) := by omega
            obtain ⟨off, hco, hat⟩ := (hCl.out _ [] owr (by simp)).at hqc
            subst hco
            have hcok := hOk.out _ owr cs[q] (List.getElem_mem hqc)
            have HA := again_any hbt.bd (by omega) hcok
            rw [again_again hgood.out.once (by omega) hsd] at HA
            have hat2 := fun W (hW : Only [] w W) => (hCl.out _ [] hW (by simp)).at hqc
            have HM := fun W (hW : Only [] w W) (hPW : ES W po L pd) => meant_any (bap := pc) hPW (by omega) (good_text hgood.out) hgood.out (hOk.out _ hW cs[q] (List.getElem_mem hqc)) hsd
            have hcell2 := fun w6 R6 (k : Bt wr w6 b R' R6 L) => (owi_at (owi_only row5.out (hbt.trans k).only hrowA.out)).2 q hql
            generalize cs[q] = x at *
            generalize ns[q] = n at *
            obtain ⟨c0, c1, c2, c3, c4, c5, c6, c7, c8, c9⟩ := hat
            unfold BPost at HA
            simp only [clV] at HA HM
            replace HA := hid HA
            replace HM := hid HM
            replace hat2 := hid hat2
            replace hcell2 := hid hcell2
            replace hbt := hid hbt
            clear hrw hsd hcok
            go_wp2_with fail
            refine HA.out.mono ?_
            rintro e w6 ⟨rfl, R6, hb6⟩
            have hbt6 := hbt.out.trans hb6
            have ow6 : Only [] w w6 := o5.next hbt6.only (fun y hy => (hsafe.out y hy).1)
            obtain ⟨g', hg', hc6⟩ := hcell2.out w6 R6 hb6
            simp at hg'
            subst hg'
            obtain ⟨off', hco, hat6⟩ := hat2.out w6 ow6
            simp at hco
            subst hco
            replace HM := hid (HM.out w6 ow6 (P5.out.only hbt6.only hpA.out))
            clear c0 c1 c2 c3 c4 c5 c6 c7 c8 c9 HA hb6 hcell
            obtain ⟨c0, c1, c2, c3, c4, c5, c6, c7, c8, c9⟩ := hat6
            replace hbt6 := hid hbt6
            go_wp2_with (go_at_call 10; refine HM.out.mono ?_; rintro e w7 ⟨rfl, ho7⟩)
            exact ⟨⟨q + 1, by omega, by go_num, R6, hbt6.out.next ho7⟩, by simp [intOf]; omega⟩
        · have gq : ¬ ((q : Int) < (ns.length : Int)) := by omega
          have HP2 := hid (pool_any hbt.bd (by omega))
          have Pwr := hid (P5.out.only hbt.only hpA.out)
          replace owr := hid owr
          clear hrw hbt
          go_wp2_with fail
          refine HP2.out.mono ?_
          rintro e w8 ⟨po2, pc2, rfl, hp8, ho8⟩
          have HS := same_any (cap := pc2) (bap := pc) (ES.of_owns hp8).1 (Pwr.out.only ho8 (by simp)) (by omega)
          rw [decide_eq_true rfl] at HS
          replace HS := hid HS
          clear HP2 hp8
          go_wp2_with fail
          refine HS.out.mono ?_
          rintro e w9 ⟨rfl, ho9⟩
          have P9 := hid (Pwr.out.only (ho8.next ho9 (by simp)) (by simp))
          have o9 := hid (owr.out.next (ho8.next ho9 (by simp)) (by simp))
          have honce := hid hgood.out.once
          clear HS Pwr gq
          go_wp2
          go_loopw [14] (fun i wx => ∃ p : Nat, p ≤ L.length ∧ i = .int .i64 (p : Int) ∧ Only [] w9 wx) (fun i _ => L.length - (intOf i).toNat)
          case atStart => exact ⟨0, by omega, rfl, Only.refl _ _⟩
          case round =>
            obtain ⟨p, hp, rfl, hop⟩ := hrel
            by_cases hpl : p < L.length
            · have gp : ((p : Int) < (L.length : Int)) := by omega
              obtain ⟨offp, hpo, _⟩ := (P9.out.only hop (by simp)).at hpl
              subst hpo
              go_wp2
              go_loopw [15] (fun i wx => ∃ k : Nat, k ≤ p ∧ i = .int .i64 (k : Int) ∧ Only [] w9 wx) (fun i _ => p - (intOf i).toNat)
              case atStart => exact ⟨0, by omega, rfl, hop⟩
              case round =>
                clear hop
                obtain ⟨k, hk, rfl, hop⟩ := hrel
                by_cases hkp : k < p
                · have gk : ((k : Int) < (p : Int)) := by omega
                  have gk2 : ((k : Int) < (L.length : Int)) := by omega
                  obtain ⟨o1', ho1', y0, y1, y2, y3, y4, y5⟩ := (P9.out.only hop (by simp)).at hpl
                  simp at ho1'
                  subst ho1'
                  obtain ⟨o2', ho2', z0, z1, z2, z3, z4, z5⟩ := (P9.out.only hop (by simp)).at (show k < L.length by omega)
                  simp at ho2'
                  subst ho2'
                  have hqe := eq_entry L[p] (L[k]'(by omega))
                  have hne : ¬ (L[p] = L[k]'(by omega)) := by
                    intro e
                    have := (List.getElem_inj honce.out).1 e
                    omega
                  rw [decide_eq_false hne] at hqe
                  clear hne
                  generalize L[p] = u at *
                  generalize L[k]'(by omega) = u2 at *
                  simp only [enV] at hqe
                  go_wp2_with fail
                  go_region
                  go_wp2
                  exact ⟨⟨k + 1, by omega, by go_num, hop.drew⟩, by simp [intOf]; omega⟩
                · have gk : ¬ ((k : Int) < (p : Int)) := by omega
                  go_wp2
                  exact ⟨⟨p + 1, by omega, by go_num, hop⟩, by simp [intOf]; omega⟩
            · have gp : ¬ ((p : Int) < (L.length : Int)) := by omega
              go_wp2
              go_ret
              exact ⟨rfl, o9.out.next hop (by simp)⟩

theorem back_walk {w : World} {co : Option Addr} {cs : List Cal} {dc cop : Nat} (hC : CS w co cs dc) (_ : co = none → cop = 0) (hcl : cs.length ≤ 9223372036854775807) (hok : ∀ c ∈ cs, CalOK w c) :
    Calls Try.prog 3 #[.slice co cs.length cop] w fun e w' => e = .returned (.bool true) ∧ Below w.heap.size w w' :=
  (back_any hC hcl hok).mono fun _ _ h => ⟨h.1, h.2.below (Nat.le_refl _) (by simp)⟩

end Go.Proofs.Ytcdjddakdlflmab
