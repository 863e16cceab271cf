/-
  The walk of InstrOwn: it answers true of whatever bytes, and writes nothing that was there. The table of words holds the words.
-/
import Derived.Test.YtemjhlhioeopnabDoorIReadsB
import Derived.Test.YtemjhlhioeopnabDoorIEncP
namespace Go.Proofs.YtemjhlhioeopnabDoor
open Go.RowKit

/-- A row of the call's own that is written and grown; of what was there at w0 only the blocks in S may have turned. -/
structure Mut (w0 w : World) (S : List Nat) (B : Nat) (e : TypeId) (k : Nat) (ao : Option Addr) (n cap : Nat) : Prop where
  own : ∃ xs, w.ownsRow B e k (.slice ao n cap) n xs
  only : Only S w0 w
  place : ∀ a, ao = some a → a.block ∈ S ∨ w0.heap.size ≤ a.block

theorem Mut.at_ {w0 w : World} {S : List Nat} {B : Nat} {e : TypeId} {k : Nat} {ao : Option Addr} {n cap : Nat} (h : Mut w0 w S B e k ao n cap) {j : Nat} (hj : j < n * k) :
    ∃ g u, ao = some ⟨g, 0, none⟩ ∧ w.cell? ⟨g, j, none⟩ = some u ∧ w.frozen? ⟨g, j, none⟩ = false := by
  obtain ⟨xs, hx⟩ := h.own
  cases ao with
  | none =>
    rcases hx.2 with ⟨_, h0⟩ | ⟨g, c, cur, hv, _⟩
    · rw [h0] at hj
      simp at hj
    · simp at hv
  | some a =>
    have ha := ((RS.of_owns hx).2.2.2.2 a rfl).2.2
    rw [ha] at hx
    refine ⟨a.block, xs[j]'(by rw [hx.1]; exact hj), by rw [ha], ?_, hx.frozenAt j⟩
    rw [hx.cellAt j hj]
    simp

theorem Mut.set {w0 w : World} {S : List Nat} {B : Nat} {e : TypeId} {k g : Nat} {n cap : Nat} (h : Mut w0 w S B e k (some ⟨g, 0, none⟩) n cap) (j : Nat) (u : Value) : Mut w0 (w.setCell ⟨g, j, none⟩ u) S B e k (some ⟨g, 0, none⟩) n cap := by
  obtain ⟨xs, hx⟩ := h.own
  exact ⟨⟨_, (hx.stored j u).1⟩, h.only.setCell (p := ⟨g, j, none⟩) (h.place ⟨g, 0, none⟩ rfl) u, h.place⟩

theorem Mut.grow {w0 w w' : World} {S : List Nat} {B : Nat} {e : TypeId} {k : Nat} {ao ao' : Option Addr} {n n' cap cap' : Nat} {ys : List Value} (h : Mut w0 w S B e k ao n cap) (o : Obj) (hA : Appd (w.alloc o) w' B e k ao ao' n n' cap' ys) : Mut w0 w' S B e k ao' n' cap' := by
  have hs := h.only.size
  refine ⟨⟨_, hA.own⟩, (h.only.alloc o).trans hA.only ?_, ?_⟩
  · intro x hx
    cases ao with
    | none => simp [Value.ownBlock] at hx
    | some q =>
      simp [Value.ownBlock] at hx
      subst hx
      exact h.place q rfl
  · intro a ha
    rcases hA.place a ha with ⟨a', ha', he⟩ | hg
    · rw [← he]
      exact h.place a' ha'
    · right
      simp at hg
      omega

theorem mut_begin {w : World} {B : Nat} {e : TypeId} {k : Nat} {ao : Option Addr} {n cap : Nat} {xs : List Value} (h : w.ownsRow B e k (.slice ao n cap) n xs) : Mut w w (Value.ownBlock (.slice ao n cap)).toList B e k ao n cap := by
  refine ⟨⟨xs, h⟩, Only.refl _ _, fun a ha => ?_⟩
  subst ha
  left
  simp [Value.ownBlock]

/-- A block that a row does not lie in. -/
theorem own_not {w : World} {B b : Nat} {e : TypeId} {k : Nat} {ao : Option Addr} {n cap : Nat} {xs : List Value} (h : w.ownsRow B e k (.slice ao n cap) n xs) (hb : b < B ∨ w.heap.size ≤ b) : b ∉ (Value.ownBlock (.slice ao n cap)).toList := by
  cases ao with
  | none => simp [Value.ownBlock]
  | some a =>
    have := (RS.of_owns h).2.2.2.2 a rfl
    simp [Value.ownBlock]
    omega

/-- Where a row lies. -/
theorem own_in {w : World} {B x : Nat} {e : TypeId} {k : Nat} {ao : Option Addr} {n cap : Nat} {xs : List Value} (h : w.ownsRow B e k (.slice ao n cap) n xs) (hx : x ∈ (Value.ownBlock (.slice ao n cap)).toList) : B ≤ x ∧ x < w.heap.size := by
  cases ao with
  | none => simp [Value.ownBlock] at hx
  | some a =>
    have := (RS.of_owns h).2.2.2.2 a rfl
    simp [Value.ownBlock] at hx
    omega

/-- A row stays while another one is written and grown. -/
theorem own_beside {w0 w : World} {S : List Nat} {B C : Nat} {e e' : TypeId} {k k' : Nat} {ao bo : Option Addr} {n m cap bap : Nat} {xs : List Value} (h : w0.ownsRow B e k (.slice bo m bap) m xs) (M : Mut w0 w S C e' k' ao n cap) (hn : ∀ x, B ≤ x → x < w0.heap.size → x ∉ S) : w.ownsRow B e k (.slice bo m bap) m xs := by
  refine rows_only h M.only fun g hg => ?_
  have := own_in h (x := g) (by rw [hg]; simp)
  exact hn g this.1 this.2

set_option maxHeartbeats 2000000 in
set_option maxRecDepth 100000 in
theorem own_any {w : World} (hL : Laid w) {ao : Option Addr} {code : List UInt8} {d cap : Nat} (hB : RS w ao (bcs code) d) (hn : ao = none → cap = 0) :
    Calls Tryd.prog 6 #[.slice ao code.length cap] w fun e w' => e = .returned (.bool true) ∧ Only [] w w' := by
  have HK := hid (known_any hL)
  clear hL
  by_cases h5 : 5000 < code.length
  · have g1 : (5000 < (code.length : Int)) := by omega
    clear hB
    go_enter Tryd.func6, Tryd.ntmps6
    go_wp2_with (go_at_call 7; refine HK.out.mono ?_; rintro e w1 ⟨rfl, ho1⟩)
    go_ret
    exact ⟨rfl, ho1⟩
  have g1 : ¬ (5000 < (code.length : Int)) := by omega
  have HA := fun W (a : Option Addr) (c k : Nat) (hR : RS W a (bcs code) k) (h1 : code.length ≤ c) (h2 : c ≤ 9223372036854775807) => all_any hR h1 h2 (by omega)
  have hln := all_len code
  generalize allR code = Y at *
  obtain ⟨al, ya, ye⟩ := Y
  simp only at hln
  have HE := fun W (a : Option Addr) (c k : Nat) (hR : RS W a (qcs al) k) => enc_any (cap := c) hR (by omega)
  have HS := fun W (a b : Option Addr) (c k p q : Nat) (h1 : RS W a (qcs al) p) (h2 : RS W b (qcs al) q) => same_any (cap := c) (bap := k) h1 h2 (by omega)
  have hcl : (encR al).1.length ≤ 15000 := by have := enc_len al; omega
  generalize encR al = X at *
  obtain ⟨xl, xe⟩ := X
  simp only [decide_true] at HS hcl
  have hst := str_toList xl
  replace HA := hid HA
  replace HE := hid HE
  replace HS := hid HS
  replace hB := hid hB
  go_enter Tryd.func6, Tryd.ntmps6
  go_wp2_with (first | (go_at_call 7; refine HK.out.mono ?_; rintro e w1 ⟨rfl, ho1⟩) | (at_builtin; refine wpList_append_any (ys := bcs code) rfl (.tmp 26) (.tmp 27) elByte Tryd.underlying23 rfl rfl rfl (rows_made w1 5 1 rfl) ((hB.out.only0 ho1).only0 ((Only.refl [] w1).alloc _)) (bcs_length _) (bcs_one _) hn (by omega) (by simp) ?_; rintro ao2 cap2 w2 hA2) | fail)
  have o2 := hid (ho1.next (hA2.next (rows_made w1 5 1 rfl) ((Only.refl [] w1).alloc _)) (by simp))
  have own2 := hA2.own
  simp only [Nat.zero_add, List.nil_append] at own2
  have hR2 := hid (RS.of_owns own2)
  have hc2 : code.length ≤ cap2 := hR2.out.2.1
  have hl2 : cap2 ≤ 9223372036854775807 := by have := hR2.out.2.2.1; simp only [maxLen] at this; omega
  clear hA2 own2 hB
  refine (HA.out _ _ _ _ hR2.out.1 hc2 hl2).mono ?_
  rintro e w3 ⟨aA, cA, rfl, hownA, ho3⟩
  have A3 := hid hownA
  clear hownA HK
  go_wp2_with fail
  refine (HA.out _ _ _ _ (hR2.out.1.only0 ho3) hc2 hl2).mono ?_
  rintro e w4 ⟨aB, cB, rfl, hownB, ho4⟩
  have B4 := hid hownB
  have hRB := hid (RS.of_owns hownB)
  clear hownB HA hR2
  go_wp2_with (at_builtin; refine wpList_append_any (ys := qcs al) rfl (.tmp 41) (.tmp 42) elIn Tryd.underlying22 rfl rfl rfl (rows_made w4 31 4 rfl) (hRB.out.1.only0 ((Only.refl [] w4).alloc _)) (qcs_length _) (qcs_one _) hRB.out.2.2.2.1 (by omega) (by simp) ?_; rintro aW cW w5 hA5)
  have q5 := hid (hA5.next (rows_made w4 31 4 rfl) ((Only.refl [] w4).alloc _))
  have W5 := hA5.own
  simp only [Nat.zero_add, List.nil_append] at W5
  replace W5 := hid W5
  have z2 := o2.out.size
  have z3 := ho3.size
  have z4 := ho4.size
  have z5 := q5.out.size
  have A5 := hid (rows_only A3.out (ho4.next q5.out (by simp)) (by simp))
  have B5 := hid (rows_only B4.out q5.out (by simp))
  have o5 := hid ((o2.out.next (ho3.next ho4 (by simp)) (by simp)).next q5.out (by simp))
  have hSi : Hid (∀ x ∈ (Value.ownBlock (.slice aA al.length cA)).toList, w2.heap.size ≤ x ∧ x < w3.heap.size) := fun x hx => own_in A3.out hx
  have M0 := hid (mut_begin A5.out)
  generalize (Value.ownBlock (.slice aA al.length cA)).toList = S at *
  clear hA5 A3 B4 hRB ho1 ho3 ho4 A5
  go_loopw [11] (fun i wr => ∃ (j : Nat), j ≤ al.length ∧ i = .int .i64 (j : Int) ∧ Hid (Mut w5 wr S w2.heap.size 31 4 aA al.length cA)) (fun i _ => al.length - (intOf i).toNat)
  case atStart => exact ⟨0, by omega, rfl, M0⟩
  case round =>
    obtain ⟨j, hj, rfl, hM⟩ := hrel
    clear M0
    by_cases hlt : j < al.length
    · have g2 : ((j : Int) < (al.length : Int)) := by omega
      obtain ⟨g, u0, rfl, y0, f0⟩ := hM.out.at_ (j := j * 4) (by omega)
      obtain ⟨g', u1, hg, y1, f1⟩ := hM.out.at_ (j := j * 4 + 1) (by omega)
      cases hg
      obtain ⟨g', u2, hg, y2, f2⟩ := hM.out.at_ (j := j * 4 + 2) (by omega)
      cases hg
      obtain ⟨g', u3, hg, y3, f3⟩ := hM.out.at_ (j := j * 4 + 3) (by omega)
      cases hg
      have M1 := hid ((((hM.out.set (j * 4) (.int .i64 0)).set (j * 4 + 1) (.int .i64 99)).set (j * 4 + 2) (.int .i64 0)).set (j * 4 + 3) (.int .i64 0))
      clear hSi B5 W5 HE HS
      go_wp2
      exact ⟨⟨j + 1, by omega, by go_num, M1⟩, by simp [intOf]; omega⟩
    · have g2 : ¬ ((j : Int) < (al.length : Int)) := by omega
      go_wp2
      go_loopw [4, 12] (fun v i wr => ∃ (k n c : Nat) (a : Option Addr), k ≤ 20 ∧ n ≤ al.length + k ∧ i = .int .i64 (k : Int) ∧ v = .slice a n c ∧ Hid (Mut w5 wr S w2.heap.size 31 4 a n c)) (fun _ i _ => 20 - (intOf i).toNat)
      case atStart => exact ⟨0, al.length, cA, aA, by omega, by omega, rfl, rfl, hM⟩
      case round =>
        obtain ⟨k, n, c, a, hk, hnk, rfl, rfl, hN⟩ := hrel
        clear hM
        by_cases hk20 : k < 20
        · have g3 : ((k : Int) < 20) := by omega
          obtain ⟨xs, hxs⟩ := hN.out.own
          have hX := hid hxs
          have zz := hN.out.only.size
          clear hSi B5 W5 HE HS hxs
          go_wp2_with (at_builtin; refine wpList_append_any (ys := qcs [(0, 98, 0, 0)]) rfl (.tmp 58) (.tmp 60) elIn Tryd.underlying22 rfl rfl rfl (hX.out.alloc _) (rows_in _ 0 98 0 0 (by simp)) rfl (qcs_one _) (by simp) (by omega) (by simp; omega) ?_; rintro a6 c6 w6 hA6)
          exact ⟨⟨k + 1, n + 1, c6, a6, by omega, by omega, by go_num, rfl, hid (hN.out.grow _ hA6)⟩, by simp [intOf]; omega⟩
        · have g3 : ¬ ((k : Int) < 20) := by omega
          have B6 := hid (own_beside B5.out hN.out (fun x h1 h2 hx => by have := hSi.out x hx; omega))
          have W6 := hid (own_beside W5.out hN.out (fun x h1 h2 hx => by have := hSi.out x hx; omega))
          have oz := hid (o5.out.next hN.out.only (fun x hx => by have := hSi.out x hx; omega))
          have zz := hN.out.only.size
          clear hSi B5 W5 hN o5 q5 o2
          go_wp2_with fail
          refine (HE.out _ _ _ _ (RS.of_owns B6.out).1).mono ?_
          rintro e w7 ⟨aC, cC, rfl, hownC, ho7⟩
          have C7 := hid hownC
          have B7 := hid (rows_only B6.out ho7 (by simp))
          have z7 := ho7.size
          clear hownC
          go_wp2_with fail
          refine (HE.out _ _ _ _ (RS.of_owns B7.out).1).mono ?_
          rintro e w8 ⟨aD, cD, rfl, hownD, ho8⟩
          have D8 := hid hownD
          have C8 := hid (rows_only C7.out ho8 (by simp))
          have B8 := hid (rows_only B7.out ho8 (by simp))
          have W8 := hid (rows_only W6.out (ho7.next ho8 (by simp)) (by simp))
          have z8 := ho8.size
          have o8 := hid ((oz.out.next ho7 (by simp)).next ho8 (by simp))
          have hS2 : Hid (∀ x ∈ (Value.ownBlock (.slice aC xl.length cC)).toList, wr.heap.size ≤ x ∧ x < w7.heap.size) := fun x hx => own_in C7.out hx
          have hBi : Hid (∀ x ∈ (Value.ownBlock (.slice aB al.length cB)).toList, w3.heap.size ≤ x ∧ x < wr.heap.size) := fun x hx => own_in B6.out hx
          have hWi : Hid (∀ x ∈ (Value.ownBlock (.slice aW al.length cW)).toList, w4.heap.size ≤ x ∧ x < wr.heap.size) := fun x hx => own_in W6.out hx
          have N0 := hid (mut_begin C8.out)
          generalize (Value.ownBlock (.slice aC xl.length cC)).toList = S2 at *
          clear hownD C7 C8 B6 B7 W6 oz ho7 ho8
          generalize wr.heap.size = bz at *
          have B9 : Hid (∀ W (a : Option Addr) (n c : Nat), Mut w8 W S2 bz 5 1 a n c → W.ownsRow w3.heap.size 31 4 (.slice aB al.length cB) al.length (qcs al)) := fun W a n c hM => rows_only B8.out hM.only fun g hg hx => by
            have h1 := hBi.out g (by rw [hg]; simp)
            have h2 := hS2.out g hx
            omega
          have W9 : Hid (∀ W (a : Option Addr) (n c : Nat), Mut w8 W S2 bz 5 1 a n c → W.ownsRow w4.heap.size 31 4 (.slice aW al.length cW) al.length (qcs al)) := fun W a n c hM => rows_only W8.out hM.only fun g hg hx => by
            have h1 := hWi.out g (by rw [hg]; simp)
            have h2 := hS2.out g hx
            omega
          have D9 : Hid (∀ W (a : Option Addr) (n c : Nat), Mut w8 W S2 bz 5 1 a n c → W.ownsRow w7.heap.size 5 1 (.slice aD xl.length cD) xl.length (bcs xl)) := fun W a n c hM => own_beside D8.out hM fun x h1 h2 hx => by
            have h3 := hS2.out x hx
            omega
          have O9 : Hid (∀ W (a : Option Addr) (n c : Nat), Mut w8 W S2 bz 5 1 a n c → Only [] w W) := fun W a n c hM => o8.out.next hM.only fun x hx => by
            have h3 := hS2.out x hx
            omega
          have zw : bz ≤ w8.heap.size := by omega
          clear hBi hWi hS2 B8 W8 D8 o8
          go_wp2
          go_loopw [17] (fun i W => ∃ (j : Nat), j ≤ xl.length ∧ i = .int .i64 (j : Int) ∧ Hid (Mut w8 W S2 bz 5 1 aC xl.length cC)) (fun i _ => xl.length - (intOf i).toNat)
          case atStart => exact ⟨0, by omega, rfl, N0⟩
          case round =>
            obtain ⟨j', hj', rfl, hM⟩ := hrel
            clear N0
            by_cases hlt' : j' < xl.length
            · have g4 : ((j' : Int) < (xl.length : Int)) := by omega
              obtain ⟨g, u0, rfl, y0, f0⟩ := hM.out.at_ (j := j') (by omega)
              have M1 := hid (hM.out.set j' (.int .u8 77))
              clear B9 W9 D9 O9 HE HS
              go_wp2
              exact ⟨⟨j' + 1, by omega, by go_num, M1⟩, by simp [intOf]; omega⟩
            · have g4 : ¬ ((j' : Int) < (xl.length : Int)) := by omega
              go_wp2
              go_loopw [13, 18] (fun v i W => ∃ (k n c : Nat) (a : Option Addr), k ≤ 20 ∧ n ≤ xl.length + k ∧ i = .int .i64 (k : Int) ∧ v = .slice a n c ∧ Hid (Mut w8 W S2 bz 5 1 a n c)) (fun _ i _ => 20 - (intOf i).toNat)
              case atStart => exact ⟨0, xl.length, cC, aC, by omega, by omega, rfl, rfl, hM⟩
              case round =>
                obtain ⟨k', n', c', a', hk', hnk', rfl, rfl, hN⟩ := hrel
                clear hM
                by_cases hk21 : k' < 20
                · have g5 : ((k' : Int) < 20) := by omega
                  obtain ⟨xs, hxs⟩ := hN.out.own
                  have hX := hid hxs
                  have zz' := hN.out.only.size
                  clear B9 W9 D9 O9 HE HS hxs
                  go_wp2_with (at_builtin; refine wpList_append_any (ys := bcs [78]) rfl (.tmp 85) (.tmp 86) elByte Tryd.underlying23 rfl rfl rfl (hX.out.alloc _) (rows_byte _ _ 78 rfl (by simp)) rfl (bcs_one _) (by simp) (by omega) (by simp; omega) ?_; rintro a6 c6 w9 hA6)
                  exact ⟨⟨k' + 1, n' + 1, c6, a6, by omega, by omega, by go_num, rfl, hid (hN.out.grow _ hA6)⟩, by simp [intOf]; omega⟩
                · have g5 : ¬ ((k' : Int) < 20) := by omega
                  have BB := hid (B9.out _ _ _ _ hN.out)
                  have WW := hid (W9.out _ _ _ _ hN.out)
                  have DD := hid (D9.out _ _ _ _ hN.out)
                  have OO := hid (O9.out _ _ _ _ hN.out)
                  clear B9 W9 D9 O9 hN
                  go_wp2_with fail
                  refine (HE.out _ _ _ _ (RS.of_owns WW.out).1).mono ?_
                  rintro e wx ⟨aX, cX, rfl, hownX, hox⟩
                  obtain ⟨dX, hdX⟩ : ∃ d, RS wx aX (bcs xl) d := ⟨_, (RS.of_owns hownX).1⟩
                  obtain ⟨dD, hdD⟩ : ∃ d, RS wx aD (bcs xl) d := ⟨_, (RS.of_owns (rows_only DD.out hox (by simp))).1⟩
                  have HS6 := hid (HS.out wx aB aW cB cW _ _ (RS.of_owns (rows_only BB.out hox (by simp))).1 (RS.of_owns (rows_only WW.out hox (by simp))).1)
                  have RX := hid hdX
                  have RD := hid hdD
                  clear HE HS hownX hdX hdD BB WW DD
                  go_wp2_with (go_at_call 16; refine HS6.out.mono ?_; rintro e wy ⟨rfl, hoy⟩; have hcv1 := (RD.out.only0 hoy).conv cD; have hcv2 := (RX.out.only0 hoy).conv cX)
                  go_ret
                  exact ⟨by simp, (OO.out.next hox (by simp)).next hoy (by simp)⟩

theorem own_walk {w : World} (hL : Laid w) {ao : Option Addr} {code : List UInt8} {d cap : Nat} (hB : RS w ao (bcs code) d) (_ : code.length ≤ cap) (_ : cap ≤ 9223372036854775807) (hn : ao = none → cap = 0) :
    Calls Tryd.prog 6 #[.slice ao code.length cap] w fun e w' => e = .returned (.bool true) ∧ Below w.heap.size w w' :=
  (own_any hL hB hn).mono fun _ _ h => ⟨h.1, h.2.below (Nat.le_refl _) (by simp)⟩

end Go.Proofs.YtemjhlhioeopnabDoor
