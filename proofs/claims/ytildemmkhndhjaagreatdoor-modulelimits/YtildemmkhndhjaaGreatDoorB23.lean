/-
  ModuleLimits answers true for every kind and every number: so many classes, faces, fields, methods or handlers are taken up to the most there may be, and refused from one more on. errors.errorType holds what the program's text lays there (the tie is given).
-/
import Derived.Test.YtildemmkhndhjaaGreatDoorB18
import Derived.Test.YtildemmkhndhjaaGreatDoorB21
import Derived.Test.YtildemmkhndhjaaGreatDoorB22
import Derived.Test.YtildemmkhndhjaaGreatDoorCards
import Derived.Test.YtildemmkhndhjaaGreatDoorTie
import Derived.Test.YtildemmkhndhjaaGreatDoorB01
namespace Go.Proofs.YtildemmkhndhjaaGreatDoor
open Go.RowKit

set_option maxHeartbeats 4000000 in
set_option maxRecDepth 100000 in
theorem limits_1 {w : World} (hg : Ety w) (kind n : Int) (hK : kind % 5 = 1) : Calls Tryz.prog 3 #[.int .i64 kind, .int .i64 n] w fun e w' => e = .returned (.bool true) ∧ Only [] w w' := by
  have HK := hid (known5 hg)
  go_enter Tryz.func3, Tryz.ntmps3
  go_wp2_with fail
  refine HK.out.mono ?_
  rintro e w1 ⟨rfl, o1⟩
  clear HK
  obtain ⟨N, hN, hNl⟩ : ∃ N : Nat, n % 70 = (N : Int) ∧ N < 70 := ⟨(n % 70).toNat, by omega, by omega⟩
  have H1 := within_any kind 5 (by omega) w1
  have H2 := within_any n 70 (by omega) w1
  rw [hK] at H1
  rw [hN] at H2
  clear hK hN
  replace H1 := hid H1
  replace H2 := hid H2
  go_wp2_with fail
  refine H1.out.mono ?_
  rintro e w2 ⟨rfl, rfl⟩
  go_wp2_with fail
  refine H2.out.mono ?_
  rintro e w2 ⟨rfl, rfl⟩
  clear H1 H2
  go_wp2_with fail
  obtain ⟨hI, hWs⟩ := limI_new o1
  have eW : (((w2.alloc (.cells #[.int .i64 0, .string ⟨#[65]⟩, .string ⟨#[79, 98, 106, 101, 99, 116]⟩, .slice none 0 0, .slice none 0 0, .slice none 0 0] 28)).alloc (.cells #[.slice none 0 0, .slice none 0 0] 32)).alloc (.cells #[.int .u8 42] 5)).alloc (.cells #[.int .i64 4, .string ⟨#[102]⟩, .slice none 0 0, .bool true, .int .i64 0, .string ⟨#[]⟩, .int .i64 1, .int .i64 0, .slice (some ⟨w2.heap.size + 1 + 1, 0, none⟩) 1 1, .slice none 0 0] 41) = limW w2 := rfl
  rw [eW]
  generalize limW w2 = W at *
  clear eW
  obtain ⟨cb, hcb⟩ : ∃ cb, cb = w2.heap.size := ⟨_, rfl⟩
  rw [← hcb] at hI hWs ⊢
  obtain ⟨mb, hmb⟩ : ∃ mb, mb = cb + 1 := ⟨_, rfl⟩
  rw [← hmb] at hI hWs ⊢
  obtain ⟨db, hdb⟩ : ∃ db, db = mb + 1 := ⟨_, rfl⟩
  rw [← hdb] at hI hWs ⊢
  obtain ⟨fb, hfb⟩ : ∃ fb, fb = db + 1 := ⟨_, rfl⟩
  rw [← hfb] at hI hWs ⊢
  clear hcb hmb hdb hfb o1
  replace hI := hid hI
  have hBf : fb < W.heap.size := by omega
  obtain ⟨B, hB⟩ : ∃ B, B = W.heap.size := ⟨_, rfl⟩
  rw [← hB] at hBf
  have hBW : Hid (B ≤ W.heap.size) := by unfold Hid; omega
  clear hWs hB
  go_loopw [7, 9] (fun most i wr => ∃ j : Nat, j ≤ N ∧ i = .int .i64 (j : Int) ∧ most = .int .i64 (mostJ 64 16 j : Int) ∧ ∃ ao cap, Hid (LimI w wr cb mb db fb (.slice ao j cap) (.slice none 0 0) (.slice none 0 0) (.slice none 0 0) ⟨#[102]⟩ (.slice none 0 0)) ∧ Hid (wr.ownsRow B 9 1 (.slice ao j cap) j (scs ((List.range j).map nmL))) ∧ Hid (B ≤ wr.heap.size)) (fun _ i _ => N - (intOf i).toNat)
  case atStart => exact ⟨0, by omega, rfl, rfl, none, 0, hI, hid (World.ownsRow_nil _ _ _ _), hBW⟩
  case round =>
    obtain ⟨j, hj, rfl, rfl, ao, cap, hJ, hown, hBr⟩ := hrel
    clear hI hBW
    by_cases hlt : j < N
    · have g2 : ((j : Int) < (N : Int)) := by omega
      obtain ⟨c0, c1, c2, c3, c4, c5, z0, z1, z2, z3, z4, z5⟩ := hJ.out.c
      go_wp2_with fail
      go_region_law (first
        | (go_simp; go_at_call 8; refine (lname_any j (by omega) _).mono ?_; rintro e w3 ⟨rfl, ho3⟩; have o3 : Only [] wr w3 := (Only.refl [] wr).drew.trans ho3 (by simp); have hown3 := rows_only hown.out o3 (by simp); have hB3 := Nat.le_trans hBr.out o3.size; obtain ⟨d0, d1, d2, d3, d4, d5, y0, y1, y2, y3, y4, y5⟩ := hJ.out.c.only o3 (by simp); have d' := fun o => cell_alloc o d3; dsimp only)
        | (refine step_append_any (ys := scs [nmL j]) rfl (.tmp 45) (.tmp 48) elStr Tryz.underlying24 rfl rfl rfl (rows_only hown3 ((Only.refl [] w3).alloc (.cells #[.string (str (nmL j))] 9)) (by simp)) (RS.fresh w3 #[.string (str (nmL j))] 9) rfl (by simp [scs, scC, Value.oneCell']) (by simp) (by omega) (by simp; omega) ?_; intro ao4 cap4 w4 hA4; have hJ4 := hid (hJ.out.grow o3 hown3 hA4 hBf); obtain ⟨k0, k1, k2, k3, k4, k5, x0, x1, x2, x3, x4, x5⟩ := hJ4.out.c))
      all_goals
        have hown4 : Hid ((w4.setCell ⟨cb, 3, none⟩ (.slice ao4 (j + 1) cap4)).ownsRow B 9 1 (.slice ao4 (j + 1) cap4) (j + 1) (scs ((List.range (j + 1)).map nmL))) := by
          unfold Hid
          rw [range_map_succ, show scs ((List.range j).map nmL ++ [nmL j]) = scs ((List.range j).map nmL) ++ scs [nmL j] by simp [scs]]
          exact rows_set hA4.own (by have := hJ.out.h; omega)
        have hJ5 := hid (hJ4.out.putF (.slice ao4 (j + 1) cap4))
        have hB5 : Hid (B ≤ (w4.setCell ⟨cb, 3, none⟩ (.slice ao4 (j + 1) cap4)).heap.size) := by
          have g1 := hA4.only.size
          unfold Hid
          simp at g1 ⊢
          omega
        clear hA4 hJ4
        go_wp2
        exact ⟨⟨j + 1, by omega, by go_num, by simp [mostJ], ao4, cap4, hJ5, hown4, hB5⟩, by simp [intOf]; omega⟩
    · have g2 : ¬ ((j : Int) < (N : Int)) := by omega
      obtain rfl : j = N := by omega
      obtain ⟨c0, c1, c2, c3, c4, c5, z0, z1, z2, z3, z4, z5⟩ := hJ.out.c
      obtain ⟨m0, m1, y0, y1⟩ := hJ.out.m
      have hR := RS.fresh wr #[.int .i64 0, .string ⟨#[65]⟩, .string ⟨#[79, 98, 106, 101, 99, 116]⟩, (.slice ao j cap), (.slice none 0 0), (.slice none 0 0)] 28
      have hq := (Only.refl [] wr).alloc (.cells #[.int .i64 0, .string ⟨#[65]⟩, .string ⟨#[79, 98, 106, 101, 99, 116]⟩, (.slice ao j cap), (.slice none 0 0), (.slice none 0 0)] 28)
      have hone : ∀ u ∈ clC (.slice ao j cap) (.slice none 0 0) (.slice none 0 0) (clA ((List.range j).map nmL) [] []), u.oneCell' = true := by
        intro u hu
        simp only [clC, List.mem_cons, List.not_mem_nil, or_false] at hu
        rcases hu with rfl | rfl | rfl | rfl | rfl | rfl <;> rfl
      go_wp2_with (at_builtin; refine wpList_append_any (ys := clC (.slice ao j cap) (.slice none 0 0) (.slice none 0 0) (clA ((List.range j).map nmL) [] [])) rfl (.tmp 91) (.tmp 93) elCl Tryz.underlying30 rfl rfl rfl (World.ownsRow_nil _ B _ _) hR rfl hone (by simp) (by omega) (by have := hBr.out; simp; omega) ?_; rintro ao5 cap5 w5 hA5; have hJ5 := hid (hJ.out.grow (Only.refl [] wr) (World.ownsRow_nil _ B _ _) hA5 hBf); obtain ⟨n0, n1, p0, p1⟩ := hJ5.out.m)
      have oA : Only [] wr w5 := by
        have := hq.trans hA5.only (by simp [Value.ownBlock])
        exact this
      have hL := hid (hJ5.out.putC (.slice ao5 1 cap5))
      have oS : Only [mb] w5 (w5.setCell ⟨mb, 1, none⟩ (.slice ao5 1 cap5)) := (Only.refl [mb] w5).setCell (.inl (by simp)) _
      have hmB : mb < B := by have := hJ.out.h; omega
      have hMo := hid (mo_one (c := (clA ((List.range j).map nmL) [] [])) (rows_set (b := mb) (i := 1) (u := .slice ao5 1 cap5) hA5.own hmB) ⟨own_slr (by simpa [clA] using rows_set (b := mb) (i := 1) (u := .slice ao5 1 cap5) (rows_only hown.out oA (by simp)) hmB), SlV.nil _ _, [], SlV.nil _ _, Els.nil _ _⟩)
      clear hA5 hR hq hone c0 c1 c2 c3 c4 c5 z0 z1 z2 z3 z4 z5 m0 m1 y0 y1 n0 n1 p0 p1
      replace hMo : Hid (MoAt (SlR _ fun _ => True) (.slice none 0 0) (.slice ao5 1 cap5) (modK 1 j)) := hMo
      have hgw := hid (hg.only0 hL.out.o)
      have HC := hid (mcheck_any hgw.out (P := fun _ => True) (modK 1 j) (fit_k 1 j) hMo.out)
      obtain ⟨m0, m1, _, _⟩ := hL.out.m
      go_wp2_with fail
      refine HC.out.mono ?_
      rintro e w7 ⟨v1, rfl, hev1, ho7⟩
      clear HC m0 m1
      have hL7 := hid (hL.out.only ho7 (by simp))
      have hMo7 := hid (hMo.out.only0 ho7)
      have hg7 := hid (hgw.out.only0 ho7)
      have HW := hid (mwrite_any hg7.out (P := fun _ => True) (modK 1 j) (fit_k 1 j) (by rw [pool_nil]; simp) hMo7.out)
      clear hL hMo hgw
      obtain ⟨m0, m1, _, _⟩ := hL7.out.m
      by_cases hm : mostK 1 j < j
      · obtain ⟨e1, e2⟩ := lim_many 1 j (by omega) hNl hm
        rw [e1] at hev1
        rw [e2] at HW
        obtain ⟨p1, rfl, hb1⟩ : ∃ p, v1 = badV p ∧ BadAt w7 p (0, 0, 0, 4) := by
          rcases hev1.cases_nil with ⟨h, _⟩ | ⟨_, p, h1, _, h2⟩
          · exact absurd h (by decide)
          · exact ⟨p, h1, h2⟩
        clear hev1 e1 e2
        have gm : ((mostJ 64 16 j : Nat) : Int) < (j : Int) := by
          have : mostJ 64 16 j = mostK 1 j := by unfold mostJ mostK; split <;> simp
          rw [this]
          omega
        go_wp2_with fail
        refine HW.out.mono ?_
        rintro e w8 ⟨bo, bcap, v2, rfl, hown8, hev2, ho8⟩
        obtain ⟨p2, rfl, hb2⟩ : ∃ p, v2 = badV p ∧ BadAt w8 p (0, 0, 0, 4) := by
          rcases hev2.cases_nil with ⟨h, _⟩ | ⟨_, p, h1, _, h2⟩
          · exact absurd h (by decide)
          · exact ⟨p, h1, h2⟩
        clear hev2 HW hown8 m0 m1
        have hg8 := hid (hg7.out.only0 ho8)
        have HX := hid (wrongly4 hg8.out (hb1.only ho8 (by simp)))
        replace hb2 := hid hb2
        have o8 := hid (hL7.out.o.trans ho8 (by simp))
        clear hb1 ho8
        go_wp2_with fail
        refine HX.out.mono ?_
        rintro e w9 ⟨rfl, ho9⟩
        have HY := hid (wrongly4 (hg8.out.only0 ho9) (hb2.out.only ho9 (by simp)))
        clear HX
        go_wp2_with fail
        refine HY.out.mono ?_
        rintro e w10 ⟨rfl, ho10⟩
        go_wp2_with fail
        go_ret
        exact ⟨rfl, (o8.out.trans ho9 (by simp)).trans ho10 (by simp)⟩
      · obtain ⟨e1, e2, e3⟩ := lim_right 1 j (by omega) hNl hm
        have hlen := len_all 1 j (by omega) hNl
        rw [e1] at hev1
        rw [e2] at HW
        simp only at HW
        obtain rfl : v1 = .nilIface := by
          rcases hev1.cases_nil with ⟨_, h⟩ | ⟨h, _⟩
          · exact h
          · exact absurd rfl h
        clear hev1 e1 e2
        have gm : ¬ ((mostJ 64 16 j : Nat) : Int) < (j : Int) := by
          have : mostJ 64 16 j = mostK 1 j := by unfold mostJ mostK; split <;> simp
          rw [this]
          omega
        go_wp2_with fail
        refine HW.out.mono ?_
        rintro e w8 ⟨bo, bcap, v2, rfl, hown8, hev2, ho8⟩
        obtain rfl : v2 = .nilIface := by
          rcases hev2.cases_nil with ⟨_, h⟩ | ⟨h, _⟩
          · exact h
          · exact absurd rfl h
        clear hev2 HW m0 m1
        have hg8 := hid (hg7.out.only0 ho8)
        have hL8 := hid (hL7.out.only ho8 (by simp))
        have hMo8 := hid (hMo7.out.only0 ho8)
        clear hL7 hMo7 hg7
        obtain ⟨q1, _, _, q4, _⟩ := RS.of_owns hown8
        have HR := mread_any hg8.out (cap := bcap) (bs_of_rs q1) q4 (by omega)
        rw [e3] at HR
        replace HR := hid HR
        clear e3 q1 q4 hown8
        go_wp2_with fail
        refine HR.out.mono ?_
        rintro e w9 ⟨vp, vc, v3, rfl, hev3, _, _, hA, ho9⟩
        obtain rfl : v3 = .nilIface := by
          rcases hev3.cases_nil with ⟨_, h⟩ | ⟨h, _⟩
          · exact h
          · exact absurd rfl h
        clear hev3 HR
        obtain ⟨po, pc, rfl⟩ := rows_slice hA.pool.1
        obtain ⟨ccs0, ⟨hc1, _⟩, _⟩ := hA.classes
        obtain ⟨co, cc, rfl⟩ := rows_slice hc1
        clear hc1
        have qx := (Only.refl [] w9).alloc (.cells #[.slice po (modK 1 j).pool.length pc, .slice co (modK 1 j).classes.length cc] 32)
        have X9 := mo2_new w9 (.slice po (modK 1 j).pool.length pc) (.slice co (modK 1 j).classes.length cc) 32
        have hL9 := hid (hL8.out.only (ho9.trans qx (by simp)) (by simp))
        have HS := rsame_module _ _ ((hA.imp fun _ _ _ _ _ g => owr_slice g).only0 qx) (hMo8.out.only0 (ho9.trans qx (by simp)))
        rw [decide_eq_true rfl] at HS
        replace HS := hid HS
        obtain ⟨x0, x1, _, _⟩ := X9
        obtain ⟨m0, m1, _, _⟩ := hL9.out.m
        clear hA hL8 hMo8
        go_wp2_with fail
        refine HS.out.mono ?_
        rintro e w10 ⟨rfl, ho10⟩
        go_wp2_with fail
        go_ret
        exact ⟨rfl, hL9.out.o.trans ho10 (by simp)⟩

end Go.Proofs.YtildemmkhndhjaaGreatDoor
namespace Go.Proofs.YtildemmkhndhjaaGreatDoor
open Go.RowKit

set_option maxHeartbeats 4000000 in
set_option maxRecDepth 100000 in
theorem limits_2 {w : World} (hg : Ety w) (kind n : Int) (hK : kind % 5 = 2) : Calls Tryz.prog 3 #[.int .i64 kind, .int .i64 n] w fun e w' => e = .returned (.bool true) ∧ Only [] w w' := by
  have HK := hid (known5 hg)
  go_enter Tryz.func3, Tryz.ntmps3
  go_wp2_with fail
  refine HK.out.mono ?_
  rintro e w1 ⟨rfl, o1⟩
  clear HK
  obtain ⟨N, hN, hNl⟩ : ∃ N : Nat, n % 70 = (N : Int) ∧ N < 70 := ⟨(n % 70).toNat, by omega, by omega⟩
  have H1 := within_any kind 5 (by omega) w1
  have H2 := within_any n 70 (by omega) w1
  rw [hK] at H1
  rw [hN] at H2
  clear hK hN
  replace H1 := hid H1
  replace H2 := hid H2
  go_wp2_with fail
  refine H1.out.mono ?_
  rintro e w2 ⟨rfl, rfl⟩
  go_wp2_with fail
  refine H2.out.mono ?_
  rintro e w2 ⟨rfl, rfl⟩
  clear H1 H2
  go_wp2_with fail
  obtain ⟨hI, hWs⟩ := limI_new o1
  have eW : (((w2.alloc (.cells #[.int .i64 0, .string ⟨#[65]⟩, .string ⟨#[79, 98, 106, 101, 99, 116]⟩, .slice none 0 0, .slice none 0 0, .slice none 0 0] 28)).alloc (.cells #[.slice none 0 0, .slice none 0 0] 32)).alloc (.cells #[.int .u8 42] 5)).alloc (.cells #[.int .i64 4, .string ⟨#[102]⟩, .slice none 0 0, .bool true, .int .i64 0, .string ⟨#[]⟩, .int .i64 1, .int .i64 0, .slice (some ⟨w2.heap.size + 1 + 1, 0, none⟩) 1 1, .slice none 0 0] 41) = limW w2 := rfl
  rw [eW]
  generalize limW w2 = W at *
  clear eW
  obtain ⟨cb, hcb⟩ : ∃ cb, cb = w2.heap.size := ⟨_, rfl⟩
  rw [← hcb] at hI hWs ⊢
  obtain ⟨mb, hmb⟩ : ∃ mb, mb = cb + 1 := ⟨_, rfl⟩
  rw [← hmb] at hI hWs ⊢
  obtain ⟨db, hdb⟩ : ∃ db, db = mb + 1 := ⟨_, rfl⟩
  rw [← hdb] at hI hWs ⊢
  obtain ⟨fb, hfb⟩ : ∃ fb, fb = db + 1 := ⟨_, rfl⟩
  rw [← hfb] at hI hWs ⊢
  clear hcb hmb hdb hfb o1
  replace hI := hid hI
  have hBf : fb < W.heap.size := by omega
  obtain ⟨B, hB⟩ : ∃ B, B = W.heap.size := ⟨_, rfl⟩
  rw [← hB] at hBf
  have hBW : Hid (B ≤ W.heap.size) := by unfold Hid; omega
  clear hWs hB
  go_loopw [7, 9] (fun most i wr => ∃ j : Nat, j ≤ N ∧ i = .int .i64 (j : Int) ∧ most = .int .i64 (mostJ 64 64 j : Int) ∧ ∃ ao cap, Hid (LimI w wr cb mb db fb (.slice none 0 0) (.slice ao j cap) (.slice none 0 0) (.slice none 0 0) ⟨#[102]⟩ (.slice none 0 0)) ∧ Hid (wr.ownsRow B 44 4 (.slice ao j cap) j (fcs ((List.range j).map fdN))) ∧ Hid (B ≤ wr.heap.size)) (fun _ i _ => N - (intOf i).toNat)
  case atStart => exact ⟨0, by omega, rfl, rfl, none, 0, hI, hid (World.ownsRow_nil _ _ _ _), hBW⟩
  case round =>
    obtain ⟨j, hj, rfl, rfl, ao, cap, hJ, hown, hBr⟩ := hrel
    clear hI hBW
    by_cases hlt : j < N
    · have g2 : ((j : Int) < (N : Int)) := by omega
      obtain ⟨c0, c1, c2, c3, c4, c5, z0, z1, z2, z3, z4, z5⟩ := hJ.out.c
      go_wp2_with fail
      go_region_law (first
        | (go_simp; go_at_call 8; refine (lname_any j (by omega) _).mono ?_; rintro e w3 ⟨rfl, ho3⟩; have o3 : Only [] wr w3 := (Only.refl [] wr).drew.trans ho3 (by simp); have hown3 := rows_only hown.out o3 (by simp); have hB3 := Nat.le_trans hBr.out o3.size; obtain ⟨d0, d1, d2, d3, d4, d5, y0, y1, y2, y3, y4, y5⟩ := hJ.out.c.only o3 (by simp); have d' := fun o => cell_alloc o d4; dsimp only)
        | (refine step_append_any (ys := fcs [fdN j]) rfl (.tmp 54) (.tmp 58) elFd Tryz.underlying25 rfl rfl rfl (rows_only hown3 ((Only.refl [] w3).alloc (.cells #[.int .i64 0, .string (str (nmL j)), .int .i64 0, .string ⟨#[]⟩] 44)) (by simp)) (RS.fresh w3 #[.int .i64 0, .string (str (nmL j)), .int .i64 0, .string ⟨#[]⟩] 44) rfl (by simp [fcs, fdC, fdN, Value.oneCell']) (by simp) (by omega) (by simp; omega) ?_; intro ao4 cap4 w4 hA4; have hJ4 := hid (hJ.out.grow o3 hown3 hA4 hBf); obtain ⟨k0, k1, k2, k3, k4, k5, x0, x1, x2, x3, x4, x5⟩ := hJ4.out.c))
      all_goals
        have hown4 : Hid ((w4.setCell ⟨cb, 4, none⟩ (.slice ao4 (j + 1) cap4)).ownsRow B 44 4 (.slice ao4 (j + 1) cap4) (j + 1) (fcs ((List.range (j + 1)).map fdN))) := by
          unfold Hid
          rw [range_map_succ, show fcs ((List.range j).map fdN ++ [fdN j]) = fcs ((List.range j).map fdN) ++ fcs [fdN j] by simp [fcs]]
          exact rows_set hA4.own (by have := hJ.out.h; omega)
        have hJ5 := hid (hJ4.out.putD (.slice ao4 (j + 1) cap4))
        have hB5 : Hid (B ≤ (w4.setCell ⟨cb, 4, none⟩ (.slice ao4 (j + 1) cap4)).heap.size) := by
          have g1 := hA4.only.size
          unfold Hid
          simp at g1 ⊢
          omega
        clear hA4 hJ4
        go_wp2
        exact ⟨⟨j + 1, by omega, by go_num, by simp [mostJ], ao4, cap4, hJ5, hown4, hB5⟩, by simp [intOf]; omega⟩
    · have g2 : ¬ ((j : Int) < (N : Int)) := by omega
      obtain rfl : j = N := by omega
      obtain ⟨c0, c1, c2, c3, c4, c5, z0, z1, z2, z3, z4, z5⟩ := hJ.out.c
      obtain ⟨m0, m1, y0, y1⟩ := hJ.out.m
      have hR := RS.fresh wr #[.int .i64 0, .string ⟨#[65]⟩, .string ⟨#[79, 98, 106, 101, 99, 116]⟩, (.slice none 0 0), (.slice ao j cap), (.slice none 0 0)] 28
      have hq := (Only.refl [] wr).alloc (.cells #[.int .i64 0, .string ⟨#[65]⟩, .string ⟨#[79, 98, 106, 101, 99, 116]⟩, (.slice none 0 0), (.slice ao j cap), (.slice none 0 0)] 28)
      have hone : ∀ u ∈ clC (.slice none 0 0) (.slice ao j cap) (.slice none 0 0) (clA [] ((List.range j).map fdN) []), u.oneCell' = true := by
        intro u hu
        simp only [clC, List.mem_cons, List.not_mem_nil, or_false] at hu
        rcases hu with rfl | rfl | rfl | rfl | rfl | rfl <;> rfl
      go_wp2_with (at_builtin; refine wpList_append_any (ys := clC (.slice none 0 0) (.slice ao j cap) (.slice none 0 0) (clA [] ((List.range j).map fdN) [])) rfl (.tmp 91) (.tmp 93) elCl Tryz.underlying30 rfl rfl rfl (World.ownsRow_nil _ B _ _) hR rfl hone (by simp) (by omega) (by have := hBr.out; simp; omega) ?_; rintro ao5 cap5 w5 hA5; have hJ5 := hid (hJ.out.grow (Only.refl [] wr) (World.ownsRow_nil _ B _ _) hA5 hBf); obtain ⟨n0, n1, p0, p1⟩ := hJ5.out.m)
      have oA : Only [] wr w5 := by
        have := hq.trans hA5.only (by simp [Value.ownBlock])
        exact this
      have hL := hid (hJ5.out.putC (.slice ao5 1 cap5))
      have oS : Only [mb] w5 (w5.setCell ⟨mb, 1, none⟩ (.slice ao5 1 cap5)) := (Only.refl [mb] w5).setCell (.inl (by simp)) _
      have hmB : mb < B := by have := hJ.out.h; omega
      have hMo := hid (mo_one (c := (clA [] ((List.range j).map fdN) [])) (rows_set (b := mb) (i := 1) (u := .slice ao5 1 cap5) hA5.own hmB) ⟨SlV.nil _ _, own_slr (by simpa [clA] using rows_set (b := mb) (i := 1) (u := .slice ao5 1 cap5) (rows_only hown.out oA (by simp)) hmB), [], SlV.nil _ _, Els.nil _ _⟩)
      clear hA5 hR hq hone c0 c1 c2 c3 c4 c5 z0 z1 z2 z3 z4 z5 m0 m1 y0 y1 n0 n1 p0 p1
      replace hMo : Hid (MoAt (SlR _ fun _ => True) (.slice none 0 0) (.slice ao5 1 cap5) (modK 2 j)) := hMo
      have hgw := hid (hg.only0 hL.out.o)
      have HC := hid (mcheck_any hgw.out (P := fun _ => True) (modK 2 j) (fit_k 2 j) hMo.out)
      obtain ⟨m0, m1, _, _⟩ := hL.out.m
      go_wp2_with fail
      refine HC.out.mono ?_
      rintro e w7 ⟨v1, rfl, hev1, ho7⟩
      clear HC m0 m1
      have hL7 := hid (hL.out.only ho7 (by simp))
      have hMo7 := hid (hMo.out.only0 ho7)
      have hg7 := hid (hgw.out.only0 ho7)
      have HW := hid (mwrite_any hg7.out (P := fun _ => True) (modK 2 j) (fit_k 2 j) (by rw [pool_nil]; simp) hMo7.out)
      clear hL hMo hgw
      obtain ⟨m0, m1, _, _⟩ := hL7.out.m
      by_cases hm : mostK 2 j < j
      · obtain ⟨e1, e2⟩ := lim_many 2 j (by omega) hNl hm
        rw [e1] at hev1
        rw [e2] at HW
        obtain ⟨p1, rfl, hb1⟩ : ∃ p, v1 = badV p ∧ BadAt w7 p (0, 0, 0, 4) := by
          rcases hev1.cases_nil with ⟨h, _⟩ | ⟨_, p, h1, _, h2⟩
          · exact absurd h (by decide)
          · exact ⟨p, h1, h2⟩
        clear hev1 e1 e2
        have gm : ((mostJ 64 64 j : Nat) : Int) < (j : Int) := by
          have : mostJ 64 64 j = mostK 2 j := by unfold mostJ mostK; split <;> simp
          rw [this]
          omega
        go_wp2_with fail
        refine HW.out.mono ?_
        rintro e w8 ⟨bo, bcap, v2, rfl, hown8, hev2, ho8⟩
        obtain ⟨p2, rfl, hb2⟩ : ∃ p, v2 = badV p ∧ BadAt w8 p (0, 0, 0, 4) := by
          rcases hev2.cases_nil with ⟨h, _⟩ | ⟨_, p, h1, _, h2⟩
          · exact absurd h (by decide)
          · exact ⟨p, h1, h2⟩
        clear hev2 HW hown8 m0 m1
        have hg8 := hid (hg7.out.only0 ho8)
        have HX := hid (wrongly4 hg8.out (hb1.only ho8 (by simp)))
        replace hb2 := hid hb2
        have o8 := hid (hL7.out.o.trans ho8 (by simp))
        clear hb1 ho8
        go_wp2_with fail
        refine HX.out.mono ?_
        rintro e w9 ⟨rfl, ho9⟩
        have HY := hid (wrongly4 (hg8.out.only0 ho9) (hb2.out.only ho9 (by simp)))
        clear HX
        go_wp2_with fail
        refine HY.out.mono ?_
        rintro e w10 ⟨rfl, ho10⟩
        go_wp2_with fail
        go_ret
        exact ⟨rfl, (o8.out.trans ho9 (by simp)).trans ho10 (by simp)⟩
      · obtain ⟨e1, e2, e3⟩ := lim_right 2 j (by omega) hNl hm
        have hlen := len_all 2 j (by omega) hNl
        rw [e1] at hev1
        rw [e2] at HW
        simp only at HW
        obtain rfl : v1 = .nilIface := by
          rcases hev1.cases_nil with ⟨_, h⟩ | ⟨h, _⟩
          · exact h
          · exact absurd rfl h
        clear hev1 e1 e2
        have gm : ¬ ((mostJ 64 64 j : Nat) : Int) < (j : Int) := by
          have : mostJ 64 64 j = mostK 2 j := by unfold mostJ mostK; split <;> simp
          rw [this]
          omega
        go_wp2_with fail
        refine HW.out.mono ?_
        rintro e w8 ⟨bo, bcap, v2, rfl, hown8, hev2, ho8⟩
        obtain rfl : v2 = .nilIface := by
          rcases hev2.cases_nil with ⟨_, h⟩ | ⟨h, _⟩
          · exact h
          · exact absurd rfl h
        clear hev2 HW m0 m1
        have hg8 := hid (hg7.out.only0 ho8)
        have hL8 := hid (hL7.out.only ho8 (by simp))
        have hMo8 := hid (hMo7.out.only0 ho8)
        clear hL7 hMo7 hg7
        obtain ⟨q1, _, _, q4, _⟩ := RS.of_owns hown8
        have HR := mread_any hg8.out (cap := bcap) (bs_of_rs q1) q4 (by omega)
        rw [e3] at HR
        replace HR := hid HR
        clear e3 q1 q4 hown8
        go_wp2_with fail
        refine HR.out.mono ?_
        rintro e w9 ⟨vp, vc, v3, rfl, hev3, _, _, hA, ho9⟩
        obtain rfl : v3 = .nilIface := by
          rcases hev3.cases_nil with ⟨_, h⟩ | ⟨h, _⟩
          · exact h
          · exact absurd rfl h
        clear hev3 HR
        obtain ⟨po, pc, rfl⟩ := rows_slice hA.pool.1
        obtain ⟨ccs0, ⟨hc1, _⟩, _⟩ := hA.classes
        obtain ⟨co, cc, rfl⟩ := rows_slice hc1
        clear hc1
        have qx := (Only.refl [] w9).alloc (.cells #[.slice po (modK 2 j).pool.length pc, .slice co (modK 2 j).classes.length cc] 32)
        have X9 := mo2_new w9 (.slice po (modK 2 j).pool.length pc) (.slice co (modK 2 j).classes.length cc) 32
        have hL9 := hid (hL8.out.only (ho9.trans qx (by simp)) (by simp))
        have HS := rsame_module _ _ ((hA.imp fun _ _ _ _ _ g => owr_slice g).only0 qx) (hMo8.out.only0 (ho9.trans qx (by simp)))
        rw [decide_eq_true rfl] at HS
        replace HS := hid HS
        obtain ⟨x0, x1, _, _⟩ := X9
        obtain ⟨m0, m1, _, _⟩ := hL9.out.m
        clear hA hL8 hMo8
        go_wp2_with fail
        refine HS.out.mono ?_
        rintro e w10 ⟨rfl, ho10⟩
        go_wp2_with fail
        go_ret
        exact ⟨rfl, hL9.out.o.trans ho10 (by simp)⟩

end Go.Proofs.YtildemmkhndhjaaGreatDoor
namespace Go.Proofs.YtildemmkhndhjaaGreatDoor
open Go.RowKit

set_option maxHeartbeats 4000000 in
set_option maxRecDepth 100000 in
theorem limits_3 {w : World} (hg : Ety w) (kind n : Int) (hK : kind % 5 = 3) : Calls Tryz.prog 3 #[.int .i64 kind, .int .i64 n] w fun e w' => e = .returned (.bool true) ∧ Only [] w w' := by
  have HK := hid (known5 hg)
  go_enter Tryz.func3, Tryz.ntmps3
  go_wp2_with fail
  refine HK.out.mono ?_
  rintro e w1 ⟨rfl, o1⟩
  clear HK
  obtain ⟨N, hN, hNl⟩ : ∃ N : Nat, n % 70 = (N : Int) ∧ N < 70 := ⟨(n % 70).toNat, by omega, by omega⟩
  have H1 := within_any kind 5 (by omega) w1
  have H2 := within_any n 70 (by omega) w1
  rw [hK] at H1
  rw [hN] at H2
  clear hK hN
  replace H1 := hid H1
  replace H2 := hid H2
  go_wp2_with fail
  refine H1.out.mono ?_
  rintro e w2 ⟨rfl, rfl⟩
  go_wp2_with fail
  refine H2.out.mono ?_
  rintro e w2 ⟨rfl, rfl⟩
  clear H1 H2
  go_wp2_with fail
  obtain ⟨hI, hWs⟩ := limI_new o1
  have eW : (((w2.alloc (.cells #[.int .i64 0, .string ⟨#[65]⟩, .string ⟨#[79, 98, 106, 101, 99, 116]⟩, .slice none 0 0, .slice none 0 0, .slice none 0 0] 28)).alloc (.cells #[.slice none 0 0, .slice none 0 0] 32)).alloc (.cells #[.int .u8 42] 5)).alloc (.cells #[.int .i64 4, .string ⟨#[102]⟩, .slice none 0 0, .bool true, .int .i64 0, .string ⟨#[]⟩, .int .i64 1, .int .i64 0, .slice (some ⟨w2.heap.size + 1 + 1, 0, none⟩) 1 1, .slice none 0 0] 41) = limW w2 := rfl
  rw [eW]
  generalize limW w2 = W at *
  clear eW
  obtain ⟨cb, hcb⟩ : ∃ cb, cb = w2.heap.size := ⟨_, rfl⟩
  rw [← hcb] at hI hWs ⊢
  obtain ⟨mb, hmb⟩ : ∃ mb, mb = cb + 1 := ⟨_, rfl⟩
  rw [← hmb] at hI hWs ⊢
  obtain ⟨db, hdb⟩ : ∃ db, db = mb + 1 := ⟨_, rfl⟩
  rw [← hdb] at hI hWs ⊢
  obtain ⟨fb, hfb⟩ : ∃ fb, fb = db + 1 := ⟨_, rfl⟩
  rw [← hfb] at hI hWs ⊢
  clear hcb hmb hdb hfb o1
  replace hI := hid hI
  have hBf : fb < W.heap.size := by omega
  obtain ⟨B, hB⟩ : ∃ B, B = W.heap.size := ⟨_, rfl⟩
  rw [← hB] at hBf
  have hBW : Hid (B ≤ W.heap.size) := by unfold Hid; omega
  clear hWs hB
  go_loopw [7, 9] (fun most i wr => ∃ j : Nat, j ≤ N ∧ i = .int .i64 (j : Int) ∧ most = .int .i64 (mostJ 64 64 j : Int) ∧ ∃ (nm : ByteArray), ∃ ao cap, Hid (LimI w wr cb mb db fb (.slice none 0 0) (.slice none 0 0) (.slice ao j cap) (.slice none 0 0) nm (.slice none 0 0)) ∧ Hid (wr.ownsRow B 41 10 (.slice ao j cap) j (mez db ((List.range j).map meN))) ∧ Hid (B ≤ wr.heap.size)) (fun _ i _ => N - (intOf i).toNat)
  case atStart => exact ⟨0, by omega, rfl, rfl, _, none, 0, hI, hid (World.ownsRow_nil _ _ _ _), hBW⟩
  case round =>
    obtain ⟨j, hj, rfl, rfl, nm, ao, cap, hJ, hown, hBr⟩ := hrel
    clear hI hBW
    by_cases hlt : j < N
    · have g2 : ((j : Int) < (N : Int)) := by omega
      go_wp2_with fail
      refine (lname_any j (by omega) _).mono ?_
      rintro e w3 ⟨rfl, o3⟩
      have hJ3 := hid ((hJ.out.only o3 (by simp)).putN (str (nmL j)))
      obtain ⟨q0, q1, q2, q3, q4, q5, q6, q7, q8, q9, s0, s1, s2, s3, s4, s5, s6, s7, s8, s9⟩ := hJ.out.f.only o3 (by simp)
      obtain ⟨c0, c1, c2, c3, c4, c5, z0, z1, z2, z3, z4, z5⟩ := hJ3.out.c
      obtain ⟨f0, f1, f2, f3, f4, f5, f6, f7, f8, f9, _, _, _, _, _, _, _, _, _, _⟩ := hJ3.out.f
      have hB3 := Nat.le_trans hBr.out o3.size
      have hown3 := rows_set (b := fb) (i := 1) (u := .string (str (nmL j))) (rows_only hown.out o3 (by simp)) hBf
      have hR := RS.fresh (w3.setCell ⟨fb, 1, none⟩ (.string (str (nmL j)))) #[.int .i64 4, .string (str (nmL j)), .slice none 0 0, .bool true, .int .i64 0, .string ⟨#[]⟩, .int .i64 1, .int .i64 0, .slice (some ⟨db, 0, none⟩) 1 1, .slice none 0 0] 41
      have hsz : (w3.setCell ⟨fb, 1, none⟩ (.string (str (nmL j)))).heap.size = w3.heap.size := by simp
      rw [hsz] at hR
      have hown2 := rows_only hown3 ((Only.refl [] _).alloc (.cells #[.int .i64 4, .string (str (nmL j)), .slice none 0 0, .bool true, .int .i64 0, .string ⟨#[]⟩, .int .i64 1, .int .i64 0, .slice (some ⟨db, 0, none⟩) 1 1, .slice none 0 0] 41)) (by simp)
      have hone : ∀ u ∈ mez db [meN j], u.oneCell' = true := by
        intro u hu
        simp only [mez, List.flatMap_cons, List.flatMap_nil, List.append_nil, meC, List.mem_cons, List.not_mem_nil, or_false] at hu
        rcases hu with rfl | rfl | rfl | rfl | rfl | rfl | rfl | rfl | rfl | rfl <;> rfl
      go_wp2_with (at_builtin; refine wpList_append_any (ys := mez db [meN j]) rfl (.tmp 67) (.tmp 69) elMe Tryz.underlying26 rfl rfl rfl hown2 hR rfl hone (by simp) (by omega) (by simp; omega) ?_; rintro ao4 cap4 w4 hA4; have hJ4 := hid (hJ3.out.grow (Only.refl [] _) hown3 hA4 hBf); obtain ⟨k0, k1, k2, k3, k4, k5, x0, x1, x2, x3, x4, x5⟩ := hJ4.out.c)
      have hown4 : Hid ((w4.setCell ⟨cb, 5, none⟩ (.slice ao4 (j + 1) cap4)).ownsRow B 41 10 (.slice ao4 (j + 1) cap4) (j + 1) (mez db ((List.range (j + 1)).map meN))) := by
        unfold Hid
        rw [range_map_succ, show mez db ((List.range j).map meN ++ [meN j]) = mez db ((List.range j).map meN) ++ mez db [meN j] by simp [mez]]
        exact rows_set hA4.own (by have := hJ.out.h; omega)
      have hJ5 := hid (hJ4.out.putM (.slice ao4 (j + 1) cap4))
      have hB5 : Hid (B ≤ (w4.setCell ⟨cb, 5, none⟩ (.slice ao4 (j + 1) cap4)).heap.size) := by
        have g1 := hA4.only.size
        unfold Hid
        simp at g1 ⊢
        omega
      exact ⟨⟨j + 1, by omega, by go_num, by simp [mostJ], _, ao4, cap4, hJ5, hown4, hB5⟩, by simp [intOf]; omega⟩
    · have g2 : ¬ ((j : Int) < (N : Int)) := by omega
      obtain rfl : j = N := by omega
      obtain ⟨c0, c1, c2, c3, c4, c5, z0, z1, z2, z3, z4, z5⟩ := hJ.out.c
      obtain ⟨m0, m1, y0, y1⟩ := hJ.out.m
      have hR := RS.fresh wr #[.int .i64 0, .string ⟨#[65]⟩, .string ⟨#[79, 98, 106, 101, 99, 116]⟩, (.slice none 0 0), (.slice none 0 0), (.slice ao j cap)] 28
      have hq := (Only.refl [] wr).alloc (.cells #[.int .i64 0, .string ⟨#[65]⟩, .string ⟨#[79, 98, 106, 101, 99, 116]⟩, (.slice none 0 0), (.slice none 0 0), (.slice ao j cap)] 28)
      have hone : ∀ u ∈ clC (.slice none 0 0) (.slice none 0 0) (.slice ao j cap) (clA [] [] ((List.range j).map meN)), u.oneCell' = true := by
        intro u hu
        simp only [clC, List.mem_cons, List.not_mem_nil, or_false] at hu
        rcases hu with rfl | rfl | rfl | rfl | rfl | rfl <;> rfl
      go_wp2_with (at_builtin; refine wpList_append_any (ys := clC (.slice none 0 0) (.slice none 0 0) (.slice ao j cap) (clA [] [] ((List.range j).map meN))) rfl (.tmp 91) (.tmp 93) elCl Tryz.underlying30 rfl rfl rfl (World.ownsRow_nil _ B _ _) hR rfl hone (by simp) (by omega) (by have := hBr.out; simp; omega) ?_; rintro ao5 cap5 w5 hA5; have hJ5 := hid (hJ.out.grow (Only.refl [] wr) (World.ownsRow_nil _ B _ _) hA5 hBf); obtain ⟨n0, n1, p0, p1⟩ := hJ5.out.m)
      have oA : Only [] wr w5 := by
        have := hq.trans hA5.only (by simp [Value.ownBlock])
        exact this
      have hL := hid (hJ5.out.putC (.slice ao5 1 cap5))
      have oS : Only [mb] w5 (w5.setCell ⟨mb, 1, none⟩ (.slice ao5 1 cap5)) := (Only.refl [mb] w5).setCell (.inl (by simp)) _
      have hmB : mb < B := by have := hJ.out.h; omega
      have hMo := hid (mo_one (c := (clA [] [] ((List.range j).map meN))) (rows_set (b := mb) (i := 1) (u := .slice ao5 1 cap5) hA5.own hmB) ⟨SlV.nil _ _, SlV.nil _ _, mez db ((List.range j).map meN), own_slr (by simpa [clA] using rows_set (b := mb) (i := 1) (u := .slice ao5 1 cap5) (rows_only hown.out oA (by simp)) hmB), els_mez hL.out.d (List.range j)⟩)
      clear hA5 hR hq hone c0 c1 c2 c3 c4 c5 z0 z1 z2 z3 z4 z5 m0 m1 y0 y1 n0 n1 p0 p1
      replace hMo : Hid (MoAt (SlR _ fun _ => True) (.slice none 0 0) (.slice ao5 1 cap5) (modK 3 j)) := hMo
      have hgw := hid (hg.only0 hL.out.o)
      have HC := hid (mcheck_any hgw.out (P := fun _ => True) (modK 3 j) (fit_k 3 j) hMo.out)
      obtain ⟨m0, m1, _, _⟩ := hL.out.m
      go_wp2_with fail
      refine HC.out.mono ?_
      rintro e w7 ⟨v1, rfl, hev1, ho7⟩
      clear HC m0 m1
      have hL7 := hid (hL.out.only ho7 (by simp))
      have hMo7 := hid (hMo.out.only0 ho7)
      have hg7 := hid (hgw.out.only0 ho7)
      have HW := hid (mwrite_any hg7.out (P := fun _ => True) (modK 3 j) (fit_k 3 j) (by rw [pool_nil]; simp) hMo7.out)
      clear hL hMo hgw
      obtain ⟨m0, m1, _, _⟩ := hL7.out.m
      by_cases hm : mostK 3 j < j
      · obtain ⟨e1, e2⟩ := lim_many 3 j (by omega) hNl hm
        rw [e1] at hev1
        rw [e2] at HW
        obtain ⟨p1, rfl, hb1⟩ : ∃ p, v1 = badV p ∧ BadAt w7 p (0, 0, 0, 4) := by
          rcases hev1.cases_nil with ⟨h, _⟩ | ⟨_, p, h1, _, h2⟩
          · exact absurd h (by decide)
          · exact ⟨p, h1, h2⟩
        clear hev1 e1 e2
        have gm : ((mostJ 64 64 j : Nat) : Int) < (j : Int) := by
          have : mostJ 64 64 j = mostK 3 j := by unfold mostJ mostK; split <;> simp
          rw [this]
          omega
        go_wp2_with fail
        refine HW.out.mono ?_
        rintro e w8 ⟨bo, bcap, v2, rfl, hown8, hev2, ho8⟩
        obtain ⟨p2, rfl, hb2⟩ : ∃ p, v2 = badV p ∧ BadAt w8 p (0, 0, 0, 4) := by
          rcases hev2.cases_nil with ⟨h, _⟩ | ⟨_, p, h1, _, h2⟩
          · exact absurd h (by decide)
          · exact ⟨p, h1, h2⟩
        clear hev2 HW hown8 m0 m1
        have hg8 := hid (hg7.out.only0 ho8)
        have HX := hid (wrongly4 hg8.out (hb1.only ho8 (by simp)))
        replace hb2 := hid hb2
        have o8 := hid (hL7.out.o.trans ho8 (by simp))
        clear hb1 ho8
        go_wp2_with fail
        refine HX.out.mono ?_
        rintro e w9 ⟨rfl, ho9⟩
        have HY := hid (wrongly4 (hg8.out.only0 ho9) (hb2.out.only ho9 (by simp)))
        clear HX
        go_wp2_with fail
        refine HY.out.mono ?_
        rintro e w10 ⟨rfl, ho10⟩
        go_wp2_with fail
        go_ret
        exact ⟨rfl, (o8.out.trans ho9 (by simp)).trans ho10 (by simp)⟩
      · obtain ⟨e1, e2, e3⟩ := lim_right 3 j (by omega) hNl hm
        have hlen := len_all 3 j (by omega) hNl
        rw [e1] at hev1
        rw [e2] at HW
        simp only at HW
        obtain rfl : v1 = .nilIface := by
          rcases hev1.cases_nil with ⟨_, h⟩ | ⟨h, _⟩
          · exact h
          · exact absurd rfl h
        clear hev1 e1 e2
        have gm : ¬ ((mostJ 64 64 j : Nat) : Int) < (j : Int) := by
          have : mostJ 64 64 j = mostK 3 j := by unfold mostJ mostK; split <;> simp
          rw [this]
          omega
        go_wp2_with fail
        refine HW.out.mono ?_
        rintro e w8 ⟨bo, bcap, v2, rfl, hown8, hev2, ho8⟩
        obtain rfl : v2 = .nilIface := by
          rcases hev2.cases_nil with ⟨_, h⟩ | ⟨h, _⟩
          · exact h
          · exact absurd rfl h
        clear hev2 HW m0 m1
        have hg8 := hid (hg7.out.only0 ho8)
        have hL8 := hid (hL7.out.only ho8 (by simp))
        have hMo8 := hid (hMo7.out.only0 ho8)
        clear hL7 hMo7 hg7
        obtain ⟨q1, _, _, q4, _⟩ := RS.of_owns hown8
        have HR := mread_any hg8.out (cap := bcap) (bs_of_rs q1) q4 (by omega)
        rw [e3] at HR
        replace HR := hid HR
        clear e3 q1 q4 hown8
        go_wp2_with fail
        refine HR.out.mono ?_
        rintro e w9 ⟨vp, vc, v3, rfl, hev3, _, _, hA, ho9⟩
        obtain rfl : v3 = .nilIface := by
          rcases hev3.cases_nil with ⟨_, h⟩ | ⟨h, _⟩
          · exact h
          · exact absurd rfl h
        clear hev3 HR
        obtain ⟨po, pc, rfl⟩ := rows_slice hA.pool.1
        obtain ⟨ccs0, ⟨hc1, _⟩, _⟩ := hA.classes
        obtain ⟨co, cc, rfl⟩ := rows_slice hc1
        clear hc1
        have qx := (Only.refl [] w9).alloc (.cells #[.slice po (modK 3 j).pool.length pc, .slice co (modK 3 j).classes.length cc] 32)
        have X9 := mo2_new w9 (.slice po (modK 3 j).pool.length pc) (.slice co (modK 3 j).classes.length cc) 32
        have hL9 := hid (hL8.out.only (ho9.trans qx (by simp)) (by simp))
        have HS := rsame_module _ _ ((hA.imp fun _ _ _ _ _ g => owr_slice g).only0 qx) (hMo8.out.only0 (ho9.trans qx (by simp)))
        rw [decide_eq_true rfl] at HS
        replace HS := hid HS
        obtain ⟨x0, x1, _, _⟩ := X9
        obtain ⟨m0, m1, _, _⟩ := hL9.out.m
        clear hA hL8 hMo8
        go_wp2_with fail
        refine HS.out.mono ?_
        rintro e w10 ⟨rfl, ho10⟩
        go_wp2_with fail
        go_ret
        exact ⟨rfl, hL9.out.o.trans ho10 (by simp)⟩

end Go.Proofs.YtildemmkhndhjaaGreatDoor
namespace Go.Proofs.YtildemmkhndhjaaGreatDoor
open Go.RowKit

set_option maxHeartbeats 4000000 in
set_option maxRecDepth 100000 in
theorem limits_4 {w : World} (hg : Ety w) (kind n : Int) (hK : kind % 5 = 4) : Calls Tryz.prog 3 #[.int .i64 kind, .int .i64 n] w fun e w' => e = .returned (.bool true) ∧ Only [] w w' := by
  have HK := hid (known5 hg)
  go_enter Tryz.func3, Tryz.ntmps3
  go_wp2_with fail
  refine HK.out.mono ?_
  rintro e w1 ⟨rfl, o1⟩
  clear HK
  obtain ⟨N, hN, hNl⟩ : ∃ N : Nat, n % 70 = (N : Int) ∧ N < 70 := ⟨(n % 70).toNat, by omega, by omega⟩
  have H1 := within_any kind 5 (by omega) w1
  have H2 := within_any n 70 (by omega) w1
  rw [hK] at H1
  rw [hN] at H2
  clear hK hN
  replace H1 := hid H1
  replace H2 := hid H2
  go_wp2_with fail
  refine H1.out.mono ?_
  rintro e w2 ⟨rfl, rfl⟩
  go_wp2_with fail
  refine H2.out.mono ?_
  rintro e w2 ⟨rfl, rfl⟩
  clear H1 H2
  go_wp2_with fail
  obtain ⟨hI, hWs⟩ := limI_new o1
  have eW : (((w2.alloc (.cells #[.int .i64 0, .string ⟨#[65]⟩, .string ⟨#[79, 98, 106, 101, 99, 116]⟩, .slice none 0 0, .slice none 0 0, .slice none 0 0] 28)).alloc (.cells #[.slice none 0 0, .slice none 0 0] 32)).alloc (.cells #[.int .u8 42] 5)).alloc (.cells #[.int .i64 4, .string ⟨#[102]⟩, .slice none 0 0, .bool true, .int .i64 0, .string ⟨#[]⟩, .int .i64 1, .int .i64 0, .slice (some ⟨w2.heap.size + 1 + 1, 0, none⟩) 1 1, .slice none 0 0] 41) = limW w2 := rfl
  rw [eW]
  generalize limW w2 = W at *
  clear eW
  obtain ⟨cb, hcb⟩ : ∃ cb, cb = w2.heap.size := ⟨_, rfl⟩
  rw [← hcb] at hI hWs ⊢
  obtain ⟨mb, hmb⟩ : ∃ mb, mb = cb + 1 := ⟨_, rfl⟩
  rw [← hmb] at hI hWs ⊢
  obtain ⟨db, hdb⟩ : ∃ db, db = mb + 1 := ⟨_, rfl⟩
  rw [← hdb] at hI hWs ⊢
  obtain ⟨fb, hfb⟩ : ∃ fb, fb = db + 1 := ⟨_, rfl⟩
  rw [← hfb] at hI hWs ⊢
  clear hcb hmb hdb hfb o1
  replace hI := hid hI
  have hBf : fb < W.heap.size := by omega
  obtain ⟨B, hB⟩ : ∃ B, B = W.heap.size := ⟨_, rfl⟩
  rw [← hB] at hBf
  have hBW : Hid (B ≤ W.heap.size) := by unfold Hid; omega
  clear hWs hB
  go_loopw [7, 9] (fun most i wr => ∃ j : Nat, j ≤ N ∧ i = .int .i64 (j : Int) ∧ most = .int .i64 (mostJ 64 32 j : Int) ∧ ∃ ao cap, Hid (LimI w wr cb mb db fb (.slice none 0 0) (.slice none 0 0) (.slice none 0 0) (.slice none 0 0) ⟨#[102]⟩ (.slice ao j cap)) ∧ Hid (wr.ownsRow B 46 4 (.slice ao j cap) j (hcs (List.replicate j hdN))) ∧ Hid (B ≤ wr.heap.size)) (fun _ i _ => N - (intOf i).toNat)
  case atStart => exact ⟨0, by omega, rfl, rfl, none, 0, hI, hid (World.ownsRow_nil _ _ _ _), hBW⟩
  case round =>
    obtain ⟨j, hj, rfl, rfl, ao, cap, hJ, hown, hBr⟩ := hrel
    clear hI hBW
    by_cases hlt : j < N
    · have g2 : ((j : Int) < (N : Int)) := by omega
      obtain ⟨f0, f1, f2, f3, f4, f5, f6, f7, f8, f9, z0, z1, z2, z3, z4, z5, z6, z7, z8, z9⟩ := hJ.out.f
      have hR := RS.fresh wr #[.int .i64 0, .int .i64 1, .int .i64 0, .string ⟨#[84, 104, 114, 111, 119, 97, 98, 108, 101]⟩] 46
      have hown2 := rows_only hown.out ((Only.refl [] wr).alloc (.cells #[.int .i64 0, .int .i64 1, .int .i64 0, .string ⟨#[84, 104, 114, 111, 119, 97, 98, 108, 101]⟩] 46)) (by simp)
      go_wp2_with (at_builtin; refine wpList_append_any (ys := hcs [hdN]) rfl (.tmp 75) (.tmp 77) elHd Tryz.underlying39 rfl rfl rfl hown2 hR rfl (by simp [hcs, hdC, Value.oneCell']) (by simp) (by omega) (by have := hBr.out; simp; omega) ?_; rintro ao4 cap4 w4 hA4; have hJ4 := hid (hJ.out.grow (Only.refl [] wr) hown.out hA4 hBf); obtain ⟨k0, k1, k2, k3, k4, k5, k6, k7, k8, k9, x0, x1, x2, x3, x4, x5, x6, x7, x8, x9⟩ := hJ4.out.f)
      have hown4 : Hid ((w4.setCell ⟨fb, 9, none⟩ (.slice ao4 (j + 1) cap4)).ownsRow B 46 4 (.slice ao4 (j + 1) cap4) (j + 1) (hcs (List.replicate (j + 1) hdN))) := by
        unfold Hid
        rw [List.replicate_succ', show hcs (List.replicate j hdN ++ [hdN]) = hcs (List.replicate j hdN) ++ hcs [hdN] by simp [hcs]]
        exact rows_set hA4.own (by omega)
      have hJ5 := hid (hJ4.out.putH (.slice ao4 (j + 1) cap4))
      have hB5 : Hid (B ≤ (w4.setCell ⟨fb, 9, none⟩ (.slice ao4 (j + 1) cap4)).heap.size) := by
        have g1 := hA4.only.size
        have g3 := hBr.out
        unfold Hid
        simp at g1 ⊢
        omega
      exact ⟨⟨j + 1, by omega, by go_num, by simp [mostJ], ao4, cap4, hJ5, hown4, hB5⟩, by simp [intOf]; omega⟩
    · have g2 : ¬ ((j : Int) < (N : Int)) := by omega
      obtain rfl : j = N := by omega
      obtain ⟨c0, c1, c2, c3, c4, c5, z0, z1, z2, z3, z4, z5⟩ := hJ.out.c
      obtain ⟨f0, f1, f2, f3, f4, f5, f6, f7, f8, f9, _, _, _, _, _, _, _, _, _, _⟩ := hJ.out.f
      have hRf := RS.fresh wr #[.int .i64 4, .string ⟨#[102]⟩, .slice none 0 0, .bool true, .int .i64 0, .string ⟨#[]⟩, .int .i64 1, .int .i64 0, .slice (some ⟨db, 0, none⟩) 1 1, .slice ao j cap] 41
      have honef : ∀ u ∈ meC (.slice none 0 0) (.slice (some ⟨db, 0, none⟩) 1 1) (.slice ao j cap) (fM [102] (List.replicate j hdN)), u.oneCell' = true := by
        intro u hu
        simp only [meC, List.mem_cons, List.not_mem_nil, or_false] at hu
        rcases hu with rfl | rfl | rfl | rfl | rfl | rfl | rfl | rfl | rfl | rfl <;> rfl
      go_upto_if 89 with (at_builtin; refine wpList_append_any (ys := meC (.slice none 0 0) (.slice (some ⟨db, 0, none⟩) 1 1) (.slice ao j cap) (fM [102] (List.replicate j hdN))) rfl (.tmp 83) (.tmp 85) elMe Tryz.underlying26 rfl rfl rfl (World.ownsRow_nil _ B _ _) hRf rfl honef (by simp) (by omega) (by have := hBr.out; simp; omega) ?_; rintro ao6 cap6 w6 hA6; have hJ6 := hid (hJ.out.grow (Only.refl [] wr) (World.ownsRow_nil _ B _ _) hA6 hBf); obtain ⟨n0, n1, n2, n3, n4, n5, p0, p1, p2, p3, p4, p5⟩ := hJ6.out.c)
      have oF : Only [] wr w6 := by
        have := ((Only.refl [] wr).alloc (.cells #[.int .i64 4, .string ⟨#[102]⟩, .slice none 0 0, .bool true, .int .i64 0, .string ⟨#[]⟩, .int .i64 1, .int .i64 0, .slice (some ⟨db, 0, none⟩) 1 1, .slice ao j cap] 41)).trans hA6.only (by simp [Value.ownBlock])
        exact this
      have hcB : cb < B := by have := hJ.out.h; omega
      have hJf := hid (hJ6.out.putM (.slice ao6 1 cap6))
      have hownM := hid (rows_set (b := cb) (i := 5) (u := .slice ao6 1 cap6) hA6.own hcB)
      have hownH := hid (rows_set (b := cb) (i := 5) (u := .slice ao6 1 cap6) (rows_only hown.out oF (by simp)) hcB)
      have hBs : Hid (B ≤ (w6.setCell ⟨cb, 5, none⟩ (.slice ao6 1 cap6)).heap.size) := by
        have g1 := oF.size
        have g3 := hBr.out
        unfold Hid
        simp
        omega
      clear hA6 hRf honef hJ6 hJ hown hBr oF c0 c1 c2 c3 c4 c5 z0 z1 z2 z3 z4 z5 f0 f1 f2 f3 f4 f5 f6 f7 f8 f9 n0 n1 n2 n3 n4 n5 p0 p1 p2 p3 p4 p5
      generalize w6.setCell ⟨cb, 5, none⟩ (.slice ao6 1 cap6) = wf at *
      obtain ⟨c0, c1, c2, c3, c4, c5, z0, z1, z2, z3, z4, z5⟩ := hJf.out.c
      obtain ⟨m0, m1, y0, y1⟩ := hJf.out.m
      have hR := RS.fresh wf #[.int .i64 0, .string ⟨#[65]⟩, .string ⟨#[79, 98, 106, 101, 99, 116]⟩, (.slice none 0 0), (.slice none 0 0), (.slice ao6 1 cap6)] 28
      have hq := (Only.refl [] wf).alloc (.cells #[.int .i64 0, .string ⟨#[65]⟩, .string ⟨#[79, 98, 106, 101, 99, 116]⟩, (.slice none 0 0), (.slice none 0 0), (.slice ao6 1 cap6)] 28)
      have hone : ∀ u ∈ clC (.slice none 0 0) (.slice none 0 0) (.slice ao6 1 cap6) (clA [] [] [fM [102] (List.replicate j hdN)]), u.oneCell' = true := by
        intro u hu
        simp only [clC, List.mem_cons, List.not_mem_nil, or_false] at hu
        rcases hu with rfl | rfl | rfl | rfl | rfl | rfl <;> rfl
      go_wp2_with (at_builtin; refine wpList_append_any (ys := clC (.slice none 0 0) (.slice none 0 0) (.slice ao6 1 cap6) (clA [] [] [fM [102] (List.replicate j hdN)])) rfl (.tmp 91) (.tmp 93) elCl Tryz.underlying30 rfl rfl rfl (World.ownsRow_nil _ B _ _) hR rfl hone (by simp) (by omega) (by have := hBs.out; simp; omega) ?_; rintro ao5 cap5 w5 hA5; have hJ5 := hid (hJf.out.grow (Only.refl [] wf) (World.ownsRow_nil _ B _ _) hA5 hBf); obtain ⟨n0, n1, p0, p1⟩ := hJ5.out.m)
      have oA : Only [] wf w5 := by
        have := hq.trans hA5.only (by simp [Value.ownBlock])
        exact this
      have hL := hid (hJ5.out.putC (.slice ao5 1 cap5))
      have oS : Only [mb] w5 (w5.setCell ⟨mb, 1, none⟩ (.slice ao5 1 cap5)) := (Only.refl [mb] w5).setCell (.inl (by simp)) _
      have hmB : mb < B := by have := hJf.out.h; omega
      have hMo := hid (mo_one (c := (clA [] [] [fM [102] (List.replicate j hdN)])) (rows_set (b := mb) (i := 1) (u := .slice ao5 1 cap5) hA5.own hmB) ⟨SlV.nil _ _, SlV.nil _ _, meC (.slice none 0 0) (.slice (some ⟨db, 0, none⟩) 1 1) (.slice ao j cap) (fM [102] (List.replicate j hdN)), own_slr (rows_set (b := mb) (i := 1) (u := .slice ao5 1 cap5) (rows_only hownM.out oA (by simp)) hmB), ⟨rfl, fun i hi => by have h0 : i = 0 := (by simp [clA] at hi; omega); subst h0; exact ⟨_, _, _, rfl, SlV.nil _ _, code_slr hL.out.d, own_slr (by simpa [clA, fM] using rows_set (b := mb) (i := 1) (u := .slice ao5 1 cap5) (rows_only hownH.out oA (by simp)) hmB)⟩⟩⟩)
      clear hA5 hR hq hone c0 c1 c2 c3 c4 c5 z0 z1 z2 z3 z4 z5 m0 m1 y0 y1 n0 n1 p0 p1
      replace hMo : Hid (MoAt (SlR _ fun _ => True) (.slice none 0 0) (.slice ao5 1 cap5) (modK 4 j)) := hMo
      have hgw := hid (hg.only0 hL.out.o)
      have HC := hid (mcheck_any hgw.out (P := fun _ => True) (modK 4 j) (fit_k 4 j) hMo.out)
      obtain ⟨m0, m1, _, _⟩ := hL.out.m
      go_wp2_with fail
      refine HC.out.mono ?_
      rintro e w7 ⟨v1, rfl, hev1, ho7⟩
      clear HC m0 m1
      have hL7 := hid (hL.out.only ho7 (by simp))
      have hMo7 := hid (hMo.out.only0 ho7)
      have hg7 := hid (hgw.out.only0 ho7)
      have HW := hid (mwrite_any hg7.out (P := fun _ => True) (modK 4 j) (fit_k 4 j) (by rw [pool_nil]; simp) hMo7.out)
      clear hL hMo hgw
      obtain ⟨m0, m1, _, _⟩ := hL7.out.m
      by_cases hm : mostK 4 j < j
      · obtain ⟨e1, e2⟩ := lim_many 4 j (by omega) hNl hm
        rw [e1] at hev1
        rw [e2] at HW
        obtain ⟨p1, rfl, hb1⟩ : ∃ p, v1 = badV p ∧ BadAt w7 p (0, 0, 0, 4) := by
          rcases hev1.cases_nil with ⟨h, _⟩ | ⟨_, p, h1, _, h2⟩
          · exact absurd h (by decide)
          · exact ⟨p, h1, h2⟩
        clear hev1 e1 e2
        have gm : ((mostJ 64 32 j : Nat) : Int) < (j : Int) := by
          have : mostJ 64 32 j = mostK 4 j := by unfold mostJ mostK; split <;> simp
          rw [this]
          omega
        go_wp2_with fail
        refine HW.out.mono ?_
        rintro e w8 ⟨bo, bcap, v2, rfl, hown8, hev2, ho8⟩
        obtain ⟨p2, rfl, hb2⟩ : ∃ p, v2 = badV p ∧ BadAt w8 p (0, 0, 0, 4) := by
          rcases hev2.cases_nil with ⟨h, _⟩ | ⟨_, p, h1, _, h2⟩
          · exact absurd h (by decide)
          · exact ⟨p, h1, h2⟩
        clear hev2 HW hown8 m0 m1
        have hg8 := hid (hg7.out.only0 ho8)
        have HX := hid (wrongly4 hg8.out (hb1.only ho8 (by simp)))
        replace hb2 := hid hb2
        have o8 := hid (hL7.out.o.trans ho8 (by simp))
        clear hb1 ho8
        go_wp2_with fail
        refine HX.out.mono ?_
        rintro e w9 ⟨rfl, ho9⟩
        have HY := hid (wrongly4 (hg8.out.only0 ho9) (hb2.out.only ho9 (by simp)))
        clear HX
        go_wp2_with fail
        refine HY.out.mono ?_
        rintro e w10 ⟨rfl, ho10⟩
        go_wp2_with fail
        go_ret
        exact ⟨rfl, (o8.out.trans ho9 (by simp)).trans ho10 (by simp)⟩
      · obtain ⟨e1, e2, e3⟩ := lim_right 4 j (by omega) hNl hm
        have hlen := len_all 4 j (by omega) hNl
        rw [e1] at hev1
        rw [e2] at HW
        simp only at HW
        obtain rfl : v1 = .nilIface := by
          rcases hev1.cases_nil with ⟨_, h⟩ | ⟨h, _⟩
          · exact h
          · exact absurd rfl h
        clear hev1 e1 e2
        have gm : ¬ ((mostJ 64 32 j : Nat) : Int) < (j : Int) := by
          have : mostJ 64 32 j = mostK 4 j := by unfold mostJ mostK; split <;> simp
          rw [this]
          omega
        go_wp2_with fail
        refine HW.out.mono ?_
        rintro e w8 ⟨bo, bcap, v2, rfl, hown8, hev2, ho8⟩
        obtain rfl : v2 = .nilIface := by
          rcases hev2.cases_nil with ⟨_, h⟩ | ⟨h, _⟩
          · exact h
          · exact absurd rfl h
        clear hev2 HW m0 m1
        have hg8 := hid (hg7.out.only0 ho8)
        have hL8 := hid (hL7.out.only ho8 (by simp))
        have hMo8 := hid (hMo7.out.only0 ho8)
        clear hL7 hMo7 hg7
        obtain ⟨q1, _, _, q4, _⟩ := RS.of_owns hown8
        have HR := mread_any hg8.out (cap := bcap) (bs_of_rs q1) q4 (by omega)
        rw [e3] at HR
        replace HR := hid HR
        clear e3 q1 q4 hown8
        go_wp2_with fail
        refine HR.out.mono ?_
        rintro e w9 ⟨vp, vc, v3, rfl, hev3, _, _, hA, ho9⟩
        obtain rfl : v3 = .nilIface := by
          rcases hev3.cases_nil with ⟨_, h⟩ | ⟨h, _⟩
          · exact h
          · exact absurd rfl h
        clear hev3 HR
        obtain ⟨po, pc, rfl⟩ := rows_slice hA.pool.1
        obtain ⟨ccs0, ⟨hc1, _⟩, _⟩ := hA.classes
        obtain ⟨co, cc, rfl⟩ := rows_slice hc1
        clear hc1
        have qx := (Only.refl [] w9).alloc (.cells #[.slice po (modK 4 j).pool.length pc, .slice co (modK 4 j).classes.length cc] 32)
        have X9 := mo2_new w9 (.slice po (modK 4 j).pool.length pc) (.slice co (modK 4 j).classes.length cc) 32
        have hL9 := hid (hL8.out.only (ho9.trans qx (by simp)) (by simp))
        have HS := rsame_module _ _ ((hA.imp fun _ _ _ _ _ g => owr_slice g).only0 qx) (hMo8.out.only0 (ho9.trans qx (by simp)))
        rw [decide_eq_true rfl] at HS
        replace HS := hid HS
        obtain ⟨x0, x1, _, _⟩ := X9
        obtain ⟨m0, m1, _, _⟩ := hL9.out.m
        clear hA hL8 hMo8
        go_wp2_with fail
        refine HS.out.mono ?_
        rintro e w10 ⟨rfl, ho10⟩
        go_wp2_with fail
        go_ret
        exact ⟨rfl, hL9.out.o.trans ho10 (by simp)⟩

end Go.Proofs.YtildemmkhndhjaaGreatDoor
namespace Go.Proofs.YtildemmkhndhjaaGreatDoor
open Go.RowKit

theorem limits_any {w : World} (hg : Ety w) (kind n : Int) : Calls Tryz.prog 3 #[.int .i64 kind, .int .i64 n] w fun e w' => e = .returned (.bool true) ∧ Only [] w w' := by
  have h : kind % 5 = 0 ∨ kind % 5 = 1 ∨ kind % 5 = 2 ∨ kind % 5 = 3 ∨ kind % 5 = 4 := by omega
  rcases h with h | h | h | h | h
  · exact limits_0 hg kind n h
  · exact limits_1 hg kind n h
  · exact limits_2 hg kind n h
  · exact limits_3 hg kind n h
  · exact limits_4 hg kind n h

theorem limits_walk {w : World} (hg : Ety w) (kind n : Int) : Calls Tryz.prog 3 #[.int .i64 kind, .int .i64 n] w fun e w' => e = .returned (.bool true) ∧ Below w.heap.size w w' :=
  (limits_any hg kind n).mono fun _ _ h => ⟨h.1, h.2.below (Nat.le_refl _) (by simp)⟩

end Go.Proofs.YtildemmkhndhjaaGreatDoor
namespace Go.Proofs.YtildemmkhndhjaaGreatDoor
open Go.ChangeShapes Go.WideShapes Go.ChangeAt Go.RowKit

set_option maxRecDepth 100000 in
theorem limits_contract (H : Type) (enc : TypeId × Value → H) (W : World) (base : Nat) (args : Array Value) (ds gs : List (DataW H)) (before : List MemPlace)
    (hval : ∀ (j : Nat) t v, Tryz.f3.params[j]? = some t → args[j]? = some v → Value.okWide Tryz.prog W .any base t v)
    (hW : DataW.Whole enc Tryz.prog Tryz.f3.params.toList Rows.moduleLimitsSpec.vars false W args.toList ds gs before) (hL : laidMetH Tryz.prog Rows.moduleLimitsRow.laid W) :
    Calls Tryz.prog 3 args W fun e W' => ∃ v, e = .returned v ∧ Rows.moduleLimitsSpec.post enc Tryz.prog Tryz.f3 false true false false W args v W' := by
  have hT : Ety W := ety_of hL
  have hW' := hW
  obtain ⟨p, q, hA0, hV, rfl, hfz, hnd⟩ := hW
  have hA : DataW.TrodAll enc Tryz.prog W 0 (fun _ => true) true Tryz.f3.params.toList args.toList ds p := hA0
  rw [Tryz.params3] at hA hval
  obtain ⟨v0, vs0, d0, ds0, p0, q0, hargs, rfl, rfl, h0, r0⟩ := trodAll_cons hA
  obtain ⟨v1, vs1, d1, ds1, p1, q1, rfl, rfl, rfl, h1, r1⟩ := trodAll_cons r0
  obtain ⟨rfl, rfl, rfl⟩ := trodAll_nil r1
  obtain rfl : args = #[v0, v1] := by cases args; simp_all
  obtain ⟨rfl, rfl⟩ := trodVars_none hV
  have k0 := h0
  have lt0 : ∀ x ∈ p0, x.block < W.heap.size := by obtain ⟨m, hm⟩ := k0; exact DataW.trod_lt m _ _ _ hm
  obtain ⟨x0, rfl, _, _, wx0⟩ := open_int Tryz.underlying3 (hval 0 3 v0 rfl rfl) h0
  have k1 := h1
  have lt1 : ∀ x ∈ p1, x.block < W.heap.size := by obtain ⟨m, hm⟩ := k1; exact DataW.trod_lt m _ _ _ hm
  obtain ⟨x1, rfl, _, _, wx1⟩ := open_int Tryz.underlying3 (hval 1 3 v1 rfl rfl) h1
  clear hA0
  have hw := limits_walk hT x0 x1
  refine hw.mono fun e W' ⟨he, bel⟩ => ?_
  subst he
  exact ⟨_, rfl, _, _, _, [], _, [], hW', trodAll_mk1 (shut_bool Tryz.underlying4 _), (trodAll_cons_mk (Below.trod laidOut (by kernel_rfl) (of_decide_eq_true (by kernel_rfl)) k0 bel lt0) (trodAll_cons_mk (Below.trod laidOut (by kernel_rfl) (of_decide_eq_true (by kernel_rfl)) k1 bel lt1) trodAll_mk0)), rfl, bel.frame _, fun h => by cases h⟩

theorem limits_met (os : Os) : laidMetH Tryz.prog Rows.moduleLimitsRow.laid (({ World.holding Tryz.prog os ⟨#[], #[], []⟩ with heap := (World.holding Tryz.prog os ⟨#[], #[], []⟩).heap.modify 0 fun o => match o with | .cells _ t frozen => .cells #[.iface 172 (.agg #[.pointer (some ⟨5, 48, none⟩)])] t frozen | o => o } : World).forCall (fun _ _ => 0) ⟨#[], #[.int .i64 0, .int .i64 0], []⟩).memory :=
  laidMetH_of_parts (laidMet_nil _ _) (by kernel_rfl)
theorem limits_reads (os : Os) {H : Type} (enc : TypeId × Value → H) : ∃ places, DataW.whole enc Tryz.prog (({ World.holding Tryz.prog os ⟨#[], #[], []⟩ with heap := (World.holding Tryz.prog os ⟨#[], #[], []⟩).heap.modify 0 fun o => match o with | .cells _ t frozen => .cells #[.iface 172 (.agg #[.pointer (some ⟨5, 48, none⟩)])] t frozen | o => o } : World).forCall (fun _ _ => 0) ⟨#[], #[.int .i64 0, .int .i64 0], []⟩).memory Tryz.f3.params.toList Rows.moduleLimitsSpec.vars false (#[.int .i64 0, .int .i64 0] : Array Value).toList 8 = some ([.lit (.int .i64 0), .lit (.int .i64 0)], [], places) :=
  ⟨[], by kernel_rfl⟩

set_option maxRecDepth 100000 in
theorem limits_lifted (os : Os) (started : os.Started) (H : Type) (enc : TypeId × Value → H) (F : Stop.Interp) :
    ReturnsInHanded {} Tryz.checked os 3 .any ((OpenSpec.ofChange Rows.moduleLimitsSpec).preRow enc Tryz.prog Tryz.f3 Rows.moduleLimitsRow.domain false Rows.moduleLimitsRow.laid) (((OpenSpec.ofChange Rows.moduleLimitsSpec).at F).post enc Tryz.prog Tryz.f3 false true false false) := by
  obtain ⟨places, hx⟩ := limits_reads os enc
  refine returnsInHanded_of_row (C := Tryz.checked) (s := OpenSpec.ofChange Rows.moduleLimitsSpec) own started (by kernel_rfl) Tryz.func3
    (witness_row_at (enc := enc) (C := Tryz.checked) false ({ World.holding Tryz.prog os ⟨#[], #[], []⟩ with heap := (World.holding Tryz.prog os ⟨#[], #[], []⟩).heap.modify 0 fun o => match o with | .cells _ t frozen => .cells #[.iface 172 (.agg #[.pointer (some ⟨5, 48, none⟩)])] t frozen | o => o } : World) #[.int .i64 0, .int .i64 0] rfl (by kernel_rfl) (by kernel_rfl) (by kernel_rfl)
      (OpenSpec.preRow_of_cond 8 hx (by kernel_rfl) (fun k hk => by cases hk) (by kernel_rfl) (limits_met os))) ?_
  intro W base args ds gs before hval hW _ _ _ hL _ _
  exact limits_contract H enc W base args ds gs before hval hW hL

theorem limits_said : Rows.ModuleLimitsSaid :=
  OpenClaim.holds_of_cond 3 Tryz.f3 rfl rfl rfl rfl rfl rfl rfl ⟨rfl, rfl, rfl, rfl, rfl⟩ rfl rfl rfl rfl rfl (by kernel_rfl) Tryz.func3 (by kernel_rfl)
    (of_decide_eq_true (by kernel_rfl)) (by unfold Func.isWrapper; first | (rw [if_pos (by decide +kernel)]; kernel_rfl) | (rw [if_neg (by decide +kernel)]; exact ⟨rfl, rfl⟩))
    (fun os started H enc _ F => by rw [OpenClaim.pre_eq_preRow]; exact limits_lifted os started H enc F)

theorem limits_plain (f : FuncId) (fn : Func) (hf : Tryz.pinned.checked.prog.funcNamed "keystone/keystonelaw5.ModuleLimits" = some f) (hfn : Tryz.pinned.checked.prog.funcs[f]? = some fn) :
    true = Tryz.pinned.checked.prog.looks [] ∧ ∀ (j : Nat) t, fn.params[j]? = some t → Tryz.pinned.checked.prog.wantsStandIn t = false := by
  obtain rfl : f = 3 := Option.some.inj ((show Tryz.prog.funcNamed "keystone/keystonelaw5.ModuleLimits" = some 3 by kernel_rfl).symm.trans hf) |>.symm
  obtain rfl : fn = Tryz.f3 := (Option.some.inj (Tryz.func3.symm.trans hfn)).symm
  refine ⟨by kernel_rfl, fun j t ht => ?_⟩
  rw [Tryz.params3] at ht
  have hm : t ∈ [3, 3] := by simpa using Array.mem_of_getElem? ht
  have hall : ([3, 3].all fun u => !Tryz.prog.wantsStandIn u) = true := by kernel_rfl
  exact (show Tryz.prog.wantsStandIn t = false by simpa using List.all_eq_true.1 hall t hm)

/-- The statement. -/
theorem limits_proved : Rows.ModuleLimitsCardSaid :=
  Claim7.holds_tied_plain_at .later [] _ _ _ _ limits_said (fun _ h => by cases h) (by kernel_rfl) (fun _ h => by cases h) moduleLimits_row_tie rfl ⟨rfl, rfl⟩ (by kernel_rfl) rfl limits_plain (by kernel_rfl)
#print axioms limits_proved
end Go.Proofs.YtildemmkhndhjaaGreatDoor
