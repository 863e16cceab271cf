/-
  The walk of CursorPieces: it answers true, and writes nothing that was there. The bytes that came in are at most 2 to the power of 47.
-/
import Derived.Test.YtgnbimoebaagfaaLNumbers
namespace Go.Proofs.Ytgnbimoebaagfaa
open Go.RowKit

theorem rem9 (x : Int) : -8 ≤ x.tmod 9 ∧ x.tmod 9 ≤ 8 := by
  have h1 := Int.tmod_lt_of_pos x (show (0 : Int) < 9 by decide)
  have h2 := Int.lt_tmod_of_pos x (show (0 : Int) < 9 by decide)
  omega

set_option maxHeartbeats 2000000 in
set_option maxRecDepth 100000 in
theorem pieces_walk {w : World} {ao lao : Option Addr} {bs : List UInt8} {ns : List Int} {cap d lcap ld : Nat} (hb : BS w ao bs d) (hn : ao = none → cap = 0) (hsz : bs.length ≤ 140737488351232) (hns : NS .i64 w lao ns ld) (hnsz : ns.length ≤ 140737488351232) :
    Calls Try.prog 7 #[.slice ao bs.length cap, .slice lao ns.length lcap] w fun e w' => e = .returned (.bool true) ∧ Below w.heap.size w w' := by
  go_enter Try.func7, Try.ntmps7
  go_wp2_with fail
  refine (known_any w).mono ?_
  rintro e w1 ⟨rfl, ho1⟩
  have hb1 := hb.only ho1 (by simp)
  go_wp2_with fail
  refine (newReader_any hb1 hn (by omega)).mono ?_
  rintro e w2 ⟨r, dr, rfl, hr2, ho2, a1, a2, a3⟩
  have b1 := hr2.lt
  have z1 := ho1.size
  have z2 := ho2.size
  have hO2 : Only [] w w2 := ho1.next ho2 (by simp)
  clear hb1 ho1 ho2
  go_wp2
  go_loopw [6, 7] (fun v i wr => ∃ j q : Nat, ∃ ao' cap', j ≤ ns.length ∧ i = .int .i64 (j : Int) ∧ q ≤ bs.length ∧ v = .slice ao' q cap' ∧ wr.ownsRow w2.heap.size 5 1 (.slice ao' q cap') q (bcs (bs.take q)) ∧ RdE wr r dr (bs.drop q, q, 0) ∧ Only [] w wr ∧ w2.heap.size ≤ wr.heap.size) (fun _ i _ => ns.length - (intOf i).toNat)
  case atStart => exact ⟨0, 0, none, 0, by omega, rfl, by omega, rfl, World.ownsRow_nil _ _ _ _, by simpa using hr2, hO2, Nat.le_refl _⟩
  case round =>
    obtain ⟨j, q, ao', cap', hj, rfl, hq, rfl, hown, hR, hO, hz⟩ := hrel
    obtain ⟨L, hLd⟩ : ∃ L, L = bs.drop q := ⟨_, rfl⟩
    have hsum : q + L.length = bs.length := by rw [hLd, List.length_drop]; omega
    rw [← hLd] at hR
    have HLd := hid hLd
    have HS := hid hsum
    have hs1 : q + L.length ≤ bs.length := by omega
    have hs2 : bs.length ≤ q + L.length := by omega
    clear hLd hsum
    by_cases hlt : j < ns.length
    · by_cases h200 : j < 200
      · have g1 : ((j : Int) < (ns.length : Int)) := by omega
        have g2 : ((j : Int) < 200) := by omega
        rcases hns.only hO (by simp) with hns' | ⟨off, rfl, hc⟩
        · rw [hns'] at hlt
          simp at hlt
        have hck := hc j hlt
        generalize ns[j] = x at *
        clear hc
        obtain ⟨y1, y2⟩ := rem9 x
        have HL := hid (left_any hR)
        by_cases hneg : x.tmod 9 < 0
        · obtain ⟨m, hmx⟩ : ∃ m : Nat, x.tmod 9 = -(m : Int) := ⟨(x.tmod 9).natAbs, by omega⟩
          have hpos : 0 < m := by omega
          have hm9 : m ≤ 8 := by omega
          clear hneg y1 y2
          by_cases hbrk : L.length < m
          · have g3 : ((L.length : Int) < (m : Int)) := by omega
            go_wp2_with fail
            refine HL.out.mono ?_
            rintro e w3 ⟨rfl, rfl⟩
            clear HL
            clear hn hns
            have HL := hid (left_any hR)
            have HB := bytes_any hR (L.length : Int) (by show L.length ≤ _; omega)
            have hrb : rBytes (L, q, 0) (L.length : Int) = (L, [], q + L.length, 0) := by
              unfold rBytes
              rw [if_neg (by omega), Int.toNat_natCast, rTake_ok _ _ _ (Nat.le_refl _), List.take_length, List.drop_length]
            rw [hrb] at HB
            have HB := hid HB
            clear hrb
            go_wp2_with fail
            refine HL.out.mono ?_
            rintro e w3 ⟨rfl, rfl⟩
            go_wp2_with fail
            refine HB.out.mono ?_
            rintro e w4 ⟨ao2, cap2, rfl, hown2, hR4, ho4⟩
            obtain ⟨hbs2, hc2, hm2, hn2, ha2⟩ := BS.of_owns hown2
            have hown4 := own_only hown ho4 (fun k hk => by simp; have := (hown.lt k hk).1; omega)
            have z4 := ho4.size
            go_wp2_with (at_builtin; refine wpList_append_bytes rfl (.tmp 63) (.tmp 67) rfl rfl rfl hown4 hbs2 hn2 (by omega) (by omega) ?_)
            intro ao3 cap3 w5 hown5 hgr5 _ _
            have hO5 : Only [] w w5 := (hO.next ho4 (by simp; omega)).next (Only.of_grown hgr5) (fun x hx => by
              have := (hown.lt x (by simpa using hx)).1
              omega)
            have hR5 : RdE w5 r dr ([], q + L.length, 0) := hR4.only (Only.of_grown hgr5) (fun hx => by have := (hown.lt r (by simpa using hx)).1; omega) (fun hx => by have := (hown.lt dr (by simpa using hx)).1; omega)
            have hall : bs.take q ++ L = bs := by rw [HLd.out, List.take_append_drop]
            rw [← bcs_append, hall] at hown5
            have hsum2 : q + L.length = bs.length := HS.out
            rw [hsum2] at hown5 ⊢
            obtain ⟨hbs5, _, _, _, _⟩ := BS.of_owns hown5
            have kc1 := conv_str hbs5 cap3
            have kc2 := conv_str (hb.only hO5 (by simp)) cap
            have HL5 := hid (left_any hR5)
            clear HB HL hall hsum2
            go_wp2_with fail
            refine HL5.out.mono ?_
            rintro e w6 ⟨rfl, rfl⟩
            go_wp2
            go_ret
            exact ⟨rfl, hO5.below (Nat.le_refl _) (by simp)⟩
          · have g3 : ¬ ((L.length : Int) < (m : Int)) := by omega
            have HB := bytes_any hR (m : Int) (by show L.length ≤ _; omega)
            have hrb : rBytes (L, q, 0) (m : Int) = (L.take m, L.drop m, q + m, 0) := by
              unfold rBytes
              rw [if_neg (by omega), Int.toNat_natCast, rTake_ok _ _ _ (by omega)]
            rw [hrb] at HB
            have hLm : (L.take m).length = m := by simp; omega
            have HB := hid HB
            clear hrb
            go_wp2_with fail
            refine HL.out.mono ?_
            rintro e w3 ⟨rfl, rfl⟩
            go_wp2_with fail
            refine HB.out.mono ?_
            rintro e w4 ⟨ao2, cap2, rfl, hown2, hR4, ho4⟩
            obtain ⟨hbs2, hc2, hm2, hn2, ha2⟩ := BS.of_owns hown2
            have hown4 := own_only hown ho4 (fun k hk => by simp; have := (hown.lt k hk).1; omega)
            have z4 := ho4.size
            go_wp2_with (at_builtin; refine wpList_append_bytes rfl (.tmp 38) (.tmp 41) rfl rfl (by rw [hLm]; rfl) hown4 hbs2 hn2 (by omega) (by omega) ?_)
            intro ao3 cap3 w5 hown5 hgr5 _ _
            have hO5 : Only [] w w5 := (hO.next ho4 (by simp; omega)).next (Only.of_grown hgr5) (fun x hx => by
              have := (hown.lt x (by simpa using hx)).1
              omega)
            have z5 := (Only.of_grown hgr5).size
            have hR5 : RdE w5 r dr (L.drop m, q + m, 0) := hR4.only (Only.of_grown hgr5) (fun hx => by have := (hown.lt r (by simpa using hx)).1; omega) (fun hx => by have := (hown.lt dr (by simpa using hx)).1; omega)
            have hdl : (L.drop m).length = L.length - m := List.length_drop
            have HA5 := hid (at_any hR5)
            have HL5 := hid (left_any hR5)
            have HE5 := hid (err_any hR5)
            have hdr : L.drop m = bs.drop (q + m) := by rw [HLd.out, List.drop_drop]
            have HDR := hid hdr
            have htk : bs.take q ++ L.take m = bs.take (q + m) := by rw [HLd.out, List.take_add]
            rw [← bcs_append, htk] at hown5
            have t1 : q + m + (L.drop m).length ≤ bs.length := by omega
            have t2 : bs.length ≤ q + m + (L.drop m).length := by omega
            clear HB HL hdr htk hdl
            generalize L.drop m = M at *
            go_wp2_with fail
            refine HA5.out.mono ?_
            rintro e w6 ⟨rfl, rfl⟩
            go_wp2_with fail
            refine HL5.out.mono ?_
            rintro e w6 ⟨rfl, rfl⟩
            go_wp2_with fail
            refine HA5.out.mono ?_
            rintro e w6 ⟨rfl, rfl⟩
            go_wp2_with fail
            refine HE5.out.mono ?_
            rintro e w6 ⟨rfl, rfl⟩
            go_wp2
            refine ⟨⟨j + 1, q + m, ao3, cap3, by omega, by go_num, by omega, rfl, hown5, ?_, hO5, by omega⟩, by simp [intOf]; omega⟩
            rw [← HDR.out]
            exact hR5
        · obtain ⟨m, hmx⟩ : ∃ m : Nat, x.tmod 9 = (m : Int) := ⟨(x.tmod 9).natAbs, by omega⟩
          have hm9 : m ≤ 8 := by omega
          clear hneg y1 y2
          by_cases hbrk : L.length < m
          · have g3 : ((L.length : Int) < (m : Int)) := by omega
            go_wp2_with fail
            refine HL.out.mono ?_
            rintro e w3 ⟨rfl, rfl⟩
            clear HL
            clear hn hns
            have HL := hid (left_any hR)
            have HB := bytes_any hR (L.length : Int) (by show L.length ≤ _; omega)
            have hrb : rBytes (L, q, 0) (L.length : Int) = (L, [], q + L.length, 0) := by
              unfold rBytes
              rw [if_neg (by omega), Int.toNat_natCast, rTake_ok _ _ _ (Nat.le_refl _), List.take_length, List.drop_length]
            rw [hrb] at HB
            have HB := hid HB
            clear hrb
            go_wp2_with fail
            refine HL.out.mono ?_
            rintro e w3 ⟨rfl, rfl⟩
            go_wp2_with fail
            refine HB.out.mono ?_
            rintro e w4 ⟨ao2, cap2, rfl, hown2, hR4, ho4⟩
            obtain ⟨hbs2, hc2, hm2, hn2, ha2⟩ := BS.of_owns hown2
            have hown4 := own_only hown ho4 (fun k hk => by simp; have := (hown.lt k hk).1; omega)
            have z4 := ho4.size
            go_wp2_with (at_builtin; refine wpList_append_bytes rfl (.tmp 63) (.tmp 67) rfl rfl rfl hown4 hbs2 hn2 (by omega) (by omega) ?_)
            intro ao3 cap3 w5 hown5 hgr5 _ _
            have hO5 : Only [] w w5 := (hO.next ho4 (by simp; omega)).next (Only.of_grown hgr5) (fun x hx => by
              have := (hown.lt x (by simpa using hx)).1
              omega)
            have hR5 : RdE w5 r dr ([], q + L.length, 0) := hR4.only (Only.of_grown hgr5) (fun hx => by have := (hown.lt r (by simpa using hx)).1; omega) (fun hx => by have := (hown.lt dr (by simpa using hx)).1; omega)
            have hall : bs.take q ++ L = bs := by rw [HLd.out, List.take_append_drop]
            rw [← bcs_append, hall] at hown5
            have hsum2 : q + L.length = bs.length := HS.out
            rw [hsum2] at hown5 ⊢
            obtain ⟨hbs5, _, _, _, _⟩ := BS.of_owns hown5
            have kc1 := conv_str hbs5 cap3
            have kc2 := conv_str (hb.only hO5 (by simp)) cap
            have HL5 := hid (left_any hR5)
            clear HB HL hall hsum2
            go_wp2_with fail
            refine HL5.out.mono ?_
            rintro e w6 ⟨rfl, rfl⟩
            go_wp2
            go_ret
            exact ⟨rfl, hO5.below (Nat.le_refl _) (by simp)⟩
          · have g3 : ¬ ((L.length : Int) < (m : Int)) := by omega
            have HB := bytes_any hR (m : Int) (by show L.length ≤ _; omega)
            have hrb : rBytes (L, q, 0) (m : Int) = (L.take m, L.drop m, q + m, 0) := by
              unfold rBytes
              rw [if_neg (by omega), Int.toNat_natCast, rTake_ok _ _ _ (by omega)]
            rw [hrb] at HB
            have hLm : (L.take m).length = m := by simp; omega
            have HB := hid HB
            clear hrb
            go_wp2_with fail
            refine HL.out.mono ?_
            rintro e w3 ⟨rfl, rfl⟩
            go_wp2_with fail
            refine HB.out.mono ?_
            rintro e w4 ⟨ao2, cap2, rfl, hown2, hR4, ho4⟩
            obtain ⟨hbs2, hc2, hm2, hn2, ha2⟩ := BS.of_owns hown2
            have hown4 := own_only hown ho4 (fun k hk => by simp; have := (hown.lt k hk).1; omega)
            have z4 := ho4.size
            go_wp2_with (at_builtin; refine wpList_append_bytes rfl (.tmp 38) (.tmp 41) rfl rfl (by rw [hLm]; rfl) hown4 hbs2 hn2 (by omega) (by omega) ?_)
            intro ao3 cap3 w5 hown5 hgr5 _ _
            have hO5 : Only [] w w5 := (hO.next ho4 (by simp; omega)).next (Only.of_grown hgr5) (fun x hx => by
              have := (hown.lt x (by simpa using hx)).1
              omega)
            have z5 := (Only.of_grown hgr5).size
            have hR5 : RdE w5 r dr (L.drop m, q + m, 0) := hR4.only (Only.of_grown hgr5) (fun hx => by have := (hown.lt r (by simpa using hx)).1; omega) (fun hx => by have := (hown.lt dr (by simpa using hx)).1; omega)
            have hdl : (L.drop m).length = L.length - m := List.length_drop
            have HA5 := hid (at_any hR5)
            have HL5 := hid (left_any hR5)
            have HE5 := hid (err_any hR5)
            have hdr : L.drop m = bs.drop (q + m) := by rw [HLd.out, List.drop_drop]
            have HDR := hid hdr
            have htk : bs.take q ++ L.take m = bs.take (q + m) := by rw [HLd.out, List.take_add]
            rw [← bcs_append, htk] at hown5
            have t1 : q + m + (L.drop m).length ≤ bs.length := by omega
            have t2 : bs.length ≤ q + m + (L.drop m).length := by omega
            clear HB HL hdr htk hdl
            generalize L.drop m = M at *
            go_wp2_with fail
            refine HA5.out.mono ?_
            rintro e w6 ⟨rfl, rfl⟩
            go_wp2_with fail
            refine HL5.out.mono ?_
            rintro e w6 ⟨rfl, rfl⟩
            go_wp2_with fail
            refine HA5.out.mono ?_
            rintro e w6 ⟨rfl, rfl⟩
            go_wp2_with fail
            refine HE5.out.mono ?_
            rintro e w6 ⟨rfl, rfl⟩
            go_wp2
            refine ⟨⟨j + 1, q + m, ao3, cap3, by omega, by go_num, by omega, rfl, hown5, ?_, hO5, by omega⟩, by simp [intOf]; omega⟩
            rw [← HDR.out]
            exact hR5
      · have g1 : ((j : Int) < (ns.length : Int)) := by omega
        have g2 : ¬ ((j : Int) < 200) := by omega
        clear hn hns
        have HL := hid (left_any hR)
        have HB := bytes_any hR (L.length : Int) (by show L.length ≤ _; omega)
        have hrb : rBytes (L, q, 0) (L.length : Int) = (L, [], q + L.length, 0) := by
          unfold rBytes
          rw [if_neg (by omega), Int.toNat_natCast, rTake_ok _ _ _ (Nat.le_refl _), List.take_length, List.drop_length]
        rw [hrb] at HB
        have HB := hid HB
        clear hrb
        go_wp2_with fail
        refine HL.out.mono ?_
        rintro e w3 ⟨rfl, rfl⟩
        go_wp2_with fail
        refine HB.out.mono ?_
        rintro e w4 ⟨ao2, cap2, rfl, hown2, hR4, ho4⟩
        obtain ⟨hbs2, hc2, hm2, hn2, ha2⟩ := BS.of_owns hown2
        have hown4 := own_only hown ho4 (fun k hk => by simp; have := (hown.lt k hk).1; omega)
        have z4 := ho4.size
        go_wp2_with (at_builtin; refine wpList_append_bytes rfl (.tmp 63) (.tmp 67) rfl rfl rfl hown4 hbs2 hn2 (by omega) (by omega) ?_)
        intro ao3 cap3 w5 hown5 hgr5 _ _
        have hO5 : Only [] w w5 := (hO.next ho4 (by simp; omega)).next (Only.of_grown hgr5) (fun x hx => by
          have := (hown.lt x (by simpa using hx)).1
          omega)
        have hR5 : RdE w5 r dr ([], q + L.length, 0) := hR4.only (Only.of_grown hgr5) (fun hx => by have := (hown.lt r (by simpa using hx)).1; omega) (fun hx => by have := (hown.lt dr (by simpa using hx)).1; omega)
        have hall : bs.take q ++ L = bs := by rw [HLd.out, List.take_append_drop]
        rw [← bcs_append, hall] at hown5
        have hsum2 : q + L.length = bs.length := HS.out
        rw [hsum2] at hown5 ⊢
        obtain ⟨hbs5, _, _, _, _⟩ := BS.of_owns hown5
        have kc1 := conv_str hbs5 cap3
        have kc2 := conv_str (hb.only hO5 (by simp)) cap
        have HL5 := hid (left_any hR5)
        clear HB HL hall hsum2
        go_wp2_with fail
        refine HL5.out.mono ?_
        rintro e w6 ⟨rfl, rfl⟩
        go_wp2
        go_ret
        exact ⟨rfl, hO5.below (Nat.le_refl _) (by simp)⟩
    · have g1 : ¬ ((j : Int) < (ns.length : Int)) := by omega
      clear hn hns
      have HL := hid (left_any hR)
      have HB := bytes_any hR (L.length : Int) (by show L.length ≤ _; omega)
      have hrb : rBytes (L, q, 0) (L.length : Int) = (L, [], q + L.length, 0) := by
        unfold rBytes
        rw [if_neg (by omega), Int.toNat_natCast, rTake_ok _ _ _ (Nat.le_refl _), List.take_length, List.drop_length]
      rw [hrb] at HB
      have HB := hid HB
      clear hrb
      go_wp2_with fail
      refine HL.out.mono ?_
      rintro e w3 ⟨rfl, rfl⟩
      go_wp2_with fail
      refine HB.out.mono ?_
      rintro e w4 ⟨ao2, cap2, rfl, hown2, hR4, ho4⟩
      obtain ⟨hbs2, hc2, hm2, hn2, ha2⟩ := BS.of_owns hown2
      have hown4 := own_only hown ho4 (fun k hk => by simp; have := (hown.lt k hk).1; omega)
      have z4 := ho4.size
      go_wp2_with (at_builtin; refine wpList_append_bytes rfl (.tmp 63) (.tmp 67) rfl rfl rfl hown4 hbs2 hn2 (by omega) (by omega) ?_)
      intro ao3 cap3 w5 hown5 hgr5 _ _
      have hO5 : Only [] w w5 := (hO.next ho4 (by simp; omega)).next (Only.of_grown hgr5) (fun x hx => by
        have := (hown.lt x (by simpa using hx)).1
        omega)
      have hR5 : RdE w5 r dr ([], q + L.length, 0) := hR4.only (Only.of_grown hgr5) (fun hx => by have := (hown.lt r (by simpa using hx)).1; omega) (fun hx => by have := (hown.lt dr (by simpa using hx)).1; omega)
      have hall : bs.take q ++ L = bs := by rw [HLd.out, List.take_append_drop]
      rw [← bcs_append, hall] at hown5
      have hsum2 : q + L.length = bs.length := HS.out
      rw [hsum2] at hown5 ⊢
      obtain ⟨hbs5, _, _, _, _⟩ := BS.of_owns hown5
      have kc1 := conv_str hbs5 cap3
      have kc2 := conv_str (hb.only hO5 (by simp)) cap
      have HL5 := hid (left_any hR5)
      clear HB HL hall hsum2
      go_wp2_with fail
      refine HL5.out.mono ?_
      rintro e w6 ⟨rfl, rfl⟩
      go_wp2
      go_ret
      exact ⟨rfl, hO5.below (Nat.le_refl _) (by simp)⟩

end Go.Proofs.Ytgnbimoebaagfaa
