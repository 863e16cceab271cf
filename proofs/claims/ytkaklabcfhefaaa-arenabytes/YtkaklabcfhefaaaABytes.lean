/-
  The walk of ArenaBytes. No conditions beyond the arguments' own shape.
-/
import Derived.Test.YtkaklabcfhefaaaANum
import Derived.Test.YtkaklabcfhefaaaAFreshP
import Derived.Deep.CutRange
import Derived.Deep.CutBlock
namespace Go.Proofs.Ytkaklabcfhefaaa
open Go.RowKit

set_option linter.unusedSimpArgs false

theorem few_st' {W : World} {N : Nat → Prop} {a : Nat} {s : St} (h : Ar W N a s.sw) : s.l.length ≤ 65536 ∧ 8 * (flW s.l).length ≤ 1048576 := by
  have h1 := few_obs s.l
  have h2 : 8 * (flW s.l).length ≤ s.m := h.ok.fit
  have h3 : s.m ≤ 1048576 := h.ok.m1
  exact ⟨by omega, by omega⟩

theorem putS_lens (s : St) (x k v : Int) : lens (putS s x k v).1.l = lens s.l := by
  unfold putS
  cases h : findP s.l x with
  | none => rfl
  | some j =>
    have hj := (findP_some h).1
    simp only [List.getElem?_eq_getElem hj]
    split
    · exact lens_set _ _ _ hj (by simp)
    · rfl

theorem get_at (l : List Ob) (i k : Nat) (hi : i < l.length) (hk : k < l[i].2.length) : getP l (8 * (ofs l i : Int) + 8) (k : Int) = (l[i].2[k], 0) := by
  unfold getP
  rw [findP_at hi]
  simp only [List.getElem?_eq_getElem hi]
  rw [if_pos (by omega)]
  simp [hk]
theorem slots_of (l : List Ob) (i : Nat) (hi : i < l.length) : slotsP l (8 * (ofs l i : Int) + 8) = ((l[i].2.length : Int), 0) := by
  unfold slotsP
  rw [findP_at hi]
  simp only [List.getElem?_eq_getElem hi]
theorem kind_of (l : List Ob) (i : Nat) (hi : i < l.length) : kindP l (8 * (ofs l i : Int) + 8) = (l[i].1, 0) := by
  unfold kindP
  rw [findP_at hi]
  simp only [List.getElem?_eq_getElem hi]

theorem keepB {W w' : World} {M : Nat → Prop} {Inv : World → Prop} {p1 p2 p3 p4 : Addr} {u1 u2 u3 u4 : Value} (h : W.cell? p1 = some u1 ∧ W.cell? p2 = some u2 ∧ W.cell? p3 = some u3 ∧ W.cell? p4 = some u4 ∧ Inv W) (hI : Inv w') (hK : Kep M W w') (m1 : M p1.block) (m4 : M p4.block) (e2 : p2.block = p1.block := by rfl) (e3 : p3.block = p1.block := by rfl) :
    w'.cell? p1 = some u1 ∧ w'.cell? p2 = some u2 ∧ w'.cell? p3 = some u3 ∧ w'.cell? p4 = some u4 ∧ Inv w' :=
  ⟨hK.cell h.1 m1, hK.cell h.2.1 (by rw [e2]; exact m1), hK.cell h.2.2.1 (by rw [e3]; exact m1), hK.cell h.2.2.2.1 m4, hI⟩

set_option maxRecDepth 20000 in
set_option maxHeartbeats 16000000 in
theorem bytes_any {w : World} (x : Int) (_hx : i64 x) {ao : Option Addr} {L : List Cl} {cap d : Nat} (hL : ClS w ao L d) (hl : L.length ≤ 9223372036854775807) :
    Calls Try.prog 7 #[.int .i64 x, .slice ao L.length cap] w fun e w' => e = .returned (.bool true) ∧ Only [] w w' := by
  have hdL : L ≠ [] → d < w.heap.size := fun hn => hL.rs.lt (fun e => hn (List.eq_nil_of_length_eq_zero (by have := congrArg List.length e; rw [clz_length] at this; simp only [List.length_nil] at this; omega)))
  have hKn := hid (known15 w)
  have hMd := hid (fun W (ho : Only [] w W) => made_any (N := fun b => b < w.heap.size) (fun b hb => Nat.lt_of_lt_of_le hb ho.size) x (cap := cap) (hL.kep (Kep.of0 (N := fun b => b < w.heap.size) ho) hdL) hdL hl)
  obtain ⟨S, hS⟩ : ∃ S, S = madeTo (256 + (x % 8000).toNat) L (min 60 L.length) := ⟨_, rfl⟩
  rw [← hS] at hMd
  clear hS
  obtain ⟨N, hN⟩ : ∃ N : Nat → Prop, N = fun b => b < w.heap.size := ⟨_, rfl⟩
  have hNd : L ≠ [] → N d := by rw [hN]; exact hdL
  rw [← hN] at hMd
  replace hN := hid hN
  have hW := hid within_at
  go_enter Try.func7, Try.ntmps7
  go_upto_block 0 with (first
    | (go_at_call 9; refine hKn.out.mono ?_; rintro e w1 ⟨rfl, ho1⟩; replace ho1 := hid ho1)
    | (go_at_call 22; refine (hMd.out _ ho1.out).mono ?_; rintro e w2 ⟨rfl, A1, K1⟩; have hA := hid (All_ar A1); replace A1 := hid A1; replace K1 := hid ((Kep.of0 ho1.out).trans K1))
    | (go_at_call 23; refine hA.out.mono ?_; rintro e w3 ⟨bo, bc, bd, M, rfl, hR, hMb, hNM, A2, o2, _⟩; replace hR := hid hR; replace A2 := hid A2; replace K2 := hid (K1.out.trans (.of0 o2)); replace hNM := hid hNM))
  obtain ⟨hlen, hfew⟩ := few_st' A2.out
  clear hMd hKn hA A1 K1
  generalize w1.heap.size = a at *
  clear ho1
  go_cut [] from 29 to 69 (fun wx => ∃ P : St, Hid (lens P.l = lens S.l) ∧ Hid (Ar wx M a P.sw) ∧ Hid (Kep M w3 wx))
  case first =>
   go_wp2_with fail
   go_loopw [7] (fun i wr => ∃ j : Nat, j ≤ min 60 L.length ∧ i = .int .i64 (j : Int) ∧ ∃ P : St, Hid (lens P.l = lens S.l) ∧ Hid (Ar wr M a P.sw) ∧ Hid (Kep M w3 wr)) (fun i _ => 60 - (intOf i).toNat)
   case atStart => exact ⟨0, Nat.zero_le _, rfl, S, hid rfl, A2, hid (Kep.refl _ _)⟩
   case round =>
     obtain ⟨j, hj, rfl, P, hP, hA, hK⟩ := hrel
     clear A2
     by_cases hlt : (j < L.length ∧ j < 60) ∧ 0 < S.l.length
     · obtain ⟨⟨h1, h2⟩, h3⟩ := hlt
       obtain ⟨off, rfl, _, c1, c2, _, c4⟩ := (hL.kep ((K2.out.trans (hK.out.mono hNM.out))) hNd).at h1
       obtain ⟨_, q1, q2, _, q4⟩ := hL.all _ (List.getElem_mem h1)
       have i1 : (j : Int) < (L.length : Int) := by omega
       have i2 : (j : Int) < 60 := by omega
       have i3 : 0 < (S.l.length : Int) := by omega
       rw [Nat.mul_comm 5 j] at c1 c2 c4
       have hne : S.l ≠ [] := fun e => by rw [e] at h3; simp at h3
       obtain ⟨g, hg⟩ : ∃ g : Nat, L[j].2.1 % (S.l.length : Int) = (g : Int) := ⟨(L[j].2.1 % (S.l.length : Int)).toNat, by have := Int.emod_nonneg L[j].2.1 (show (S.l.length : Int) ≠ 0 by omega); omega⟩
       have hglt : g < S.l.length := by have := Int.emod_lt_of_pos L[j].2.1 i3; omega
       have hgl : g < (adrP S.l).length := by rw [adrP_length]; exact hglt
       obtain ⟨off2, rfl, hc⟩ := (hR.out.kep hK.out (fun _ => hMb hne)).at (j := g) (by rw [ics_length]; omega)
       have c5 := hc g _ (ics_get _ g hgl)
       rw [adrP_get] at c5
       clear hc
       have i4 : (g : Int) < (S.l.length : Int) := by omega
       have hend := ofs_end S.l g hglt
       have b0 : 0 ≤ L[j].2.2.1 % 21 := Int.emod_nonneg _ (by decide)
       have b1 : L[j].2.2.1 % 21 < 21 := Int.emod_lt_of_pos _ (by decide)
       have hW1 := hid (fun W => (hW.out L[j].2.1 (S.l.length : Int) ⟨i3, by omega⟩ W).mono (R' := fun e w' => e = .returned (.int .i64 (g : Int)) ∧ W = w') (fun e w' ⟨z1, z2⟩ => ⟨by rw [z1, hg], z2⟩))
       have hW2 := hid (fun W => hW.out L[j].2.2.1 21 ⟨by decide, by decide⟩ W)
       obtain ⟨Inv, hInv⟩ : ∃ Inv : World → Prop, Inv = fun W => (∃ P' : St, lens P'.l = lens S.l ∧ Ar W M a P'.sw) ∧ Kep M w3 W := ⟨_, rfl⟩
       have hI0 : Inv wr.drew := by rw [hInv]; exact ⟨⟨P, hP.out, hA.out.only0 (Only.refl _ _).drew⟩, hK.out.trans (.of0 (Only.refl _ _).drew)⟩
       have hPt := hid (fun W (hI : Inv W) => show Calls Try.prog 26 #[.pointer (some ⟨a, 0, none⟩), .int .i64 (8 * (ofs S.l g : Int) + 8), .int .i64 (L[j].2.2.1 % 21), .int .i64 L[j].2.2.2.2] W fun e w' => (∃ err, e = .returned (.int .i64 err)) ∧ Inv w' ∧ Kep M W w' from by
         rw [hInv] at hI ⊢
         obtain ⟨⟨P', hl', hA'⟩, hK'⟩ := hI
         exact (Put_any hA' (8 * (ofs S.l g : Int) + 8) (L[j].2.2.1 % 21) L[j].2.2.2.2 ⟨by omega, by omega⟩ ⟨by omega, by omega⟩ q4).mono fun e w' ⟨z1, z2, z3⟩ => ⟨⟨_, z1⟩, ⟨⟨_, (putS_lens P' _ _ _).trans hl', z2⟩, hK'.trans z3⟩, z3⟩)
       have hout : Hid (∀ W, Inv W → (∃ P' : St, Hid (lens P'.l = lens S.l) ∧ Hid (Ar W M a P'.sw) ∧ Hid (Kep M w3 W))) := by
         intro W hI
         rw [hInv] at hI
         obtain ⟨⟨P', z1, z2⟩, z3⟩ := hI
         exact ⟨P', z1, z2, z3⟩
       clear hInv q1 q2 q4 b0 b1 hg hend hA hK hP
       have mM : M d := hNM.out d (hNd (fun e => by rw [e] at h1; simp at h1))
       have mB : M bd := hMb hne
       generalize L[j].2.2.1 % 21 = n at *
       generalize L[j].2.2.1 = mm at *
       generalize L[j].2.1 = m1 at *
       generalize L[j].2.2.2.2 = vv at *
       generalize 8 * (ofs S.l g : Int) + 8 = y at *
       have hS0 : wr.drew.cell? ⟨d, off + j * 5 + 1, none⟩ = some (.int .i64 m1) ∧ wr.drew.cell? ⟨d, off + j * 5 + 2, none⟩ = some (.int .i64 mm) ∧ wr.drew.cell? ⟨d, off + j * 5 + 4, none⟩ = some (.int .i64 vv) ∧ wr.drew.cell? ⟨bd, off2 + g, none⟩ = some (.int .i64 y) ∧ Inv wr.drew := ⟨c1, c2, c4, c5, hI0⟩
       clear c1 c2 c4 c5 hI0
       go_wp2
       go_region_held3 (fun w' => w'.cell? ⟨d, off + j * 5 + 1, none⟩ = some (.int .i64 m1) ∧ w'.cell? ⟨d, off + j * 5 + 2, none⟩ = some (.int .i64 mm) ∧ w'.cell? ⟨d, off + j * 5 + 4, none⟩ = some (.int .i64 vv) ∧ w'.cell? ⟨bd, off2 + g, none⟩ = some (.int .i64 y) ∧ Inv w')
         (first | (with_reducible assumption) | exact keepB (by assumption) (by assumption) (by assumption) mM mB)
         (first
         | (go_at_call 18; with_reducible refine (hW1.out _).mono ?_; rintro e w7 ⟨rfl, rfl⟩)
         | (go_at_call 18; with_reducible refine (hW2.out _).mono ?_; rintro e w7 ⟨rfl, rfl⟩)
         | (go_at_call 26; with_reducible refine (hPt.out _ hS0.2.2.2.2).mono ?_; rintro e w8 ⟨⟨err, rfl⟩, hI8, hK8⟩))
       rename_i hSe
       obtain ⟨_, _, _, _, hI9⟩ := hSe
       obtain ⟨P', z1, z2, z3⟩ := hout.out _ hI9
       go_wp2
       exact ⟨⟨j + 1, by omega, by go_num, P', z1, z2, z3⟩, by simp [intOf]; omega⟩
     · have hcase : (¬ j < L.length) ∨ (j < L.length ∧ ¬ j < 60) ∨ ((j < L.length ∧ j < 60) ∧ S.l.length = 0) := by omega
       clear hlt hj
       rcases hcase with g1 | ⟨g1, g2⟩ | ⟨⟨g1, g2⟩, g3⟩
       all_goals
         first
         | (have i1 : (j : Int) < (L.length : Int) := by omega)
         | (have i1 : ¬ (j : Int) < (L.length : Int) := by omega)
         try first
         | (have i2 : (j : Int) < 60 := by omega)
         | (have i2 : ¬ (j : Int) < 60 := by omega)
         try (have i3 : ¬ 0 < (S.l.length : Int) := by omega)
         replace g1 := hid g1
         try replace g3 := hid g3
         go_wp2
         go_meet
         exact ⟨P, hP, hA, hK⟩
  case rest =>
    obtain ⟨P, hP, hA, hK⟩ := hcut
    clear A2
    have hB := hid (Bytes_ar hA.out)
    obtain ⟨hlenP, hfewP⟩ := few_st' hA.out
    have hallP : ∀ u ∈ flW P.l, i64 u := hA.out.ok.all
    have hPl := lens_length hP.out
    have hadr : adrP S.l = adrP P.l := by
      unfold adrP adrTo
      rw [hPl]
      refine List.map_congr_left fun q _ => ?_
      rw [ofs_lens _ _ hP.out]
    have hRw := hR.out.kep hK.out (fun hn => hMb (fun e => hn (by rw [e]; rfl)))
    rw [hadr] at hRw
    replace hRw := hid hRw
    have hKall := hid (K2.out.trans (hK.out.mono hNM.out))
    clear hR hadr hP hA
    rw [← hPl] at hlen ⊢
    have hU := hid (fun W (h : HfE W a 0 (flW P.l) (flH P.l)) => (Used_any h).mono (R' := fun e w' => e = .returned (.int .i64 ((8 * (flW P.l).length : Nat) : Int)) ∧ W = w') (fun e w' ⟨z1, z2⟩ => ⟨z1, z2.symm⟩))
    go_wp2_with (first
      | (go_at_call 21; refine hB.out.mono ?_; rintro e w5 ⟨b5, k5, d5, M5, rfl, hR5, _, _, A5, o5, _⟩; replace A5 := hid A5; replace hR5 := hid hR5; replace o5 := hid o5; replace hRw := hid (hRw.out.only0 o5.out))
      | (go_at_call 20; refine (hU.out _ A5.out.used).mono ?_; rintro e w6 ⟨rfl, rfl⟩))
    clear hU hB
    go_loopw [9, 10] (fun v i wr => ∃ q : Nat, q ≤ P.l.length ∧ i = .int .i64 (q : Int) ∧ v = .int .i64 (8 * (ofs P.l q : Int)) ∧ Hid (Only [] w5 wr)) (fun _ i _ => P.l.length - (intOf i).toNat)
    case atStart => exact ⟨0, Nat.zero_le _, rfl, by rw [ofs_zero]; rfl, hid (Only.refl _ _)⟩
    case round =>
      obtain ⟨q, hq, rfl, rfl, hO9⟩ := hrel
      have A9 := hid (A5.out.only0 hO9.out)
      have hR9 := hid (RS.only0 hR5.out hO9.out)
      have hRw9 := hid (RS.only0 hRw.out hO9.out)
      by_cases hq2 : q < P.l.length
      · have i5 : (q : Int) < (P.l.length : Int) := by omega
        have hql : q < (adrP P.l).length := by rw [adrP_length]; exact hq2
        obtain ⟨off, rfl, hc⟩ := hRw9.out.at (j := q) (by rw [ics_length]; omega)
        have c1 := hc q _ (ics_get _ q hql)
        rw [adrP_get] at c1
        clear hc
        have hend := ofs_end P.l q hq2
        have hsucc := ofs_succ P.l q hq2
        have hX : i64 (8 * (ofs P.l q : Int) + 8) := ⟨by omega, by omega⟩
        have hSl0 := fun n => Slots_any (l := P.l) (A9.out.only0 (only_drewN wr n)).used (8 * (ofs P.l q : Int) + 8) hX
        have hKd0 := fun W (ho : Only [] wr W) => Kind_any (l := P.l) (A9.out.only0 ho).used (8 * (ofs P.l q : Int) + 8) hX
        simp only [slots_of P.l q hq2] at hSl0
        simp only [kind_of P.l q hq2] at hKd0
        have hw0 := flW_kind P.l q hq2
        have hw1 := flW_slots P.l q hq2
        rw [List.getElem?_eq_getElem (by omega)] at hw0 hw1
        have hN1 := hid (fun W (ho : Only [] wr W) => (lnumber_any (RS.only0 hR9.out ho) hallP hfewP (ofs P.l q) (by omega) (8 * (flW P.l).length) k5 rfl (8 * (ofs P.l q : Int)) (by omega)).mono (R' := fun e w' => e = .returned (.int .i64 P.l[q].1) ∧ W = w') (fun e w' ⟨z1, z2⟩ => ⟨by rw [z1, Option.some.inj hw0], z2⟩))
        have hN2 := hid (fun W (ho : Only [] wr W) => (lnumber_any (RS.only0 hR9.out ho) hallP hfewP (ofs P.l q + 1) (by omega) (8 * (flW P.l).length) k5 rfl (8 * (ofs P.l q : Int) + 8) (by omega)).mono (R' := fun e w' => e = .returned (.int .i64 (P.l[q].2.length : Int)) ∧ W = w') (fun e w' ⟨z1, z2⟩ => ⟨by rw [z1, Option.some.inj hw1], z2⟩))
        have hSl := hid hSl0
        have hKd := hid hKd0
        clear hSl0 hKd0 hw0 hw1
        have j0 : 0 ≤ (ofs P.l q : Int) := by omega
        have j1 : (ofs P.l q : Int) + (P.l[q].2.length : Int) + 2 ≤ ((flW P.l).length : Int) := by omega
        have j2 : 8 * ((flW P.l).length : Int) ≤ 1048576 := by omega
        replace hend := hid hend
        replace hsucc := hid hsucc
        go_wp2
        go_quiet (first | (go_at_call 24; exact Calls.quiet_of (hSl.out _)) | fail)
        go_wp2
        go_region_with (go_at_call 28; with_reducible refine (hKd.out _ (by repeat (first | with_reducible exact Only.refl _ _ | with_reducible refine Only.drew ?_ | with_reducible refine onlyN ?_ _))).mono ?_; rintro e w6 ⟨rfl, n6, rfl⟩)
        go_wp2_with (first
          | (go_at_call 30; with_reducible refine (hN1.out _ (by repeat (first | with_reducible exact Only.refl _ _ | with_reducible refine Only.drew ?_ | with_reducible refine onlyN ?_ _))).mono ?_; rintro e w6 ⟨rfl, rfl⟩)
          | (go_at_call 30; with_reducible refine (hN2.out _ (by repeat (first | with_reducible exact Only.refl _ _ | with_reducible refine Only.drew ?_ | with_reducible refine onlyN ?_ _))).mono ?_; rintro e w6 ⟨rfl, rfl⟩))
        clear c1 hSl hKd hN1 hN2
        go_loopw [15] (fun i wx => ∃ g : Nat, g ≤ P.l[q].2.length ∧ i = .int .i64 (g : Int) ∧ Hid (Only [] w5 wx)) (fun i _ => P.l[q].2.length - (intOf i).toNat)
        case atStart => exact ⟨0, Nat.zero_le _, rfl, hid (Only.trans (S' := []) hO9.out (by repeat (first | with_reducible exact Only.refl _ _ | with_reducible refine Only.drew ?_ | with_reducible refine onlyN ?_ _)) (by simp))⟩
        case round =>
          clear A9 hR9 hRw9 hO9
          obtain ⟨g, hg, rfl, hO9⟩ := hrel
          have A9 := hid (A5.out.only0 hO9.out)
          have hR9 := hid (RS.only0 hR5.out hO9.out)
          by_cases hg2 : g < P.l[q].2.length
          · have i6 : (g : Int) < (P.l[q].2.length : Int) := by omega
            obtain ⟨off3, hoff3, hc⟩ := (RS.only0 hRw.out hO9.out).at (j := q) (by rw [ics_length]; omega)
            obtain rfl : off = off3 := by simpa using hoff3
            have c1 := hc q _ (ics_get _ q hql)
            rw [adrP_get] at c1
            clear hc hoff3
            have hG0 := fun n => Get_any (l := P.l) (A9.out.only0 (only_drewN wr n)).used (8 * (ofs P.l q : Int) + 8) (g : Int) hX ⟨by omega, by omega⟩
            simp only [get_at P.l q g hq2 hg2] at hG0
            have hw0 := flW_slot P.l q g hq2 hg2
            rw [List.getElem?_eq_getElem (by omega)] at hw0
            have hN1 := hid (fun W (ho : Only [] wr W) => (lnumber_any (RS.only0 hR9.out ho) hallP hfewP (ofs P.l q + 2 + g) (by omega) (8 * (flW P.l).length) k5 rfl (8 * (ofs P.l q : Int) + 16 + 8 * (g : Int)) (by omega)).mono (R' := fun e w' => e = .returned (.int .i64 P.l[q].2[g]) ∧ W = w') (fun e w' ⟨z1, z2⟩ => ⟨by rw [z1, Option.some.inj hw0], z2⟩))
            have hG := hid hG0
            clear hG0 hw0
            generalize P.l[q].2[g] = val at *
            go_wp2
            go_quiet (first | (go_at_call 25; exact Calls.quiet_of (hG.out _)) | fail)
            go_wp2_with (go_at_call 30; with_reducible refine (hN1.out _ (by repeat (first | with_reducible exact Only.refl _ _ | with_reducible refine Only.drew ?_ | with_reducible refine onlyN ?_ _))).mono ?_; rintro e w6 ⟨rfl, rfl⟩)
            exact ⟨⟨g + 1, hg2, by go_num, hid (hO9.out.trans (only_drewN _ _) (by simp))⟩, by simp [intOf]; omega⟩
          · have hgg : g = P.l[q].2.length := by omega
            have i6 : ¬ (g : Int) < (P.l[q].2.length : Int) := by omega
            have hfin : 8 * (ofs P.l q : Int) + 16 + 8 * (P.l[q].2.length : Int) = 8 * (ofs P.l (q + 1) : Int) := by rw [hsucc.out]; omega
            replace hfin := hid hfin
            clear hgg hg hg2
            go_wp2
            exact ⟨⟨q + 1, hq2, by go_num, by rw [hfin.out], hO9⟩, by simp [intOf]; omega⟩
      · have hqq : q = P.l.length := by omega
        have i5 : ¬ (q : Int) < (P.l.length : Int) := by omega
        rw [hqq, ofs_all]
        have hkk : Kep (fun b => b < w.heap.size) w wr := by rw [← hN.out]; exact hKall.out.trans (.of0 (Only.trans o5.out hO9.out (by simp)))
        replace hkk := hid hkk
        clear hq2 hq hqq i5
        go_wp2
        go_ret
        exact ⟨rfl, hkk.out.only⟩

end Go.Proofs.Ytkaklabcfhefaaa
