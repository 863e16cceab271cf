/-
  The walk of CursorBack: it answers true, and writes nothing that was there. What came in is at most 2 to the power of 20 bytes.
-/
import Derived.Test.YtgnbimoebaagfabRight
import Derived.Deep.RegionWith
namespace Go.Proofs.Ytgnbimoebaagfab
open Go.RowKit

theorem wAll_one (size : Nat) (s : List UInt8 × Int) (x : Int) : wAll size s [x] = wOne size s x := rfl

theorem wOne_good (size : Nat) (C : List UInt8) (x : Int) (h : ¬ (x < 0 ∨ (256 : Int) ^ size ≤ x)) : wOne size (C, 0) x = (C ++ toBE x.toNat size, 0) := by
  unfold wOne
  rw [if_pos rfl, if_neg h]

theorem wText_one (out bs : List UInt8) (h : bs.length < 256) : wText (out, 0) [str bs] = (out ++ (UInt8.ofNat bs.length :: bs), 0) := by
  show wText1 (out, 0) (str bs) = _
  have hs : (str bs).size = bs.length := rfl
  unfold wText1
  rw [if_pos rfl, if_neg (by rw [hs]; omega), hs]
  simp [str]

theorem held_one {w w' : World} {S : List Nat} {a : Addr} {v : Value} (ho : Only S w.drew w') (h1 : a.block < w.drew.heap.size) (h2 : a.block ∉ S) (h : w.cell? a = some v) : w'.cell? a = some v := (ho.cell h1 h2).trans h

theorem own_read {w : World} {B : Nat} {ao : Option Addr} {cap : Nat} {bs : List UInt8} (h : w.ownsRow B 5 1 (.slice ao bs.length cap) bs.length (bcs bs)) : BS w ao bs ((ao.map (·.block)).getD 0) ∧ (bs ≠ [] → B ≤ (ao.map (·.block)).getD 0) := by
  obtain ⟨hb, _, _, _, ha⟩ := BS.of_owns h
  refine ⟨hb, fun hne => ?_⟩
  cases ao with
  | none => exact absurd hb.none_nil hne
  | some a => exact (ha a rfl).1

theorem right_kind (it : Itm) (h : rightB it = true) : it.kind = 1 ∨ it.kind = 2 ∨ it.kind = 3 ∨ it.kind = 4 ∨ it.kind = 5 := by
  unfold rightB at h
  split at h
  · omega
  split at h
  · omega
  split at h
  · omega
  · simp at h
    omega

set_option maxHeartbeats 40000000 in
set_option maxRecDepth 100000 in
theorem back_walk {w : World} {lao : Option Addr} {l : List Itm} {lcap ld : Nat} (hl : IS w lao l ld) (hll : l.length ≤ 9223372036854775807)
    (hit : ∀ it ∈ l, BS w it.bo it.bs it.bd ∧ (it.bo = none → it.bcap = 0) ∧ it.bs.length ≤ it.bcap ∧ (Lit.int .i64 it.n).wf = true) (hsm : ∀ it ∈ l, it.bs.length ≤ 1048576) (htot : ∀ j, (encL (l.take j)).length ≤ 16777216) :
    Calls Try.prog 3 #[.slice lao l.length lcap] w fun e w' => e = .returned (.bool true) ∧ Below w.heap.size w w' := by
  have HITS := hid hit
  have HSM := hid hsm
  have HTOT := hid htot
  clear hit hsm htot
  go_enter Try.func3, Try.ntmps3
  go_wp2_with fail
  refine (known_any w).mono ?_
  rintro e w1 ⟨rfl, ho1⟩
  have z1 := ho1.size
  go_wp2_with fail
  refine (newWriter_any w1 w1.heap.size (Nat.le_refl _)).mono ?_
  rintro e w2 ⟨rfl, hw2, ho2⟩
  generalize hp : w1.heap.size = p at *
  have hO2 : Only [] w w2 := ho1.next ho2 (by simp)
  clear hp ho1 ho2
  go_wp2
  go_loopw [4, 5] (fun nv i wr => ∃ j : Nat, ∃ g, j ≤ l.length ∧ j ≤ 300 ∧ i = .int .i64 (j : Int) ∧ nv = .int .i64 ((encL (l.take j)).length : Int) ∧ WrE wr p p g (encL (l.take j), 0) ∧ Only [] w wr ∧ (∀ it ∈ l.take j, rightB it = true)) (fun _ i _ => 300 - (intOf i).toNat)
  case atStart => exact ⟨0, p, by omega, by omega, rfl, rfl, by simpa [encL] using hw2, hO2, by simp⟩
  case round =>
    obtain ⟨j, g, hj, hj3, rfl, rfl, hw, hO, hall⟩ := hrel
    have hgo : j < l.length ∧ j < 300 ∨ (j = l.length ∨ j = 300) := by omega
    rcases hgo with ⟨hlt, h300⟩ | hstop
    · have g1 : ((j : Int) < (l.length : Int)) := by omega
      have g2 : ((j : Int) < 300) := by omega
      have HS := hid (encL_take_succ l j hlt)
      have hmem : l[j] ∈ l := List.getElem_mem hlt
      have hb0 := HITS.out _ hmem
      have hs0 := HSM.out _ hmem
      have ht0 := HTOT.out j
      have hR : ∀ b, rightB l[j] = b → b = true → ∀ it ∈ l.take (j + 1), rightB it = true := by
        intro b h1 h2 it hi
        rw [List.take_succ_eq_append_getElem hlt] at hi
        rcases List.mem_append.1 hi with hi | hi
        · exact hall it hi
        · simp at hi
          rw [hi, h1, h2]
      rcases hl.below hO with hh | ⟨off, hlao, hcl⟩
      · rw [hh] at hlt
        simp at hlt
      have hc := hcl j hlt
      have HIT0 : ∃ it : Itm, it = l[j] := ⟨_, rfl⟩
      obtain ⟨it, hitj⟩ := HIT0
      rw [← hitj] at hc hb0 hs0 hR HS
      obtain ⟨e1, e2, e3⟩ := hc
      subst hlao
      have HCL := hid hcl
      have HJ := hid hitj
      clear hcl hitj hmem
      have hbl : it.bs.length ≤ 9223372036854775807 := by omega
      have HRT := hid (right_any it wr hbl)
      have hwl := hw.lt
      generalize hout : encL (l.take j) = out at *
      have HOUT := hid hout
      clear hout
      go_wp2_with fail
      refine HRT.out.mono ?_
      rintro e w5 ⟨rfl, ho5⟩
      have z5 := ho5.size
      have hO5 : Only [] w w5 := hO.next ho5 (by simp)
      have hw5 := hw.only ho5 (by simp) (by simp)
      have hwl5 := hw5.lt
      have hb5 := hb0.1.only hO5 (by simp)
      have HBN := hid hb0.2.1
      have e1 : w5.cell? ⟨ld, off + j * 3, none⟩ = some (.int .i64 it.kind) := by rw [ho5.cell (World.block_lt_of_cell? wr _ e1) (by simp)]; exact e1
      have e2 : w5.cell? ⟨ld, off + j * 3 + 1, none⟩ = some (.int .i64 it.n) := by rw [ho5.cell (World.block_lt_of_cell? wr _ e2) (by simp)]; exact e2
      have e3 : w5.cell? ⟨ld, off + j * 3 + 2, none⟩ = some (.slice it.bo it.bs.length it.bcap) := by rw [ho5.cell (World.block_lt_of_cell? wr _ e3) (by simp)]; exact e3
      clear HRT hb0 HCL hw ho5
      cases hright : rightB it with
      | false =>
        go_wp2
        go_ret
        exact ⟨rfl, hO5.below (Nat.le_refl _) (by simp)⟩
      | true =>
        have HR := hid (hR _ hright rfl)
        have hk := right_kind it hright
        obtain ⟨kind, n, bo, bs, bcap, bd⟩ := it
        simp only at e1 e2 e3 hk hs0 hb5 HBN hbl
        clear hR
        rcases hk with rfl | rfl | rfl | rfl | rfl
        · have hr : 0 ≤ n ∧ n < 256 := by simpa [rightB] using hright
          have oa := (Only.refl [] w5).alloc (.cells #[.int .i64 1, .int .i64 n, .slice bo bs.length bcap] 29)
          have hgood : ¬ (n < 0 ∨ (256 : Int) ^ 1 ≤ n) := by
            rintro (h | h)
            · omega
            · have : (256 : Int) ^ 1 = 256 := by decide
              omega
          have HC := wu1_any ((hw5.only oa (by simp) (by simp)).only ((Only.refl [] _).alloc (.cells #[.int .i64 n] 3)) (by simp) (by simp)) (ns_one (w5.alloc (.cells #[.int .i64 1, .int .i64 n, .slice bo bs.length bcap] 29)) n .i64 3) (fun _ => by simp; omega) (by show out.length + 1 * 1 ≤ _; omega) (lcap := 1)
          rw [wAll_one, wOne_good 1 out n hgood] at HC
          simp only [World.size_alloc] at HC
          have HC := hid HC
          have oa := hid oa
          go_wp2_with fail
          refine HC.out.mono ?_
          rintro e w6 ⟨rfl, g6, hw6, hg6, ho6⟩
          have hO6 : Only [] w w6 := ((hO5.next oa.out (by simp)).alloc (.cells #[.int .i64 n] 3)).next ho6 (by simp; omega)
          clear HC oa
          have henc : encL (l.take (j + 1)) = out ++ toBE n.toNat 1 := HS.out.trans (rfl)
          have HENC := hid henc
          clear henc
          go_wp2
          refine ⟨⟨j + 1, g6, by omega, by omega, by go_num, ?_, by rw [HENC.out]; exact hw6, hO6, HR.out⟩, by simp [intOf]; omega⟩
          rw [HENC.out, List.length_append, toBE_length]
          congr 1 <;> omega
        · have hr : 0 ≤ n ∧ n < 65536 := by simpa [rightB] using hright
          have oa := (Only.refl [] w5).alloc (.cells #[.int .i64 2, .int .i64 n, .slice bo bs.length bcap] 29)
          have hgood : ¬ (n < 0 ∨ (256 : Int) ^ 2 ≤ n) := by
            rintro (h | h)
            · omega
            · have : (256 : Int) ^ 2 = 65536 := by decide
              omega
          have HC := wu2_any ((hw5.only oa (by simp) (by simp)).only ((Only.refl [] _).alloc (.cells #[.int .i64 n] 3)) (by simp) (by simp)) (ns_one (w5.alloc (.cells #[.int .i64 2, .int .i64 n, .slice bo bs.length bcap] 29)) n .i64 3) (fun _ => by simp; omega) (by show out.length + 2 * 1 ≤ _; omega) (lcap := 1)
          rw [wAll_one, wOne_good 2 out n hgood] at HC
          simp only [World.size_alloc] at HC
          have HC := hid HC
          have oa := hid oa
          go_wp2_with fail
          refine HC.out.mono ?_
          rintro e w6 ⟨rfl, g6, hw6, hg6, ho6⟩
          have hO6 : Only [] w w6 := ((hO5.next oa.out (by simp)).alloc (.cells #[.int .i64 n] 3)).next ho6 (by simp; omega)
          clear HC oa
          have henc : encL (l.take (j + 1)) = out ++ toBE n.toNat 2 := HS.out.trans (rfl)
          have HENC := hid henc
          clear henc
          go_wp2
          refine ⟨⟨j + 1, g6, by omega, by omega, by go_num, ?_, by rw [HENC.out]; exact hw6, hO6, HR.out⟩, by simp [intOf]; omega⟩
          rw [HENC.out, List.length_append, toBE_length]
          congr 1 <;> omega
        · have oa := (Only.refl [] w5).alloc (.cells #[.int .i64 3, .int .i64 n, .slice bo bs.length bcap] 29)
          have HC := wn8_any ((hw5.only oa (by simp) (by simp)).only ((Only.refl [] _).alloc (.cells #[.int .i64 n] 2)) (by simp) (by simp)) (ns_one (w5.alloc (.cells #[.int .i64 3, .int .i64 n, .slice bo bs.length bcap] 29)) n .i64 2) (fun _ => by simp; omega) (by show out.length + 8 * 1 ≤ _; omega) (lcap := 1)
          have e8 : wN8 (out, 0) [n] = (out ++ toBE (toU64 n) 8, 0) := by simp [wN8, wPut]
          rw [e8] at HC
          simp only [World.size_alloc] at HC
          have HC := hid HC
          have oa := hid oa
          go_wp2_with fail
          refine HC.out.mono ?_
          rintro e w6 ⟨rfl, g6, hw6, hg6, ho6⟩
          have hO6 : Only [] w w6 := ((hO5.next oa.out (by simp)).alloc (.cells #[.int .i64 n] 2)).next ho6 (by simp; omega)
          clear HC oa
          have henc : encL (l.take (j + 1)) = out ++ toBE (toU64 n) 8 := HS.out.trans (rfl)
          have HENC := hid henc
          clear henc
          go_wp2
          refine ⟨⟨j + 1, g6, by omega, by omega, by go_num, ?_, by rw [HENC.out]; exact hw6, hO6, HR.out⟩, by simp [intOf]; omega⟩
          rw [HENC.out, List.length_append, toBE_length]
          congr 1 <;> omega
        · have oa := (Only.refl [] w5).alloc (.cells #[.int .i64 4, .int .i64 n, .slice bo bs.length bcap] 29)
          have hbb := hb5.only oa (by simp)
          have HC := wbytes_any (hw5.only oa (by simp) (by simp)) hbb HBN.out (by show out.length + bs.length ≤ _; omega)
          have e8 : wPut (out, 0) bs = (out ++ bs, 0) := by simp [wPut]
          rw [e8] at HC
          have HC := hid HC
          have oa := hid oa
          go_wp2_with fail
          refine HC.out.mono ?_
          rintro e w6 ⟨rfl, g6, hw6, hg6, ho6⟩
          have hO6 : Only [] w w6 := (hO5.next oa.out (by simp)).next ho6 (by simp; omega)
          have c6 : w6.cell? ⟨w5.heap.size, 2, none⟩ = some (.slice bo bs.length bcap) := by
            rw [ho6.cell (by simp) (by simp; omega), cell_new]
            rfl
          clear HC oa
          have henc : encL (l.take (j + 1)) = out ++ bs := HS.out.trans (rfl)
          have HENC := hid henc
          clear henc
          go_wp2
          refine ⟨⟨j + 1, g6, by omega, by omega, by go_num, ?_, by rw [HENC.out]; exact hw6, hO6, HR.out⟩, by simp [intOf]; omega⟩
          rw [HENC.out, List.length_append]
          congr 1 <;> omega
        · have hr : bs.length < 256 := by simpa [rightB] using hright
          have oa := (Only.refl [] w5).alloc (.cells #[.int .i64 5, .int .i64 n, .slice bo bs.length bcap] 29)
          have kc := conv_str (hb5.only oa (by simp)) bcap
          have HC := wtext_any ((hw5.only oa (by simp) (by simp)).only ((Only.refl [] _).alloc (.cells #[.string (str bs)] 9)) (by simp) (by simp)) (ss_one (w5.alloc (.cells #[.int .i64 5, .int .i64 n, .slice bo bs.length bcap] 29)) (str bs) 9) (fun _ => by simp; omega) (by show out.length + 256 * 1 ≤ _; omega) (by intro b hb; simp at hb; subst hb; show bs.length ≤ _; omega) (lcap := 1)
          have e8 : wText (out, 0) [str bs] = (out ++ (UInt8.ofNat bs.length :: bs), 0) := wText_one out bs hr
          rw [e8] at HC
          simp only [World.size_alloc] at HC
          have HC := hid HC
          have oa := hid oa
          go_wp2_with fail
          refine HC.out.mono ?_
          rintro e w6 ⟨rfl, g6, hw6, hg6, ho6⟩
          have hO6 : Only [] w w6 := ((hO5.next oa.out (by simp)).alloc (.cells #[.string (str bs)] 9)).next ho6 (by simp; omega)
          have c6 : w6.cell? ⟨w5.heap.size, 2, none⟩ = some (.slice bo bs.length bcap) := by
            rw [ho6.cell (by simp; omega) (by simp; omega), World.cell?_alloc_lt _ _ _ (by simp), cell_new]
            rfl
          clear HC oa
          have henc : encL (l.take (j + 1)) = out ++ (UInt8.ofNat bs.length :: bs) := HS.out.trans (rfl)
          have HENC := hid henc
          clear henc
          go_wp2
          refine ⟨⟨j + 1, g6, by omega, by omega, by go_num, ?_, by rw [HENC.out]; exact hw6, hO6, HR.out⟩, by simp [intOf]; omega⟩
          rw [HENC.out, List.length_append, List.length_cons]
          congr 1 <;> omega
    · have g12 : (((j : Int) < (l.length : Int)) ∧ ¬ ((j : Int) < 300)) ∨ ¬ ((j : Int) < (l.length : Int)) := by omega
      rcases g12 with ⟨g1, g2⟩ | g1
      all_goals
        have HALL := hid hall
        have HOUT := hid (HTOT.out j)
        clear hall
        have h0 := HTOT.out j
        have hwl := hw.lt
        have HD := hid (wdone_any hw (by show (encL (l.take j)).length ≤ _; omega))
        have eD : wDone (encL (l.take j), 0) = encL (l.take j) := by simp [wDone]
        rw [eD] at HD
        clear eD
        obtain ⟨C, hC⟩ : ∃ C, C = encL (l.take j) := ⟨_, rfl⟩
        rw [← hC] at HD h0
        have HCC := hid hC
        clear hC
        go_wp2_with fail
        (try clear g2)
        clear g1
        rw [← HCC.out]
        refine HD.out.mono ?_
        rintro e w6 ⟨bo6, bcap6, rfl, hown6, ho6⟩
        have hw6 := hw.only ho6 (by simp) (by simp)
        rw [← HCC.out] at hw6
        have hO6 : Only [] w w6 := hO.next ho6 (by simp)
        obtain ⟨hbs6, _, _, hbn6, _⟩ := BS.of_owns hown6
        have HBN6 := hid hbn6
        clear HD hown6 hbn6 hw
        go_wp2_with fail
        refine (wlen_any hw6).mono ?_
        rintro e w7 ⟨rfl, rfl⟩
        have HN := hid (newReader_any hbs6 HBN6.out (by omega))
        clear hbs6
        go_wp2_with fail
        refine HN.out.mono ?_
        rintro e w7 ⟨r, dr, rfl, hr7, ho7, a1, a2, a3⟩
        have hO7 : Only [] w w7 := hO6.next ho7 (by simp)
        have z6 := hO6.size
        have hrw : w.heap.size ≤ r := by omega
        clear HN hw6 ho6 ho7
        go_wp2
        go_loopw [10] (fun iv wr => ∃ i : Nat, i ≤ j ∧ iv = .int .i64 (i : Int) ∧ RdE wr r dr (encL ((l.take j).drop i), (encL (l.take i)).length, 0) ∧ Only [] w wr) (fun iv _ => 300 - (intOf iv).toNat)
        case atStart => exact ⟨0, by omega, rfl, by rw [List.drop_zero, ← HCC.out]; simpa [encL] using hr7, hO7⟩
        case round =>
          obtain ⟨i, hi, rfl, hR, hO⟩ := hrel
          by_cases hij : i < j
          · have g1 : ((i : Int) < (l.length : Int)) := by omega
            have g2 : ((i : Int) < 300) := by omega
            have hil : i < l.length := by omega
            have hLi : i < (l.take j).length := by simp; omega
            have HS := hid (encL_take_succ l i hil)
            have HE := hid (encL_drop (l.take j) i hLi)
            have hmem : l[i] ∈ l := List.getElem_mem hil
            have hmem2 : (l.take j)[i] ∈ l.take j := List.getElem_mem hLi
            have hEq : (l.take j)[i] = l[i] := by simp
            rw [hEq] at hmem2 HE
            have hb0 := HITS.out _ hmem
            have hs0 := HSM.out _ hmem
            have hright := HALL.out _ hmem2
            have hdl := encL_drop_le (l.take j) (i + 1)
            have hd0 := HOUT.out
            rcases hl.below hO with hh | ⟨off, hlao, hcl⟩
            · rw [hh] at hil
              simp at hil
            have hc := hcl i hil
            have HIT0 : ∃ it : Itm, it = l[i] := ⟨_, rfl⟩
            obtain ⟨it, hitj⟩ := HIT0
            rw [← hitj] at hc hb0 hs0 hright HS HE
            obtain ⟨e1, e2, e3⟩ := hc
            subst hlao
            clear hcl hitj hmem hmem2 hEq
            obtain ⟨rest, hrest⟩ : ∃ rest, rest = encL ((l.take j).drop (i + 1)) := ⟨_, rfl⟩
            obtain ⟨nn, hnn⟩ : ∃ nn, nn = (encL (l.take i)).length := ⟨_, rfl⟩
            rw [← hrest] at HE hdl
            rw [← hnn] at hR
            have HRS := hid hrest
            have HNN := hid hnn.symm
            clear hrest hnn
            have hb5 := hb0.1.only hO (by simp)
            have HBD := hid (fun hne => hb0.1.lt hne)
            have hwf := hb0.2.2.2
            have hk := right_kind it hright
            have hrl := hR.lt
            obtain ⟨kind, n, bo, bs, bcap, bd⟩ := it
            simp only at e1 e2 e3 hk hs0 hb5 HBD hwf
            clear hb0
            rcases hk with rfl | rfl | rfl | rfl | rfl
            · have hr : 0 ≤ n ∧ n < 256 := by simpa [rightB] using hright
              have oa := ((Only.refl [] wr).alloc (.cells #[.int .i64 1, .int .i64 n, .slice bo bs.length bcap] 29)).drew
              have hR1 : RdE (wr.alloc (.cells #[.int .i64 1, .int .i64 n, .slice bo bs.length bcap] 29)).drew r dr (toBE n.toNat 1 ++ rest, nn, 0) := by
                have q := hR.only oa (by simp) (by simp)
                rw [HE.out] at q
                exact q
              have HC := u1_any hR1
              rw [rTake_app (toBE n.toNat 1) rest nn 1 (by rw [toBE_length])] at HC
              have ev : ((be (toBE n.toNat 1) : Nat) : Int) = n := by
                rw [be_toBE]
                have : (256 : Nat) ^ 1 = 256 := by decide
                omega
              simp only [ev] at HC
              have HC := hid HC
              clear ev
              have hb0 : (wr.alloc (.cells #[.int .i64 1, .int .i64 n, .slice bo bs.length bcap] 29)).cell? ⟨wr.heap.size, 1, none⟩ = some (.int .i64 n) := by rw [cell_new]; rfl
              have OA := hid oa
              have HBS := hid hb5
              clear oa hR1 hb5
              go_wp2
              go_region_with (go_at_call 17; refine HC.out.mono ?_; rintro e w6 ⟨rfl, q1, o1⟩; have hk6 : w6.cell? ⟨wr.heap.size, 1, none⟩ = some (.int .i64 n) := held_one o1 (by simp) (by simp; omega) hb0)
              all_goals
                have hO6 : Only [] w w6 := (hO.next OA.out (by simp)).next o1 (by simp; omega)
                clear HC hk6 hb0
                go_wp2
                refine ⟨⟨i + 1, by omega, by go_num, ?_, hO6⟩, by simp [intOf]; omega⟩
                have e9 : (encL (l.take (i + 1))).length = nn + 1 := by
                  rw [HS.out, List.length_append, HNN.out]
                  show _ + (toBE n.toNat 1).length = _
                  rw [toBE_length]
                rw [e9, ← HRS.out]
                exact q1
            · have hr : 0 ≤ n ∧ n < 65536 := by simpa [rightB] using hright
              have oa := ((Only.refl [] wr).alloc (.cells #[.int .i64 2, .int .i64 n, .slice bo bs.length bcap] 29)).drew
              have hR1 : RdE (wr.alloc (.cells #[.int .i64 2, .int .i64 n, .slice bo bs.length bcap] 29)).drew r dr (toBE n.toNat 2 ++ rest, nn, 0) := by
                have q := hR.only oa (by simp) (by simp)
                rw [HE.out] at q
                exact q
              have HC := u2_any hR1
              rw [rTake_app (toBE n.toNat 2) rest nn 2 (by rw [toBE_length])] at HC
              have ev : ((be (toBE n.toNat 2) : Nat) : Int) = n := by
                rw [be_toBE]
                have : (256 : Nat) ^ 2 = 65536 := by decide
                omega
              simp only [ev] at HC
              have HC := hid HC
              clear ev
              have hb0 : (wr.alloc (.cells #[.int .i64 2, .int .i64 n, .slice bo bs.length bcap] 29)).cell? ⟨wr.heap.size, 1, none⟩ = some (.int .i64 n) := by rw [cell_new]; rfl
              have OA := hid oa
              have HBS := hid hb5
              clear oa hR1 hb5
              go_wp2
              go_region_with (go_at_call 18; refine HC.out.mono ?_; rintro e w6 ⟨rfl, q1, o1⟩; have hk6 : w6.cell? ⟨wr.heap.size, 1, none⟩ = some (.int .i64 n) := held_one o1 (by simp) (by simp; omega) hb0)
              all_goals
                have hO6 : Only [] w w6 := (hO.next OA.out (by simp)).next o1 (by simp; omega)
                clear HC hk6 hb0
                go_wp2
                refine ⟨⟨i + 1, by omega, by go_num, ?_, hO6⟩, by simp [intOf]; omega⟩
                have e9 : (encL (l.take (i + 1))).length = nn + 2 := by
                  rw [HS.out, List.length_append, HNN.out]
                  show _ + (toBE n.toNat 2).length = _
                  rw [toBE_length]
                rw [e9, ← HRS.out]
                exact q1
            · have oa := ((Only.refl [] wr).alloc (.cells #[.int .i64 3, .int .i64 n, .slice bo bs.length bcap] 29)).drew
              have hR1 : RdE (wr.alloc (.cells #[.int .i64 3, .int .i64 n, .slice bo bs.length bcap] 29)).drew r dr (toBE (toU64 n) 8 ++ rest, nn, 0) := by
                have q := hR.only oa (by simp) (by simp)
                rw [HE.out] at q
                exact q
              have HC := n8_any hR1
              rw [rTake_app (toBE (toU64 n) 8) rest nn 8 (by rw [toBE_length])] at HC
              have ev : wrap64 ((be (toBE (toU64 n) 8) : Nat) : Int) = n := back_u64 n hwf
              simp only [ev] at HC
              have HC := hid HC
              clear ev
              have hb0 : (wr.alloc (.cells #[.int .i64 3, .int .i64 n, .slice bo bs.length bcap] 29)).cell? ⟨wr.heap.size, 1, none⟩ = some (.int .i64 n) := by rw [cell_new]; rfl
              have OA := hid oa
              have HBS := hid hb5
              clear oa hR1 hb5
              go_wp2
              go_region_with (go_at_call 19; refine HC.out.mono ?_; rintro e w6 ⟨rfl, q1, o1⟩; have hk6 : w6.cell? ⟨wr.heap.size, 1, none⟩ = some (.int .i64 n) := held_one o1 (by simp) (by simp; omega) hb0)
              all_goals
                have hO6 : Only [] w w6 := (hO.next OA.out (by simp)).next o1 (by simp; omega)
                clear HC hk6 hb0
                go_wp2
                refine ⟨⟨i + 1, by omega, by go_num, ?_, hO6⟩, by simp [intOf]; omega⟩
                have e9 : (encL (l.take (i + 1))).length = nn + 8 := by
                  rw [HS.out, List.length_append, HNN.out]
                  show _ + (toBE (toU64 n) 8).length = _
                  rw [toBE_length]
                rw [e9, ← HRS.out]
                exact q1
            · have oa := ((Only.refl [] wr).alloc (.cells #[.int .i64 4, .int .i64 n, .slice bo bs.length bcap] 29)).drew
              have hR1 : RdE (wr.alloc (.cells #[.int .i64 4, .int .i64 n, .slice bo bs.length bcap] 29)).drew r dr (bs ++ rest, nn, 0) := by
                have q := hR.only oa (by simp) (by simp)
                rw [HE.out] at q
                exact q
              have HC := bytes_any hR1 (bs.length : Int) (by show (bs ++ rest).length ≤ _; rw [List.length_append]; omega)
              rw [rBytes_app bs rest nn _ rfl] at HC
              have HC := hid HC
              have k0 := conv_str (hb5.only oa (by simp)) bcap
              have hb0 : (wr.alloc (.cells #[.int .i64 4, .int .i64 n, .slice bo bs.length bcap] 29)).cell? ⟨wr.heap.size, 2, none⟩ = some (.slice bo bs.length bcap) := by rw [cell_new]; rfl
              have OA := hid oa
              have HBS := hid hb5
              clear oa hR1 hb5
              go_wp2
              go_region_with (go_at_call 20; refine HC.out.mono ?_; rintro e w6 ⟨ao6, cap6, rfl, hown6, q1, o1⟩; obtain ⟨hbs6, hd6⟩ := own_read hown6; have k1 := conv_str hbs6 cap6; have hk6 : w6.cell? ⟨wr.heap.size, 2, none⟩ = some (.slice bo bs.length bcap) := held_one o1 (by simp) (by simp; omega) hb0; have k2 := conv_str ((HBS.out.only OA.out (by simp)).only o1 (fun hne => by have := HBD.out hne; simp; omega)) bcap)
              all_goals
                have hO6 : Only [] w w6 := (hO.next OA.out (by simp)).next o1 (by simp; omega)
                clear HC hk6 hb0 k0 k1 k2 hown6 hbs6 hd6
                go_wp2
                refine ⟨⟨i + 1, by omega, by go_num, ?_, hO6⟩, by simp [intOf]; omega⟩
                have e9 : (encL (l.take (i + 1))).length = nn + bs.length := by
                  rw [HS.out, List.length_append, HNN.out]
                  show _ + (bs).length = _
                  rfl
                rw [e9, ← HRS.out]
                exact q1
            · have hr : bs.length < 256 := by simpa [rightB] using hright
              have oa := ((Only.refl [] wr).alloc (.cells #[.int .i64 5, .int .i64 n, .slice bo bs.length bcap] 29)).drew
              have hR1 : RdE (wr.alloc (.cells #[.int .i64 5, .int .i64 n, .slice bo bs.length bcap] 29)).drew r dr ((UInt8.ofNat bs.length :: bs) ++ rest, nn, 0) := by
                have q := hR.only oa (by simp) (by simp)
                rw [HE.out] at q
                exact q
              have HC := text_any hR1
              rw [rText_app bs rest nn hr] at HC
              have HC := hid HC
              have k0 := conv_str (hb5.only oa (by simp)) bcap
              have hb0 : (wr.alloc (.cells #[.int .i64 5, .int .i64 n, .slice bo bs.length bcap] 29)).cell? ⟨wr.heap.size, 2, none⟩ = some (.slice bo bs.length bcap) := by rw [cell_new]; rfl
              have OA := hid oa
              have HBS := hid hb5
              clear oa hR1 hb5
              go_wp2
              go_region_with (go_at_call 21; refine HC.out.mono ?_; rintro e w6 ⟨rfl, q1, o1⟩; have hk6 : w6.cell? ⟨wr.heap.size, 2, none⟩ = some (.slice bo bs.length bcap) := held_one o1 (by simp) (by simp; omega) hb0; have k2 := conv_str ((HBS.out.only OA.out (by simp)).only o1 (fun hne => by have := HBD.out hne; simp; omega)) bcap)
              all_goals
                have hO6 : Only [] w w6 := (hO.next OA.out (by simp)).next o1 (by simp; omega)
                clear HC hk6 hb0 k0 k2
                go_wp2
                refine ⟨⟨i + 1, by omega, by go_num, ?_, hO6⟩, by simp [intOf]; omega⟩
                have e9 : (encL (l.take (i + 1))).length = nn + (1 + bs.length) := by
                  rw [HS.out, List.length_append, HNN.out]
                  show _ + ((UInt8.ofNat bs.length :: bs)).length = _
                  rw [List.length_cons]; omega
                rw [e9, ← HRS.out]
                exact q1
          · have : i = j := by omega
            subst this
            have hnil : (l.take i).drop i = [] := List.drop_eq_nil_of_le (by simp; omega)
            rw [hnil] at hR
            have hR2 : RdE wr r dr ([], C.length, 0) := by rw [HCC.out]; exact hR
            have HA := hid (left_any hR2)
            have HB := hid (at_any hR2)
            have HC := hid (err_any hR2)
            have g12 : (((i : Int) < (l.length : Int)) ∧ ¬ ((i : Int) < 300)) ∨ ¬ ((i : Int) < (l.length : Int)) := by omega
            rcases g12 with ⟨g1, g2⟩ | g1
            all_goals
              go_wp2_with fail
              refine HA.out.mono ?_
              rintro e w8 ⟨rfl, rfl⟩
              go_wp2_with fail
              refine HB.out.mono ?_
              rintro e w8 ⟨rfl, rfl⟩
              go_wp2_with fail
              refine HC.out.mono ?_
              rintro e w8 ⟨rfl, rfl⟩
              go_wp2
              go_ret
              exact ⟨rfl, hO.below (Nat.le_refl _) (by simp)⟩

end Go.Proofs.Ytgnbimoebaagfab
