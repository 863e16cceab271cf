/-
  The walk of ArenaPuts. No conditions beyond the arguments' own shape.
-/
import Derived.Test.YtkaklabcfhefaaaANum
namespace Go.Proofs.Ytkaklabcfhefaaa
open Go.RowKit

set_option linter.unusedSimpArgs false

def cutAt (ao : Option Addr) (cap n : Nat) : Option Addr := if cap = n then ao else ao.map (·.add n)

theorem RS.drop {w : World} {ao : Option Addr} {cs : List Value} {d : Nat} (h : RS w ao cs d) (n cap : Nat) (hc : cs.length ≤ cap) : RS w (cutAt ao cap n) (cs.drop n) d := by
  rcases h with h | ⟨off, ha, hcell⟩
  · exact .inl (by simp [h])
  · by_cases hn : n < cs.length
    · refine .inr ⟨off + n, ?_, fun j u hj => ?_⟩
      · unfold cutAt
        rw [if_neg (by omega), ha]
        simp [Addr.add_lit]
      · rw [List.getElem?_drop] at hj
        have := hcell (n + j) u hj
        rw [show off + n + j = off + (n + j) by omega]
        exact this
    · exact .inl (List.drop_eq_nil_of_le (by omega))

theorem bcs_drop (l : List UInt8) (n : Nat) : (bcs l).drop n = bcs (l.drop n) := by simp [bcs, List.map_drop]

theorem slice_hi (ao : Option Addr) (len cap m : Nat) (x : Int) (hx : x = (m : Int)) (hm : m ≤ cap) (w : World) :
    (Instr.slice 37 (.slice ao len cap) none (some (.int .i64 x)) none).run Try.prog w = .ok (.slice ao m cap) w := by
  subst hx
  obtain ⟨i0, hi, hz0, hz1, hz2⟩ := info_parts info5
  simp [Instr.slice, run_underlying Try.underlying37, Instr.sliceBounds, run_sliceBound, sizeOf, typeInfo, hi, hm]
  cases ao <;> simp [Addr.add]

theorem slice_lo (ao : Option Addr) (len cap m : Nat) (x : Int) (hx : x = (m : Int)) (hm : m ≤ len) (w : World) :
    (Instr.slice 37 (.slice ao len cap) (some (.int .i64 x)) none none).run Try.prog w = .ok (.slice (cutAt ao cap m) (len - m) (cap - m)) w := by
  subst hx
  obtain ⟨i0, hi, hz0, hz1, hz2⟩ := info_parts info5
  simp [Instr.slice, run_underlying Try.underlying37, Instr.sliceBounds, run_sliceBound, sizeOf, typeInfo, hi, hz1, hm, cutAt]

/-- The bytes ahead of a place, as a text; those from a place on. -/
theorem conv_hi {w : World} {ao : Option Addr} {bs : List UInt8} {d : Nat} (h : RS w ao (bcs bs) d) (m cap : Nat) (hm : m ≤ bs.length) :
    (convert 37 9 (.slice ao m cap)).run Try.prog w = .ok (.string (str (bs.take m))) w := by
  have := h.take m
  rw [bcs_take] at this
  exact conv_str this (by rw [List.length_take]; omega) cap
theorem conv_lo {w : World} {ao : Option Addr} {bs : List UInt8} {d : Nat} (h : RS w ao (bcs bs) d) (m n cap : Nat) (hn : bs.length = n) (hc : n ≤ cap) :
    (convert 37 9 (.slice (cutAt ao cap m) (n - m) (cap - m))).run Try.prog w = .ok (.string (str (bs.drop m))) w := by
  have := h.drop m cap (by rw [bcs_length]; omega)
  rw [bcs_drop] at this
  exact conv_str this (by rw [List.length_drop, hn]) (cap - m)

theorem RS.drewN {w : World} {ao : Option Addr} {cs : List Value} {d : Nat} (h : RS w ao cs d) (n : Nat) : RS (w.drewN n) ao cs d := h

theorem putS_none' (s : St) (x k v : Int) (h : findP s.l x = none) : putS s x k v = (s, 57) := by unfold putS; rw [h]

theorem putS_some (s : St) (x k v : Int) (j : Nat) (h : findP s.l x = some j) : putS s x k v = if 0 ≤ k ∧ k < ((s.l[j]'(findP_some h).1).2.length : Int) then ({ s with l := s.l.set j ((s.l[j]'(findP_some h).1).1, (s.l[j]'(findP_some h).1).2.set k.toNat v) }, 0) else (s, 1) := by
  unfold putS
  rw [h]
  simp only [List.getElem?_eq_getElem (findP_some h).1]

theorem slotsP_at (l : List Ob) (j : Nat) (h : j < l.length) : slotsP l (8 * (ofs l j : Int) + 8) = ((l[j].2.length : Int), 0) := by
  unfold slotsP
  rw [findP_at h]
  simp only [List.getElem?_eq_getElem h]

set_option maxRecDepth 20000 in
set_option maxHeartbeats 8000000 in
theorem puts_any {w : World} (x : Int) (_hx : i64 x) {ao : Option Addr} {L : List Cl} {cap d : Nat} (hL : ClS w ao L d) (hl : L.length ≤ 9223372036854775807) (z : Int) (_hz : i64 z) (k : Int) (hk : i64 k) (v : Int) (hv : i64 v) :
    Calls Try.prog 8 #[.int .i64 x, .slice ao L.length cap, .int .i64 z, .int .i64 k, .int .i64 v] w fun e w' => e = .returned (.bool true) ∧ Only [] w w' := by
  have hKn := hid (known15 w)
  have hMd := hid (fun W (ho : Only [] w W) => made_any (N := fun b => b < w.heap.size) (fun b hb => Nat.lt_of_lt_of_le hb ho.size) x (cap := cap) (hL.kep (Kep.of0 (N := fun b => b < w.heap.size) ho) (fun hn => hL.rs.lt (fun e => hn (List.eq_nil_of_length_eq_zero (by have := congrArg List.length e; rw [clz_length] at this; simp only [List.length_nil] at this; omega))))) (fun hn => hL.rs.lt (fun e => hn (List.eq_nil_of_length_eq_zero (by have := congrArg List.length e; rw [clz_length] at this; simp only [List.length_nil] at this; omega)))) hl)
  obtain ⟨S, hS⟩ : ∃ S, S = madeTo (256 + (x % 8000).toNat) L (min 60 L.length) := ⟨_, rfl⟩
  rw [← hS] at hMd
  clear hS
  go_enter Try.func8, Try.ntmps8
  go_upto_region 7 with (first
    | (go_at_call 9; refine hKn.out.mono ?_; rintro e w1 ⟨rfl, ho1⟩; replace ho1 := hid ho1)
    | (go_at_call 22; refine (hMd.out _ ho1.out).mono ?_; rintro e w2 ⟨rfl, A1, K1⟩; have hA := hid (All_ar A1); replace A1 := hid A1; replace K1 := hid ((Kep.of0 ho1.out).trans K1))
    | (go_at_call 23; refine hA.out.mono ?_; rintro e w3 ⟨bo, bc, bd, M, rfl, hR, hMb, hNM, A2, o2, _⟩; replace hR := hid hR; replace A2 := hid A2; replace K2 := hid (K1.out.trans (.of0 o2)); replace hNM := hid hNM))
  have hlen : S.l.length ≤ 65536 ∧ 8 * (flW S.l).length ≤ 1048576 := by
    have h1 := few_obs S.l
    have h2 : 8 * (flW S.l).length ≤ S.m := A1.out.ok.fit
    have h3 : S.m ≤ 1048576 := A1.out.ok.m1
    exact ⟨by omega, by omega⟩
  obtain ⟨hlen, hfew⟩ := hlen
  have hall : ∀ u ∈ flW S.l, i64 u := A1.out.ok.all
  clear hMd hKn hA A1 K1
  generalize w1.heap.size = a at *
  clear ho1
  by_cases h0 : S.l.length = 0
  · have hnil : S.l = [] := List.eq_nil_of_length_eq_zero h0
    have e4 := putS_none' S 8 0 v (by rw [hnil]; exact findP_nil 8)
    have hP0 := fun W (ho : Only [] w3 W) => Put_any (A2.out.only0 ho) 8 0 v ⟨by decide, by decide⟩ ⟨by decide, by decide⟩ hv
    simp only [e4] at hP0
    have hP := hid hP0
    clear hP0 e4
    have hi0 : (S.l.length : Int) = 0 := by omega
    have hfl : 8 * (flW S.l).length = 0 := by rw [hnil]; rfl
    replace hnil := hid hnil
    clear h0
    have hU := hid (fun W (h : Ar W M a S.sw) => (Used_any h.used).mono (R' := fun e w' => e = .returned (.int .i64 0) ∧ W = w') (fun e w' ⟨z1, z2⟩ => ⟨by rw [z1, show 8 * S.sw.ws.length = 0 from hfl]; rfl, z2.symm⟩))
    replace hfl := hid hfl
    go_wp2_with (first
      | (go_at_call 26; with_reducible refine (hP.out _ (by repeat (first | with_reducible exact Only.refl _ _ | with_reducible refine Only.drew ?_ | with_reducible refine onlyN ?_ _))).mono ?_; rintro e w4 ⟨rfl, A4, K4⟩; replace A4 := hid A4; replace K4 := hid K4)
      | (go_at_call 20; refine (hU.out _ A4.out).mono ?_; rintro e w5 ⟨rfl, rfl⟩))
    go_ret
    exact ⟨rfl, (K2.out.trans (K4.out.mono hNM.out)).only⟩
  · have i0 : 0 < (S.l.length : Int) := by omega
    have hne : S.l ≠ [] := fun e => h0 (by rw [e]; rfl)
    obtain ⟨j, hj⟩ : ∃ j : Nat, z % (S.l.length : Int) = (j : Int) := ⟨(z % (S.l.length : Int)).toNat, by have := Int.emod_nonneg z (show (S.l.length : Int) ≠ 0 by omega); omega⟩
    have hjlt : j < S.l.length := by have := Int.emod_lt_of_pos z i0; omega
    have hWn := hid (fun W => (within_at z (S.l.length : Int) ⟨i0, by omega⟩ W).mono (R' := fun e w' => e = .returned (.int .i64 (j : Int)) ∧ W = w') (fun e w' ⟨z1, z2⟩ => ⟨by rw [z1, hj], z2⟩))
    have hjl : j < (adrP S.l).length := by rw [adrP_length]; exact hjlt
    obtain ⟨off, rfl, hc⟩ := hR.out.at (j := j) (by rw [ics_length]; omega)
    have c1 := hc j _ (ics_get _ j hjl)
    rw [adrP_get] at c1
    have i1 : (j : Int) < (S.l.length : Int) := by omega
    clear hc hj
    have hend := ofs_end S.l j hjlt
    have hX : i64 (8 * (ofs S.l j : Int) + 8) := ⟨by omega, by omega⟩
    have hSl0 := fun W (ho : Only [] w3 W) => Slots_any (l := S.l) (A2.out.only0 ho).used (8 * (ofs S.l j : Int) + 8) hX
    simp only [slotsP_at S.l j hjlt] at hSl0
    have hB := hid (fun W (ho : Only [] w3 W) => Bytes_ar (A2.out.only0 ho))
    have hSl := hid hSl0
    clear hSl0
    have e5 := putS_some S (8 * (ofs S.l j : Int) + 8) k v j (findP_at hjlt)
    have hbl := encWs_length (flW S.l)
    by_cases hkr : 0 ≤ k ∧ k < (S.l[j].2.length : Int)
    · rw [if_pos hkr] at e5
      have hkl : k.toNat < S.l[j].2.length := by omega
      have hw1 := put_words S.l j k.toNat v hjlt hkl
      obtain ⟨S', hS'⟩ : ∃ S', S' = ({ S with l := S.l.set j (S.l[j].1, S.l[j].2.set k.toNat v) } : St) := ⟨_, rfl⟩
      have hfw : flW S'.l = (flW S.l).set (ofs S.l j + 2 + k.toNat) v := by rw [hS', hw1]
      rw [← hS'] at e5
      have hP := hid (fun (W : World) (P : Nat → Prop) (h : Ar W P a S.sw) => (Put_any h (8 * (ofs S.l j : Int) + 8) k v hX hk hv).mono (R' := fun e w' => e = .returned (.int .i64 0) ∧ Ar w' P a S'.sw ∧ Kep P W w') (fun e w' ⟨z1, z2, z3⟩ => by rw [e5] at z1 z2; exact ⟨z1, z2, z3⟩))
      have hlen' : ((flW S.l).set (ofs S.l j + 2 + k.toNat) v).length = (flW S.l).length := List.length_set
      have hB5 := hid (fun (W : World) (P : Nat → Prop) (h : Ar W P a S'.sw) => (Bytes_ar h).mono (R' := fun e w' => ∃ ao cap d, e = .returned (.slice ao (8 * (flW S.l).length) cap) ∧ RS w' ao (bcs (encWs ((flW S.l).set (ofs S.l j + 2 + k.toNat) v))) d ∧ 8 * (flW S.l).length ≤ cap ∧ Only [] W w') (fun e w' ⟨ao, cap, d, M, z1, z2, _, _, _, z3, z4⟩ => by
        have hcap := (RS.of_owns z4).2.1
        rw [hfw] at z1 z2 hcap
        rw [hlen'] at z1 hcap
        exact ⟨ao, cap, d, z1, z2, hcap, z3⟩))
      have hall' : ∀ u ∈ (flW S.l).set (ofs S.l j + 2 + k.toNat) v, i64 u := fun u hu => by
        rcases List.mem_or_eq_of_mem_set hu with c | c
        · exact hall u c
        · rw [c]; exact hv
      have hqlt : ofs S.l j + 2 + k.toNat < (flW S.l).length := by omega
      have hNu := hid (fun (W : World) (ao : Option Addr) (cap d : Nat) (h : RS W ao (bcs (encWs ((flW S.l).set (ofs S.l j + 2 + k.toNat) v))) d) => (lnumber_any h hall' (by rw [hlen']; exact hfew) (ofs S.l j + 2 + k.toNat) (by rw [hlen']; exact hqlt) (8 * (flW S.l).length) cap (by rw [hlen']) (8 * (ofs S.l j : Int) + 8 + 8 + 8 * k) (by omega)).mono (R' := fun e w' => e = .returned (.int .i64 v) ∧ W = w') (fun e w' ⟨z1, z2⟩ => ⟨by rw [z1, List.getElem_set_self], z2⟩))
      have hbl' := encWs_length ((flW S.l).set (ofs S.l j + 2 + k.toNat) v)
      rw [hlen'] at hbl'
      have hT : (encWs ((flW S.l).set (ofs S.l j + 2 + k.toNat) v)).take (8 * (ofs S.l j + 2 + k.toNat)) = (encWs (flW S.l)).take (8 * (ofs S.l j + 2 + k.toNat)) := by
        rw [encWs_take, encWs_take, List.take_set_of_le (Nat.le_refl _)]
      have hD : (encWs ((flW S.l).set (ofs S.l j + 2 + k.toNat) v)).drop (8 * (ofs S.l j + 2 + k.toNat) + 8) = (encWs (flW S.l)).drop (8 * (ofs S.l j + 2 + k.toNat) + 8) := by
        rw [show 8 * (ofs S.l j + 2 + k.toNat) + 8 = 8 * (ofs S.l j + 2 + k.toNat + 1) by omega, encWs_drop, encWs_drop, List.drop_set_of_lt (by omega)]
      have hxi : 8 * (ofs S.l j : Int) + 8 + 8 + 8 * k = ((8 * (ofs S.l j + 2 + k.toNat) : Nat) : Int) := by omega
      have hq8 : 8 * (ofs S.l j + 2 + k.toNat) + 8 ≤ 8 * (flW S.l).length := by omega
      clear e5 hS' hfw hw1 hall hall' hlen' hqlt hkl hR
      replace hbl := hid hbl
      replace hbl' := hid hbl'
      replace hT := hid hT
      replace hD := hid hD
      replace hxi := hid hxi
      replace hq8 := hid hq8
      replace hend := hid hend
      replace hfew := hid hfew
      have j1 : 8 * (ofs S.l j : Int) ≤ 1048576 := by have := hend.out; have := hfew.out; omega
      have j0 : 0 ≤ 8 * (ofs S.l j : Int) := by omega
      obtain ⟨k0, k1⟩ := hkr
      have k2 : (S.l[j].2.length : Int) ≤ 1048576 := by have := hend.out; have := hfew.out; omega
      generalize encWs ((flW S.l).set (ofs S.l j + 2 + k.toNat) v) = E' at *
      generalize encWs (flW S.l) = E at *
      generalize hQ : 8 * (ofs S.l j + 2 + k.toNat) = Q at *
      replace hQ := hid hQ
      generalize 8 * (flW S.l).length = T at *
      generalize hPp : 8 * (ofs S.l j : Int) = p8 at *
      replace hPp := hid hPp
      generalize S.l[j].2.length = nn at *
      go_upto_region 19 with (first
        | (go_at_call 18; with_reducible refine (hWn.out _).mono ?_; rintro e w4 ⟨rfl, rfl⟩)
        | (go_at_call 24; with_reducible refine (hSl.out _ (by repeat (first | with_reducible exact Only.refl _ _ | with_reducible refine Only.drew ?_ | with_reducible refine onlyN ?_ _))).mono ?_; rintro e w4 ⟨rfl, n4, rfl⟩)
        | (go_at_call 21; with_reducible refine (hB5.out _ _ A6.out).mono ?_; rintro e w7 ⟨b7, c7, d7, rfl, hR7, hc7, o7⟩; have hN7 := hid (hNu.out _ _ c7 _ hR7); replace hR5 := hR5.only0 o7; replace o7 := hid o7)
        | (go_at_call 21; with_reducible refine (hB.out _ (by repeat (first | with_reducible exact Only.refl _ _ | with_reducible refine Only.drew ?_ | with_reducible refine onlyN ?_ _))).mono ?_; rintro e w5 ⟨b5, c5, d5, M5, rfl, hR5, hMb5, hNM5, A5, o5, own5⟩; have hc5 := (RS.of_owns own5).2.1; clear own5; replace A5 := hid A5; replace o5 := hid o5; replace hNM5 := hid hNM5)
        | (go_at_call 26; with_reducible refine (hP.out _ _ A5.out).mono ?_; rintro e w6 ⟨rfl, A6, K6⟩; replace A6 := hid A6; replace hR5 := hR5.kep K6 (fun _ => hMb5 hne); replace K6 := hid K6)
        | (go_at_call 30; with_reducible refine hN7.out.mono ?_; rintro e w8 ⟨rfl, rfl⟩))
      have s1 := slice_hi b5 T c5 Q (p8 + 8 + 8 + 8 * k) hxi.out (by have := hq8.out; omega)
      have s2 := slice_hi b7 T c7 Q (p8 + 8 + 8 + 8 * k) hxi.out (by have := hq8.out; omega)
      have s3 := slice_lo b5 T c5 (Q + 8) (p8 + 8 + 8 + 8 * k + 8) (by have := hxi.out; omega) hq8.out
      have s4 := slice_lo b7 T c7 (Q + 8) (p8 + 8 + 8 + 8 * k + 8) (by have := hxi.out; omega) hq8.out
      have v1 := fun n => conv_hi (hR5.drewN n) Q c5 (by rw [hbl.out]; have := hq8.out; omega)
      have v2 := fun n => conv_hi (hR7.drewN n) Q c7 (by rw [hbl'.out]; have := hq8.out; omega)
      have v3 := fun n => conv_lo (hR5.drewN n) (Q + 8) T c5 hbl.out hc5
      have v4 := fun n => conv_lo (hR7.drewN n) (Q + 8) T c7 hbl'.out hc7
      rw [hT.out] at v2
      rw [hD.out] at v4
      go_quiet (fail)
      go_wp2
      go_ret
      exact ⟨rfl, (((K2.out.trans (.of0 (Only.trans (only_drewN _ _) o5.out (by simp)))).trans (K6.out.mono fun b hb => hNM5.out b (hNM.out b hb))).trans (.of0 (o7.out.trans (only_drewN _ _) (by simp)))).only⟩
    · rw [if_neg hkr] at e5
      have hP := hid (fun (W : World) (P : Nat → Prop) (h : Ar W P a S.sw) => (Put_any h (8 * (ofs S.l j : Int) + 8) k v hX hk hv).mono (R' := fun e w' => e = .returned (.int .i64 1) ∧ Ar w' P a S.sw ∧ Kep P W w') (fun e w' ⟨z1, z2, z3⟩ => by rw [e5] at z1 z2; exact ⟨z1, z2, z3⟩))
      clear e5
      have hB5 := hid (fun (W : World) (P : Nat → Prop) (h : Ar W P a S.sw) => Bytes_ar h)
      replace hbl := hid hbl
      generalize ofs S.l j = p at *
      generalize S.l[j].2.length = nn at *
      by_cases hk0 : k < 0
      all_goals
        first
        | (have hk1 : ¬ 0 ≤ k := by omega)
        | (have hk1 : (nn : Int) ≤ k := by omega)
        clear hkr
        go_wp2_with (first
          | (go_at_call 18; with_reducible refine (hWn.out _).mono ?_; rintro e w4 ⟨rfl, rfl⟩)
          | (go_at_call 24; with_reducible refine (hSl.out _ (by repeat (first | with_reducible exact Only.refl _ _ | with_reducible refine Only.drew ?_ | with_reducible refine onlyN ?_ _))).mono ?_; rintro e w4 ⟨rfl, n4, rfl⟩)
          | (go_at_call 21; with_reducible refine (hB5.out _ _ A6.out).mono ?_; rintro e w7 ⟨b7, c7, d7, M7, rfl, hR7, _, _, _, o7, _⟩; have cv5 := conv_str (hR5.only0 o7) hbl.out c5; have cv7 := conv_str hR7 hbl.out c7; replace o7 := hid o7)
          | (go_at_call 21; with_reducible refine (hB.out _ (by repeat (first | with_reducible exact Only.refl _ _ | with_reducible refine Only.drew ?_ | with_reducible refine onlyN ?_ _))).mono ?_; rintro e w5 ⟨b5, c5, d5, M5, rfl, hR5, hMb5, hNM5, A5, o5, _⟩; replace A5 := hid A5; replace o5 := hid o5; replace hNM5 := hid hNM5)
          | (go_at_call 26; with_reducible refine (hP.out _ _ A5.out).mono ?_; rintro e w6 ⟨rfl, A6, K6⟩; replace A6 := hid A6; replace hR5 := hR5.kep K6 (fun _ => hMb5 hne); replace K6 := hid K6))
        go_ret
        exact ⟨rfl, (((K2.out.trans (.of0 (Only.trans (only_drewN _ _) o5.out (by simp)))).trans (K6.out.mono fun b hb => hNM5.out b (hNM.out b hb))).trans (.of0 o7.out)).only⟩

end Go.Proofs.Ytkaklabcfhefaaa
