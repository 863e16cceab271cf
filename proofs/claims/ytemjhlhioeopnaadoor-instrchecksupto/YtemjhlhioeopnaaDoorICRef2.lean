/-
  The contract of the second program's Check. Texts have at most 1048576 bytes.
-/
import Derived.Test.YtemjhlhioeopnaaDoorICRef
namespace Go.Proofs.YtemjhlhioeopnaaDoor
open Go.RowKit

theorem row_two (op : Int) : (rowI op = 2 → op = 3 ∨ op = 4) ∧ (rowI op ≠ 2 → op ≠ 3 ∧ op ≠ 4) ∧ (rowI op = 4 → jumpsI op = true) ∧ (rowI op ≠ 4 → jumpsI op = false) := by
  refine ⟨fun h => ?_, fun h => ?_, fun h => ?_, fun h => ?_⟩
  · unfold rowI at h
    repeat' split at h
    all_goals omega
  · unfold rowI at h
    repeat' split at h
    all_goals omega
  · have : 19 ≤ op ∧ op ≤ 24 := by
      unfold rowI at h
      repeat' split at h
      all_goals omega
    simp [jumpsI, this.1, this.2]
  · have : ¬ (19 ≤ op ∧ op ≤ 24) := by
      unfold rowI at h
      repeat' split at h
      all_goals omega
    unfold jumpsI
    by_cases q : 19 ≤ op
    · have : ¬ (op ≤ 24) := fun z => this ⟨q, z⟩
      simp [this]
    · simp [q]

theorem entry_row {l : List En} {i : In} (h : rowI i.2.1 = 2 ∨ rowI i.2.1 = 4) : entryI l i = 0 := by
  unfold entryI
  rw [if_neg (by omega), if_neg (by omega), if_neg (by omega), if_neg (by omega), if_neg (by omega)]

set_option maxHeartbeats 2000000 in
set_option maxRecDepth 100000 in
theorem rcheck4_any {w : World} {ao eo : Option Addr} {code : List UInt8} {l : List En} {d de cap ecap : Nat} (hB : RS w ao (bcs code) d) (hc : code.length ≤ cap) (hcl : cap ≤ 9223372036854775807)
    (hE : ES w eo l de) (hl : l.length ≤ 9223372036854775807) (hA : ∀ e ∈ l, e.2.1.length ≤ 1048576) (locals : Int) :
    Calls Tryd.prog 27 #[.slice ao code.length cap, .slice eo l.length ecap, .int .i64 locals] w fun e w' => e = .returned (.tuple #[.int .i64 (checkI code l locals).1, .int .i64 (checkI code l locals).2]) ∧ Only [] w w' := by
  unfold checkI
  by_cases h0 : code = []
  · subst h0
    rw [if_pos rfl]
    clear hB hE
    go_enter Tryd.func27, Tryd.ntmps27
    go_wp2
    go_ret2
    exact ⟨rfl, Only.refl _ _⟩
  rw [if_neg h0]
  have hpos := List.length_pos_iff.2 h0
  have g0 : ¬ ((code.length : Int) = 0) := by omega
  have g0' : ((code.length : Int) == 0) = false := by simpa using g0
  clear h0
  by_cases h1 : 1024 < code.length
  · rw [if_pos h1]
    have g1 : (1024 < (code.length : Int)) := by omega
    clear hB hE
    go_enter Tryd.func27, Tryd.ntmps27
    go_wp2
    go_ret2
    exact ⟨rfl, Only.refl _ _⟩
  rw [if_neg h1]
  have g1 : ¬ (1024 < (code.length : Int)) := by omega
  have HA := hid (rall_any hB hc hcl (by omega))
  have hev := all_each code
  have hln := all_len code
  generalize allR code = X at *
  obtain ⟨al, aa, ae⟩ := X
  simp only at hev hln ⊢
  clear hB
  by_cases hae : ae = 0
  · subst hae
    rw [if_pos rfl]
    have HE := hid (fun W (hW : Only [] w W) (a op n s : Int) => rentry_in (cap := ecap) (hE.only hW (by simp)) hl hA a op n s)
    clear hE hA
    obtain ⟨x, hx⟩ : ∃ x, x = checkL al l locals al := ⟨_, rfl⟩
    rw [← hx]
    have hr : Hid (x = checkL al l locals (al.drop 0)) := by rw [hx]; rfl
    clear hx
    replace hev := hid hev
    go_enter Tryd.func27, Tryd.ntmps27
    go_wp2_with (go_at_call 22; refine HA.out.mono ?_; rintro e w1 ⟨ao1, cap1, rfl, hown1, ho1⟩)
    obtain ⟨d1, hR1⟩ : ∃ d, RS w1 ao1 (qcs al) d := ⟨_, (RS.of_owns hown1).1⟩
    have R1 := hid hR1
    clear hown1 hR1 HA
    go_loopw [11] (fun i wr => ∃ (j : Nat), j ≤ al.length ∧ i = .int .i64 (j : Int) ∧ Hid (x = checkL al l locals (al.drop j)) ∧ Hid (RS wr ao1 (qcs al) d1) ∧ Hid (Only [] w wr)) (fun i _ => al.length - (intOf i).toNat)
    case atStart => exact ⟨0, by omega, rfl, hr, R1, hid ho1⟩
    case round =>
      obtain ⟨j, hj, rfl, hq, hR, hor⟩ := hrel
      clear hr R1
      by_cases hlt : j < al.length
      · have g4 : ((j : Int) < (al.length : Int)) := by omega
        have hRI := hid hR.out
        obtain ⟨off, ha1, hy⟩ := hR.out.inAt hlt
        have v6 := (hev.out al[j] (List.getElem_mem hlt)).2.2.2.2.2.2.1
        have hdr := checkL_drop (all := al) (l := l) (locals := locals) hlt
        rw [← hq.out] at hdr
        have her := @entry_row l al[j]
        have ewr : wrongI al l locals al[j] = if rowI al[j].2.1 = 2 then (if locals ≤ al[j].2.2.1 then 43 else 0) else if rowI al[j].2.1 = 4 then (if begunI al al[j].2.2.1.toNat = true then 0 else 18) else entryI l al[j] := rfl
        obtain ⟨k2, k2', k4, k4'⟩ := row_two al[j].2.1
        rw [ewr] at hdr
        clear hq hev ewr
        generalize al[j] = i at *
        obtain ⟨p, o, n, s⟩ := i
        obtain ⟨y0, y1, y2, y3⟩ := hy
        simp only at y0 y1 y2 y3 v6 hdr her k2 k2' k4 k4'
        obtain ⟨n, rfl⟩ : ∃ q : Nat, n = (q : Int) := ⟨n.toNat, by omega⟩
        rw [Int.toNat_natCast] at hdr
        have oo := hid ((Only.refl [] wr).alloc (.cells #[.int .i64 p, .int .i64 o, .int .i64 (n : Int), .int .i64 s] 23))
        have I0 := hid (inAt_new wr p o (n : Int) s 23)
        have HE1 := HE.out _ (hor.out.next oo.out (by simp)) p o (n : Int) s
        have HP1 := hid (rplace_any (cap := cap1) (hRI.out.only0 oo.out) (by omega) n)
        have HJ := rjumps_any o (wr.alloc (.cells #[.int .i64 p, .int .i64 o, .int .i64 (n : Int), .int .i64 s] 23))
        simp only [inV] at HE1
        generalize entryI l (p, o, (n : Int), s) = en at *
        generalize begunI al n = bg at *
        generalize rowI o = r at *
        subst ha1
        by_cases r2 : r = 2
        · subst r2
          have e0 := her (.inl rfl)
          subst e0
          rw [k4' (by decide)] at HJ
          replace HJ := hid HJ
          replace HE1 := hid HE1
          have ho := k2 rfl
          rw [if_pos rfl] at hdr
          clear her k2 k2' k4 k4' HP1
          by_cases hL : locals ≤ (n : Int)
          · rw [if_pos hL, if_neg (by decide)] at hdr
            subst hdr
            clear HE1 HJ
            rcases ho with rfl | rfl
            all_goals
              go_wp2
              go_ret2
              exact ⟨rfl, hor.out.next oo.out (by simp)⟩
          · rw [if_neg hL, if_pos rfl] at hdr
            replace hdr := hid hdr
            rcases ho with rfl | rfl
            all_goals
              go_wp2_with (first | (go_at_call 30; refine HJ.out.mono ?_; rintro e w' ⟨rfl, rfl⟩) | (go_at_call 34; refine HE1.out.mono ?_; rintro e w5 ⟨rfl, ho5⟩))
              exact ⟨⟨j + 1, by omega, by go_num, hdr, hid (hRI.out.only0 (oo.out.next ho5 (by simp))), hid (hor.out.next (oo.out.next ho5 (by simp)) (by simp))⟩, by simp [intOf]; omega⟩
        · obtain ⟨n3, n4⟩ := k2' r2
          have b3 : (o == 3) = false := by simpa using n3
          have b4 : (o == 4) = false := by simpa using n4
          rw [if_neg r2] at hdr
          by_cases r4 : r = 4
          · subst r4
            have e0 := her (.inr rfl)
            subst e0
            rw [k4 rfl] at HJ
            replace HJ := hid HJ
            replace HE1 := hid HE1
            rw [if_pos rfl] at hdr
            clear her k2 k2' k4 k4'
            cases bg with
            | true =>
              rw [if_pos rfl, if_pos rfl] at hdr
              replace hdr := hid hdr
              go_wp2_with (first | (go_at_call 30; refine HJ.out.mono ?_; rintro e w' ⟨rfl, rfl⟩) | (go_at_call 33; refine HP1.out.mono ?_; rintro e w' ⟨⟨k, rfl, hk⟩, rfl⟩; have hk' : ¬ (k < 0) := of_decide_eq_false hk; clear hk) | (go_at_call 34; refine HE1.out.mono ?_; rintro e w5 ⟨rfl, ho5⟩))
              exact ⟨⟨j + 1, by omega, by go_num, hdr, hid (hRI.out.only0 (oo.out.next ho5 (by simp))), hid (hor.out.next (oo.out.next ho5 (by simp)) (by simp))⟩, by simp [intOf]; omega⟩
            | false =>
              rw [if_neg (by decide), if_neg (by decide)] at hdr
              subst hdr
              clear HE1
              go_wp2_with (first | (go_at_call 30; refine HJ.out.mono ?_; rintro e w' ⟨rfl, rfl⟩) | (go_at_call 33; refine HP1.out.mono ?_; rintro e w' ⟨⟨k, rfl, hk⟩, rfl⟩; have hk' : k < 0 := of_decide_eq_true hk; clear hk))
              go_ret2
              exact ⟨rfl, hor.out.next oo.out (by simp)⟩
          · rw [k4' r4] at HJ
            replace HJ := hid HJ
            replace HE1 := hid HE1
            rw [if_neg r4] at hdr
            clear her k2 k2' k4 k4' HP1
            by_cases he : en = 0
            · subst he
              rw [if_pos rfl] at hdr
              replace hdr := hid hdr
              go_wp2_with (first | (go_at_call 30; refine HJ.out.mono ?_; rintro e w' ⟨rfl, rfl⟩) | (go_at_call 34; refine HE1.out.mono ?_; rintro e w5 ⟨rfl, ho5⟩))
              exact ⟨⟨j + 1, by omega, by go_num, hdr, hid (hRI.out.only0 (oo.out.next ho5 (by simp))), hid (hor.out.next (oo.out.next ho5 (by simp)) (by simp))⟩, by simp [intOf]; omega⟩
            · have ge : (en == 0) = false := by simpa using he
              rw [if_neg he] at hdr
              subst hdr
              go_wp2_with (first | (go_at_call 30; refine HJ.out.mono ?_; rintro e w' ⟨rfl, rfl⟩) | (go_at_call 34; refine HE1.out.mono ?_; rintro e w5 ⟨rfl, ho5⟩; obtain ⟨c0, c1, c2, c3⟩ := I0.out.only ho5 (by simp)))
              go_ret2
              exact ⟨rfl, hor.out.next (oo.out.next ho5 (by simp)) (by simp)⟩
      · have g4 : ¬ ((j : Int) < (al.length : Int)) := by omega
        have hxx : x = (0, 0) := by rw [hq.out, List.drop_eq_nil_of_le (by omega)]; rfl
        subst hxx
        clear hq hev HE
        go_wp2
        go_ret2
        exact ⟨rfl, hor.out⟩
  · have ge : (ae == 0) = false := by simpa using hae
    rw [if_neg hae]
    clear hE hA hev
    go_enter Tryd.func27, Tryd.ntmps27
    go_wp2_with (go_at_call 22; refine HA.out.mono ?_; rintro e w1 ⟨ao1, cap1, rfl, hown1, ho1⟩; clear hown1)
    go_ret2
    exact ⟨rfl, ho1⟩

end Go.Proofs.YtemjhlhioeopnaaDoor
