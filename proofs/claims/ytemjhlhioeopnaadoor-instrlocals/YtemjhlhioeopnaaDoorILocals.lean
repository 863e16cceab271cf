/-
  The walk of InstrLocals: it answers true of whatever bytes, entries and number of locals, and writes nothing that was there. The table of words holds the words.
-/
import Derived.Test.YtemjhlhioeopnaaDoorICPure
namespace Go.Proofs.YtemjhlhioeopnaaDoor
open Go.RowKit

set_option maxHeartbeats 1000000 in
set_option maxRecDepth 100000 in
theorem locals_any {w : World} (hL : Laid w) {ao eo : Option Addr} {code : List UInt8} {l : List En} {d de cap ecap : Nat} (hB : RS w ao (bcs code) d) (hc : code.length ≤ cap) (hcl : cap ≤ 9223372036854775807)
    (hE : ES w eo l de) (hl : l.length ≤ 9223372036854775807) (hA : ∀ e ∈ l, e.2.1.length ≤ 9223372036854775807) (locals : Int) :
    Calls Tryd.prog 8 #[.slice ao code.length cap, .slice eo l.length ecap, .int .i64 locals] w fun e w' => e = .returned (.bool true) ∧ Only [] w w' := by
  have HK := hid (known_any hL)
  clear hL
  by_cases h5 : 1100 < code.length
  · have g1 : (1100 < (code.length : Int)) := by omega
    clear hB hE
    go_enter Tryd.func8, Tryd.ntmps8
    go_wp2_with (go_at_call 9; refine HK.out.mono ?_; rintro e w1 ⟨rfl, ho1⟩)
    go_ret
    exact ⟨rfl, ho1⟩
  have g1 : ¬ (1100 < (code.length : Int)) := by omega
  by_cases h4 : 400 < l.length
  · have g2 : (400 < (l.length : Int)) := by omega
    clear hB hE
    go_enter Tryd.func8, Tryd.ntmps8
    go_wp2_with (go_at_call 9; refine HK.out.mono ?_; rintro e w1 ⟨rfl, ho1⟩)
    go_ret
    exact ⟨rfl, ho1⟩
  have g2 : ¬ (400 < (l.length : Int)) := by omega
  have HC := fun W (hW : Only [] w W) (k : Int) => icheck_any (ecap := ecap) (hB.only0 hW) hc hcl (hE.only hW (by simp)) hl hA k
  have HC1 := fun W hW => HC W hW 256
  have HC2 := fun W hW => HC W hW locals
  clear HC
  have HA := fun W (hW : Only [] w W) => all_any (hB.only0 hW) hc hcl (by omega)
  have hp := fun h => @locals_pure code l h locals
  have hev : ∀ i ∈ (allR code).1, 0 ≤ i.2.2.1 ∧ i.2.2.1 < 65536 := fun i hi => by
    have h1 := all_each code i hi
    have h2 : 256 ^ (sizeN i.2.1 - 1) ≤ 256 ^ 2 := Nat.pow_le_pow_right (by decide) (by have := sizeN_le i.2.1; omega)
    have h3 : (256 : Nat) ^ 2 = 65536 := by decide
    have h4 := h1.2.2.2.2.2.2.2
    exact ⟨h1.2.2.2.2.2.2.1, by omega⟩
  have hln := all_len code
  generalize checkI code l 256 = X at *
  generalize checkI code l locals = Y at *
  generalize allR code = Z at *
  obtain ⟨xa, xe⟩ := X
  obtain ⟨ya, ye⟩ := Y
  obtain ⟨al, za, ze⟩ := Z
  simp only at hp hev hln
  obtain ⟨mo, hmo⟩ : ∃ mo, mo = mostL al 0 := ⟨_, rfl⟩
  rw [← hmo] at hp
  have hr : Hid (mo = mostL (al.drop 0) 0) := hmo
  clear hmo
  replace HC1 := hid HC1
  replace HC2 := hid HC2
  replace HA := hid HA
  replace hp := hid hp
  replace hev := hid hev
  clear hB hE hA
  go_enter Tryd.func8, Tryd.ntmps8
  go_wp2_with (first | (go_at_call 9; refine HK.out.mono ?_; rintro e w1 ⟨rfl, ho1⟩) | fail)
  refine (HC1.out _ ho1).mono ?_
  rintro e w2 ⟨rfl, ho2⟩
  have o2 := hid (ho1.next ho2 (by simp))
  clear HC1 HK
  go_wp2_with fail
  refine (HA.out _ o2.out).mono ?_
  rintro e w3 ⟨ao3, cap3, rfl, hown3, ho3⟩
  have o3 := hid (o2.out.next ho3 (by simp))
  obtain ⟨d3, hd3⟩ : ∃ d, RS w3 ao3 (qcs al) d := ⟨_, (RS.of_owns hown3).1⟩
  have R3 := hid hd3
  clear HA hown3 hd3
  go_wp2
  go_loopw [12, 13] (fun v i wr => ∃ (j : Nat) (m : Int), j ≤ al.length ∧ i = .int .i64 (j : Int) ∧ v = .int .i64 m ∧ Hid (mo = mostL (al.drop j) m) ∧ 0 ≤ m ∧ m ≤ 65536 ∧ Hid (RS wr ao3 (qcs al) d3) ∧ Hid (Only [] w wr)) (fun _ i _ => al.length - (intOf i).toNat)
  case atStart => exact ⟨0, 0, by omega, rfl, rfl, hr, by omega, by omega, R3, o3⟩
  case round =>
    obtain ⟨j, m, hj, rfl, rfl, hq, hm0, hm1, hR, hor⟩ := hrel
    clear hr R3 o3
    by_cases hlt : j < al.length
    · have g3 : ((j : Int) < (al.length : Int)) := by omega
      have hRI := hid hR.out
      obtain ⟨off, rfl, y0, y1, y2, y3⟩ := hR.out.inAt hlt
      obtain ⟨v1, v2⟩ := hev.out al[j] (List.getElem_mem hlt)
      have hdr := mostL_drop (m := m) hlt
      rw [← hq.out] at hdr
      clear hq hev hp HC2
      generalize al[j] = i at *
      obtain ⟨p, o, n, s⟩ := i
      simp only at y0 y1 y2 y3 v1 v2 hdr
      by_cases h3 : o = 3
      · subst h3
        rw [if_pos (.inl rfl)] at hdr
        replace hdr := hid hdr
        go_wp2
        exact ⟨⟨j + 1, max m (n + 1), by omega, by go_num, rfl, hdr, by omega, by omega, hRI, hor⟩, by simp [intOf]; omega⟩
      · have b3 : (o == 3) = false := by simpa using h3
        by_cases h4 : o = 4
        · subst h4
          rw [if_pos (.inr rfl)] at hdr
          replace hdr := hid hdr
          go_wp2
          exact ⟨⟨j + 1, max m (n + 1), by omega, by go_num, rfl, hdr, by omega, by omega, hRI, hor⟩, by simp [intOf]; omega⟩
        · have b4 : (o == 4) = false := by simpa using h4
          rw [if_neg (by omega)] at hdr
          replace hdr := hid hdr
          go_wp2
          exact ⟨⟨j + 1, m, by omega, by go_num, rfl, hdr, by omega, by omega, hRI, hor⟩, by simp [intOf]; omega⟩
    · have g3 : ¬ ((j : Int) < (al.length : Int)) := by omega
      have hmm : mo = m := by rw [hq.out, List.drop_eq_nil_of_le (by omega)]; rfl
      subst hmm
      clear hq hev hR
      by_cases he : xe = 0
      · subst he
        obtain ⟨hp1, hp2⟩ := hp.out rfl
        replace HC2 := hid (HC2.out _ hor.out)
        clear hp
        rcases hp1 with rfl | rfl
        · rcases (hp2.1 rfl) with h | h
          · subst h
            clear hp2
            go_wp2_with (go_at_call 26; refine HC2.out.mono ?_; rintro e w5 ⟨rfl, ho5⟩)
            go_ret
            exact ⟨rfl, hor.out.next ho5 (by simp)⟩
          · by_cases h0 : mo = 0
            · subst h0
              clear hp2
              go_wp2_with (go_at_call 26; refine HC2.out.mono ?_; rintro e w5 ⟨rfl, ho5⟩)
              go_ret
              exact ⟨rfl, hor.out.next ho5 (by simp)⟩
            · have b0 : (mo == 0) = false := by simpa using h0
              clear hp2
              go_wp2_with (go_at_call 26; refine HC2.out.mono ?_; rintro e w5 ⟨rfl, ho5⟩)
              go_ret
              exact ⟨rfl, hor.out.next ho5 (by simp)⟩
        · have hn : ¬ (mo = 0 ∨ mo ≤ locals) := fun q => absurd (hp2.2 q) (by decide)
          have h0 : ¬ (mo = 0) := fun q => hn (.inl q)
          have b0 : (mo == 0) = false := by simpa using h0
          have h1 : ¬ (mo ≤ locals) := fun q => hn (.inr q)
          clear hn hp2
          go_wp2_with (go_at_call 26; refine HC2.out.mono ?_; rintro e w5 ⟨rfl, ho5⟩)
          go_ret
          have h2 : ¬ (mo ≤ locals) := by omega
          exact ⟨by simp [h2], hor.out.next ho5 (by simp)⟩
      · have ge : (xe == 0) = false := by simpa using he
        clear hp HC2
        go_wp2
        go_ret
        exact ⟨rfl, hor.out⟩

theorem locals_walk {w : World} (hL : Laid w) {ao eo : Option Addr} {code : List UInt8} {l : List En} {d de cap ecap : Nat} (hB : RS w ao (bcs code) d) (hc : code.length ≤ cap) (hcl : cap ≤ 9223372036854775807) (_ : ao = none → cap = 0)
    (hE : ES w eo l de) (_ : eo = none → ecap = 0) (hl : l.length ≤ 9223372036854775807) (hA : ∀ e ∈ l, e.2.1.length ≤ 9223372036854775807) (locals : Int) :
    Calls Tryd.prog 8 #[.slice ao code.length cap, .slice eo l.length ecap, .int .i64 locals] w fun e w' => e = .returned (.bool true) ∧ Below w.heap.size w w' :=
  (locals_any hL hB hc hcl hE hl hA locals).mono fun _ _ h => ⟨h.1, h.2.below (Nat.le_refl _) (by simp)⟩

end Go.Proofs.YtemjhlhioeopnaaDoor
