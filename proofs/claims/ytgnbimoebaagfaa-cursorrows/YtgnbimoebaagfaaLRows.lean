/-
  The walk of CursorRows: it answers true, and writes nothing that was there. All that is written is at most 1.5 times 2 to the power of 47 bytes.
-/
import Derived.Test.YtgnbimoebaagfaaKnown
namespace Go.Proofs.Ytgnbimoebaagfaa
open Go.RowKit

theorem wN8_take_one (s : List UInt8 × Int) (l : List Int) (k : Nat) (h : k < l.length) : wN8 s (l.take (k + 1)) = wN8 (wN8 s (l.take k)) [l[k]] := by
  rw [wN8_take_succ s l k h]
  simp [wN8]

theorem wAll_take_one (size : Nat) (s : List UInt8 × Int) (l : List Int) (k : Nat) (h : k < l.length) : wAll size s (l.take (k + 1)) = wAll size (wAll size s (l.take k)) [l[k]] := wAll_take_succ size s l k h

theorem wText_take_one (s : List UInt8 × Int) (l : List ByteArray) (k : Nat) (h : k < l.length) : wText s (l.take (k + 1)) = wText (wText s (l.take k)) [l[k]] := wText_take_succ s l k h

/-- Two writers that do not meet; nothing old has turned. -/
structure Two (w wr : World) (p g q h : Nat) (s t : List UInt8 × Int) : Prop where
  one : WrE wr p p g s
  two : WrE wr p q h t
  pq : p ≠ q
  ph : p ≠ h
  gq : g ≠ q
  gh : g ≠ h
  old : Only [] w wr
  le : w.heap.size ≤ p

theorem Two.far {w wx : World} {p g q h : Nat} {s t : List UInt8 × Int} (H : Two w wx p g q h s t) (y : Nat) (hy : y < w.heap.size) : y ∉ [p, g] ∧ y ∉ [q, h] := by
  have l1 := H.one.lt
  have l2 := H.two.lt
  have := H.le
  simp
  omega

theorem Two.alloc {w wr : World} {p g q h : Nat} {s t : List UInt8 × Int} (H : Two w wr p g q h s t) (o : Obj) : Two w (wr.alloc o) p g q h s t := by
  have oa := (Only.refl [] wr).alloc o
  exact { H with one := H.one.only oa (by simp) (by simp), two := H.two.only oa (by simp) (by simp), old := H.old.alloc o }

theorem Two.first {w wr w' : World} {p g q h : Nat} {s t s' : List UInt8 × Int} (H : Two w wr p g q h s t) (hto : WTo wr p p g w' s') : ∃ g', Two w w' p g' q h s' t := by
  obtain ⟨g', hw, hg, ho⟩ := hto
  have l1 := H.one.lt
  have l2 := H.two.lt
  have := H.pq
  have := H.ph
  have := H.gq
  have := H.gh
  have := H.le
  exact ⟨g', hw, H.two.only ho (by simp; omega) (by simp; omega), H.pq, H.ph, by omega, by omega, H.old.next ho (by simp; omega), H.le⟩

theorem Two.second {w wr w' : World} {p g q h : Nat} {s t t' : List UInt8 × Int} (H : Two w wr p g q h s t) (hto : WTo wr p q h w' t') : ∃ h', Two w w' p g q h' s t' := by
  obtain ⟨h', hw, hg, ho⟩ := hto
  have l1 := H.one.lt
  have l2 := H.two.lt
  have := H.pq
  have := H.ph
  have := H.gq
  have := H.gh
  have := H.le
  exact ⟨h', H.one.only ho (by simp; omega) (by simp; omega), hw, H.pq, by omega, H.gq, by omega, H.old.next ho (by simp; omega), H.le⟩

set_option maxHeartbeats 8000000 in
set_option maxRecDepth 100000 in
theorem rows_walk {w : World} {ao bo eo so : Option Addr} {os ts es : List Int} {ss : List ByteArray} {ac bc ec sc ad bd ed sd : Nat} (ha : NS .i64 w ao os ad) (hb : NS .i64 w bo ts bd) (he : NS .i64 w eo es ed) (hs : SS w so ss sd)
    (sa : 8 * os.length ≤ 140737488351232) (sb : 8 * ts.length ≤ 140737488351232) (se : 8 * es.length ≤ 140737488351232) (hss : ss.length ≤ 9223372036854775807) (hsl : ∀ b ∈ ss, b.size ≤ 9223372036854775807) :
    Calls Try.prog 5 #[.slice ao os.length ac, .slice bo ts.length bc, .slice eo es.length ec, .slice so ss.length sc] w fun e w' => e = .returned (.bool true) ∧ Below w.heap.size w w' := by
  have HSL := hid hsl
  clear hsl
  go_enter Try.func5, Try.ntmps5
  go_wp2_with fail
  refine (known_any w).mono ?_
  rintro e w1 ⟨rfl, ho1⟩
  have z1 := ho1.size
  go_wp2_with fail
  refine (newWriter_any w1 w1.heap.size (Nat.le_refl _)).mono ?_
  rintro e w2 ⟨rfl, hw2, ho2⟩
  have z2 := ho2.size
  have l2 := hw2.lt
  go_wp2_with fail
  refine (newWriter_any w2 w1.heap.size z2).mono ?_
  rintro e w3 ⟨rfl, hv3, ho3⟩
  generalize hp : w1.heap.size = p at *
  generalize hq : w2.heap.size = q at *
  have hT : Two w w3 p p q q ([], 0) ([], 0) := ⟨hw2.only ho3 (by simp) (by simp), hv3, by omega, by omega, by omega, by omega, (ho1.next ho2 (by simp)).next ho3 (by simp), z1⟩
  clear hp hq ho1 ho2 ho3 hw2 hv3 l2 z2
  by_cases h100 : ss.length ≤ 100
  · have g100 : ¬ ((100 : Int) < (ss.length : Int)) := by omega
    have HC := hid (wu1_any hT.one (ha.only hT.old (by simp)) (fun hne => (hT.far _ (ha.lt hne)).1) (by show 0 + 1 * os.length ≤ _; omega) (lcap := ac))
    go_wp2_with fail
    refine HC.out.mono ?_
    rintro e w4 ⟨rfl, hto⟩
    obtain ⟨g4, hT⟩ := hT.first hto
    clear HC hto
    have n4 := wAll_len 1 ([], 0) os
    simp only [List.length_nil] at n4
    generalize hA : wAll 1 ([], 0) os = A at *
    have HA := hid hA
    clear hA
    have HC := hid (wu2_any hT.one (hb.only hT.old (by simp)) (fun hne => (hT.far _ (hb.lt hne)).1) (by omega) (lcap := bc))
    go_wp2_with fail
    refine HC.out.mono ?_
    rintro e w5 ⟨rfl, hto⟩
    obtain ⟨g5, hT⟩ := hT.first hto
    clear HC hto
    have n5 := wAll_len 2 A ts
    generalize hB : wAll 2 A ts = B at *
    have HB := hid hB
    clear hB
    have HC := hid (wn8_any hT.one (he.only hT.old (by simp)) (fun hne => (hT.far _ (he.lt hne)).1) (by omega) (lcap := ec))
    go_wp2_with fail
    refine HC.out.mono ?_
    rintro e w6 ⟨rfl, hto⟩
    obtain ⟨g6, hT⟩ := hT.first hto
    clear HC hto
    have n6 := wN8_len B es
    generalize hC : wN8 B es = C at *
    have HCC := hid hC
    clear hC
    have HC := hid (wtext_any hT.one (hs.only hT.old (by simp)) (fun hne => (hT.far _ (hs.lt hne)).1) (by omega) HSL.out (lcap := sc))
    go_wp2_with fail
    refine HC.out.mono ?_
    rintro e w7 ⟨rfl, hto⟩
    obtain ⟨g7, hT⟩ := hT.first hto
    clear HC hto
    have n7 := wText_len C ss
    generalize hD : wText C ss = D at *
    have HD := hid hD
    clear hD
    go_wp2
    go_loopw [11] (fun i wr => ∃ j : Nat, ∃ g h, j ≤ os.length ∧ i = .int .i64 (j : Int) ∧ Two w wr p g q h D (wAll 1 ([], 0) (os.take j))) (fun i _ => os.length - (intOf i).toNat)
    case atStart => exact ⟨0, _, _, by omega, rfl, by simpa [wAll] using hT⟩
    case round =>
      obtain ⟨j, g, h, hj, rfl, hT⟩ := hrel
      by_cases hlt : j < os.length
      · have hne : os ≠ [] := by intro e; simp [e] at hlt
        rcases ha.only hT.old (by simp) with hh | ⟨off, rfl, hc⟩
        · exact absurd hh hne
        have hck := hc j hlt
        have Hsucc := hid (wAll_take_one 1 ([], 0) os j hlt)
        have hll := wAll_len 1 ([], 0) (os.take j)
        simp only [List.length_nil] at hll
        have hll2 : (os.take j).length ≤ j := List.length_take_le _ _
        generalize os[j] = x at *
        generalize wAll 1 ([], 0) (os.take j) = t at *
        have hTa := hT.alloc (.cells #[.int .i64 x] 3)
        have hlt2 := hT.two.lt
        have HW := hid (wu1_any hTa.two (ns_one wr x .i64 3) (fun _ => by simp; omega) (by show t.1.length + 1 * 1 ≤ _; omega) (lcap := 1))
        clear hc hne
        go_wp2_with fail
        refine HW.out.mono ?_
        rintro e w8 ⟨rfl, hto⟩
        obtain ⟨h8, hT8⟩ := hTa.second hto
        clear HW hto
        go_wp2
        exact ⟨⟨j + 1, g, h8, by omega, by go_num, by rw [Hsucc.out]; exact hT8⟩, by simp [intOf]; omega⟩
      · rw [List.take_of_length_le (by omega), HA.out] at hT
        go_wp2
        go_loopw [12] (fun i wr => ∃ j : Nat, ∃ g h, j ≤ ts.length ∧ i = .int .i64 (j : Int) ∧ Two w wr p g q h D (wAll 2 A (ts.take j))) (fun i _ => ts.length - (intOf i).toNat)
        case atStart => exact ⟨0, _, _, by omega, rfl, by simpa [wAll] using hT⟩
        case round =>
          obtain ⟨j, g, h, hj, rfl, hT⟩ := hrel
          by_cases hlt : j < ts.length
          · have hne : ts ≠ [] := by intro e; simp [e] at hlt
            rcases hb.only hT.old (by simp) with hh | ⟨off, rfl, hc⟩
            · exact absurd hh hne
            have hck := hc j hlt
            have Hsucc := hid (wAll_take_one 2 A ts j hlt)
            have hll := wAll_len 2 A (ts.take j)
            have hll2 : (ts.take j).length ≤ j := List.length_take_le _ _
            generalize ts[j] = x at *
            generalize wAll 2 A (ts.take j) = t at *
            have hTa := hT.alloc (.cells #[.int .i64 x] 3)
            have hlt2 := hT.two.lt
            have HW := hid (wu2_any hTa.two (ns_one wr x .i64 3) (fun _ => by simp; omega) (by show t.1.length + 2 * 1 ≤ _; omega) (lcap := 1))
            clear hc hne
            go_wp2_with fail
            refine HW.out.mono ?_
            rintro e w8 ⟨rfl, hto⟩
            obtain ⟨h8, hT8⟩ := hTa.second hto
            clear HW hto
            go_wp2
            exact ⟨⟨j + 1, g, h8, by omega, by go_num, by rw [Hsucc.out]; exact hT8⟩, by simp [intOf]; omega⟩
          · rw [List.take_of_length_le (by omega), HB.out] at hT
            go_wp2
            go_loopw [13] (fun i wr => ∃ j : Nat, ∃ g h, j ≤ es.length ∧ i = .int .i64 (j : Int) ∧ Two w wr p g q h D (wN8 B (es.take j))) (fun i _ => es.length - (intOf i).toNat)
            case atStart => exact ⟨0, _, _, by omega, rfl, by simpa [wN8, wPut_nil] using hT⟩
            case round =>
              obtain ⟨j, g, h, hj, rfl, hT⟩ := hrel
              by_cases hlt : j < es.length
              · have hne : es ≠ [] := by intro e; simp [e] at hlt
                rcases he.only hT.old (by simp) with hh | ⟨off, rfl, hc⟩
                · exact absurd hh hne
                have hck := hc j hlt
                have Hsucc := hid (wN8_take_one B es j hlt)
                have hll := wN8_len B (es.take j)
                have hll2 : (es.take j).length ≤ j := List.length_take_le _ _
                generalize es[j] = x at *
                generalize wN8 B (es.take j) = t at *
                have hTa := hT.alloc (.cells #[.int .i64 x] 2)
                have hlt2 := hT.two.lt
                have HW := hid (wn8_any hTa.two (ns_one wr x .i64 2) (fun _ => by simp; omega) (by show t.1.length + 8 * 1 ≤ _; omega) (lcap := 1))
                clear hc hne
                go_wp2_with fail
                refine HW.out.mono ?_
                rintro e w8 ⟨rfl, hto⟩
                obtain ⟨h8, hT8⟩ := hTa.second hto
                clear HW hto
                go_wp2
                exact ⟨⟨j + 1, g, h8, by omega, by go_num, by rw [Hsucc.out]; exact hT8⟩, by simp [intOf]; omega⟩
              · rw [List.take_of_length_le (by omega), HCC.out] at hT
                go_wp2
                go_loopw [14] (fun i wr => ∃ j : Nat, ∃ g h, j ≤ ss.length ∧ i = .int .i64 (j : Int) ∧ Two w wr p g q h D (wText C (ss.take j))) (fun i _ => ss.length - (intOf i).toNat)
                case atStart => exact ⟨0, _, _, by omega, rfl, by simpa [wText] using hT⟩
                case round =>
                  obtain ⟨j, g, h, hj, rfl, hT⟩ := hrel
                  by_cases hlt : j < ss.length
                  · have hne : ss ≠ [] := by intro e; simp [e] at hlt
                    rcases hs.only hT.old (by simp) with hh | ⟨off, rfl, hc⟩
                    · exact absurd hh hne
                    have hck := hc j hlt
                    have Hsucc := hid (wText_take_one C ss j hlt)
                    have hll := wText_len C (ss.take j)
                    have hll2 : (ss.take j).length ≤ j := List.length_take_le _ _
                    have hbl := HSL.out _ (List.getElem_mem hlt)
                    generalize ss[j] = x at *
                    generalize wText C (ss.take j) = t at *
                    have hTa := hT.alloc (.cells #[.string x] 9)
                    have hlt2 := hT.two.lt
                    have HW := hid (wtext_any hTa.two (ss_one wr x 9) (fun _ => by simp; omega) (by show t.1.length + 256 * 1 ≤ _; omega) (by intro b hb; simp at hb; subst hb; exact hbl) (lcap := 1))
                    clear hc hne
                    go_wp2_with fail
                    refine HW.out.mono ?_
                    rintro e w8 ⟨rfl, hto⟩
                    obtain ⟨h8, hT8⟩ := hTa.second hto
                    clear HW hto
                    go_wp2
                    exact ⟨⟨j + 1, g, h8, by omega, by go_num, by rw [Hsucc.out]; exact hT8⟩, by simp [intOf]; omega⟩
                  · rw [List.take_of_length_le (by omega), HD.out] at hT
                    go_wp2_with fail
                    refine (wdone_any hT.one (by omega)).mono ?_
                    rintro e w9 ⟨xo, xcap, rfl, hx9, ho9⟩
                    have hw9 := hT.two.only ho9 (by simp) (by simp)
                    have hv9 := hT.one.only ho9 (by simp) (by simp)
                    have hO9 := hT.old.next ho9 (by simp)
                    go_wp2_with fail
                    refine (wdone_any hw9 (by omega)).mono ?_
                    rintro e w10 ⟨yo, ycap, rfl, hy10, ho10⟩
                    have hw10 := hw9.only ho10 (by simp) (by simp)
                    have hv10 := hv9.only ho10 (by simp) (by simp)
                    have hO10 := hO9.next ho10 (by simp)
                    generalize wDone D = E at *
                    obtain ⟨xb, _⟩ := BS.of_owns (own_only hx9 ho10 (by simp))
                    obtain ⟨yb, _⟩ := BS.of_owns hy10
                    have kx := conv_str xb xcap
                    have ky := conv_str yb ycap
                    clear hx9 hy10 xb yb
                    go_wp2_with fail
                    refine (wlen_any hv10).mono ?_
                    rintro e w11 ⟨rfl, rfl⟩
                    go_wp2_with fail
                    refine (wlen_any hw10).mono ?_
                    rintro e w11 ⟨rfl, rfl⟩
                    go_wp2
                    go_ret
                    exact ⟨by simp, hO10.below (Nat.le_refl _) (by simp)⟩
  · have g100 : ((100 : Int) < (ss.length : Int)) := by omega
    go_wp2
    go_ret
    exact ⟨rfl, hT.old.below (Nat.le_refl _) (by simp)⟩

end Go.Proofs.Ytgnbimoebaagfaa
