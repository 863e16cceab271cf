/-
  The walk of CursorGrows: it answers true, and writes nothing that was there. What came in is at most 2 to the power of 20 bytes.
-/
import Derived.Test.YtgnbimoebaagfaaKnown
namespace Go.Proofs.Ytgnbimoebaagfaa
open Go.RowKit

theorem own_bs {w : World} {B : Nat} {ao : Option Addr} {cap : Nat} {bs : List UInt8} (h : w.ownsRow B 5 1 (.slice ao bs.length cap) bs.length (bcs bs)) :
    ∃ d, BS w ao bs d ∧ (bs ≠ [] → B ≤ d ∧ d < w.heap.size) ∧ (ao = none → cap = 0) ∧ bs.length ≤ cap := by
  obtain ⟨hb, hc, hm, hn, ha⟩ := BS.of_owns h
  refine ⟨_, hb, fun hne => ?_, hn, hc⟩
  cases ao with
  | none => exact absurd hb.none_nil hne
  | some a => exact ⟨(ha a rfl).1, (ha a rfl).2.1⟩

theorem str_append (a b : List UInt8) : str a ++ str b = str (a ++ b) := by
  simp [str, ByteArray.ext_iff]

theorem wAll_one (size : Nat) (s : List UInt8 × Int) (x : Int) : wAll size s [x] = wOne size s x := rfl

theorem wOne_bad (size : Nat) (C : List UInt8) (x : Int) (h : x < 0 ∨ (256 : Int) ^ size ≤ x) : wOne size (C, 0) x = (C, 1) := by
  unfold wOne
  rw [if_pos rfl, if_pos h]

theorem wOne_good (size : Nat) (C : List UInt8) (x : Int) (h : ¬ (x < 0 ∨ (256 : Int) ^ size ≤ x)) : wOne size (C, 0) x = (C ++ toBE x.toNat size, 0) := by
  unfold wOne
  rw [if_pos rfl, if_neg h]

set_option maxHeartbeats 4000000 in
set_option maxRecDepth 100000 in
theorem grows_walk {w : World} {ao bo : Option Addr} {aa bs : List UInt8} {acap bcap ad bd : Nat} (x : Int) (ha : BS w ao aa ad) (hna : ao = none → acap = 0) (hb : BS w bo bs bd) (hnb : bo = none → bcap = 0) (hsa : aa.length ≤ 1048576) (hsb : bs.length ≤ 1048576) :
    Calls Try.prog 8 #[.slice ao aa.length acap, .slice bo bs.length bcap, .int .i64 x] w fun e w' => e = .returned (.bool true) ∧ Below w.heap.size w w' := by
  have HNA := hid hna
  have HNB := hid hnb
  clear hna hnb
  go_enter Try.func8, Try.ntmps8
  go_wp2_with fail
  refine (known_any w).mono ?_
  rintro e w1 ⟨rfl, ho1⟩
  have z1 := ho1.size
  go_wp2_with fail
  refine (newWriter_any w1 w1.heap.size (Nat.le_refl _)).mono ?_
  rintro e w2 ⟨rfl, hw2, ho2⟩
  generalize hp : w1.heap.size = p at *
  have hO2 : Only [] w w2 := ho1.next ho2 (by simp)
  clear hp ho1 ho2
  have l2 := hw2.lt
  have ha2 := ha.only hO2 (by simp)
  have HB := hid (wbytes_any hw2 ha2 HNA.out (by show 0 + aa.length ≤ _; omega))
  go_wp2_with fail
  refine HB.out.mono ?_
  rintro e w3 ⟨rfl, g3, hw3, hg3, ho3⟩
  have e3 : wPut ([], 0) aa = (aa, 0) := by simp [wPut]
  rw [e3] at hw3
  clear HB e3
  have hO3 : Only [] w w3 := hO2.next ho3 (by simp; omega)
  have l3 := hw3.lt
  have z3 := ho3.size
  go_wp2_with fail
  refine (wdone_any hw3 (by show aa.length ≤ _; omega)).mono ?_
  rintro e w4 ⟨xo, xcap, rfl, hx4, ho4⟩
  have e4 : wDone (aa, 0) = aa := by simp [wDone]
  rw [e4] at hx4 ⊢
  clear e4
  have hw4 := hw3.only ho4 (by simp) (by simp)
  have hO4 := hO3.next ho4 (by simp)
  have z4 := ho4.size
  obtain ⟨xd, hxb, hxd, hxn, hxc⟩ := own_bs hx4
  have hb4 := hb.only hO4 (by simp)
  have HB := hid (wbytes_any hw4 hb4 HNB.out (by show aa.length + bs.length ≤ _; omega))
  go_wp2_with fail
  refine HB.out.mono ?_
  rintro e w5 ⟨rfl, g5, hw5, hg5, ho5⟩
  have e5 : wPut (aa, 0) bs = (aa ++ bs, 0) := by simp [wPut]
  rw [e5] at hw5
  clear HB e5
  have hlen : (aa ++ bs).length = aa.length + bs.length := List.length_append
  have hcat : str aa ++ str bs = str (aa ++ bs) := str_append aa bs
  generalize aa ++ bs = C at *
  have hC : C.length ≤ 2097152 := by omega
  clear hlen
  have hO5 : Only [] w w5 := hO4.next ho5 (by simp; omega)
  have l5 := hw5.lt
  have z5 := ho5.size
  have hxb5 := hxb.only ho5 (fun hne => by have := hxd hne; simp; omega)
  go_wp2_with fail
  refine (wdone_any hw5 (by show C.length ≤ _; omega)).mono ?_
  rintro e w6 ⟨yo, ycap, rfl, hy6, ho6⟩
  have e6 : wDone (C, 0) = C := by simp [wDone]
  rw [e6] at hy6 ⊢
  clear e6
  have hw6 := hw5.only ho6 (by simp) (by simp)
  have hO6 := hO5.next ho6 (by simp)
  have z6 := ho6.size
  obtain ⟨yd, hyb, hyd, hyn, hyc⟩ := own_bs hy6
  have kx := conv_str (hxb5.only ho6 (by simp)) xcap
  have ky := conv_str hyb ycap
  have ka := conv_str (ha.only hO6 (by simp)) acap
  have kb := conv_str (hb.only hO6 (by simp)) bcap
  clear hxb hxb5 hx4
  have sa : (str aa).size ≤ 1048576 := hsa
  have sb : (str bs).size ≤ 1048576 := hsb
  go_wp2_with fail
  have HU := hid (wu1_any (hw6.only ((Only.refl [] w6).alloc (.cells #[.int .i64 x] 3)) (by simp) (by simp)) (ns_one w6 x .i64 3) (fun _ => by simp; omega) (by show C.length + 1 * 1 ≤ _; omega) (lcap := 1))
  refine HU.out.mono ?_
  rintro e w7 ⟨rfl, g7, hw7, hg7, ho7⟩
  have hO7 : Only [] w w7 := (hO6.alloc (.cells #[.int .i64 x] 3)).next ho7 (by simp; omega)
  have l7 := hw7.lt
  clear HU kx ky ka kb hcat
  by_cases hx : x < 0 ∨ (256 : Int) ≤ x
  · have e7 : wAll 1 (C, 0) [x] = (C, 1) := by rw [wAll_one]; exact wOne_bad 1 C x hx
    rw [e7] at hw7
    clear e7
    go_wp2_with fail
    refine (wdone_any hw7 (by show C.length ≤ _; omega)).mono ?_
    rintro e w8 ⟨zo, zcap, rfl, hz8, ho8⟩
    have e8 : wDone (C, 1) = [] := by simp [wDone]
    rw [e8] at hz8 ⊢
    clear e8
    have hw8 := hw7.only ho8 (by simp) (by simp)
    have hO8 := hO7.next ho8 (by simp)
    have HB := hid (wbytes_any hw8 (ha.only hO8 (by simp)) HNA.out (by show C.length + aa.length ≤ _; omega))
    have e9 : wPut (C, 1) aa = (C, 1) := by simp [wPut]
    rw [e9] at HB
    clear e9
    rcases hx with hx | hx
    all_goals
      go_wp2_with fail
      refine HB.out.mono ?_
      rintro e w9 ⟨rfl, g9, hw9, hg9, ho9⟩
      have hO9 : Only [] w w9 := hO8.next ho9 (by simp; omega)
      go_wp2_with fail
      refine (wdone_any hw9 (by show C.length ≤ _; omega)).mono ?_
      rintro e w10 ⟨uo, ucap, rfl, hu10, ho10⟩
      have e8 : wDone (C, 1) = [] := by simp [wDone]
      rw [e8] at hu10 ⊢
      clear e8
      have hw10 := hw9.only ho10 (by simp) (by simp)
      have hO10 := hO9.next ho10 (by simp)
      go_wp2_with fail
      refine (wlen_any hw10).mono ?_
      rintro e w11 ⟨rfl, rfl⟩
      go_wp2
      go_ret
      exact ⟨rfl, hO10.below (Nat.le_refl _) (by simp)⟩
  · obtain ⟨k, rfl⟩ := Int.eq_ofNat_of_zero_le (by omega : 0 ≤ x)
    have hk : k < 256 := by omega
    have e7 : wAll 1 (C, 0) [(k : Int)] = (C ++ [UInt8.ofNat k], 0) := by
      rw [wAll_one, wOne_good 1 C _ hx, Int.toNat_natCast]
      simp [toBE]
    rw [e7] at hw7
    clear e7
    have hl7 : (C ++ [UInt8.ofNat k]).length = C.length + 1 := by simp
    go_wp2_with fail
    refine (wdone_any hw7 (by show (C ++ [UInt8.ofNat k]).length ≤ _; omega)).mono ?_
    rintro e w8 ⟨zo, zcap, rfl, hz8, ho8⟩
    have e8 : wDone (C ++ [UInt8.ofNat k], 0) = C ++ [UInt8.ofNat k] := by simp [wDone]
    rw [e8] at hz8 ⊢
    rw [hl7]
    clear e8
    have hO8 := hO7.next ho8 (by simp)
    obtain ⟨zd, hzb, hzd, hzn, hzc⟩ := own_bs hz8
    rcases hzb with hzb | ⟨off, rfl, hzb⟩
    · simp at hzb
    have hcz := hzb C.length (by rw [hl7]; omega)
    have hel : (C ++ [UInt8.ofNat k])[C.length]'(by rw [hl7]; omega) = UInt8.ofNat k := by simp
    rw [hel] at hcz
    have hkk : ((UInt8.ofNat k).toNat : Int) = (k : Int) := by rw [UInt8.toNat_ofNat']; omega
    rw [hkk] at hcz
    rw [hl7] at hzc
    clear hzb hl7 hel hkk hx hz8
    go_wp2
    go_ret
    exact ⟨rfl, hO8.below (Nat.le_refl _) (by simp)⟩

end Go.Proofs.Ytgnbimoebaagfaa
