/-
  What the proof leans on, part 16 of 48. The conditions stand in each theorem.
-/
import Derived.Test.YtildemmkhndhjaaGreatDoorB15
namespace Go.Proofs.YtildemmkhndhjaaGreatDoor
open Go.RowKit

/-- Begins an instruction there, by a table? -/
def plB (bl : List Bool) (k : Int) : Bool:=decide (0≤k) && (decide (k < (bl.length : Int)) && bl.getD k.toNat false)

set_option maxHeartbeats 1000000 in
theorem place_clo {w : World} {b g : Nat} {bl : List Bool} {cap : Nat} {go : Option Addr} (hb : w.cell? ⟨b,0,none⟩ = some (.slice go bl.length cap)) (hR : RS w go (lcs bl) g) (k : Int) :
  Calls Tryz.prog 198 #[.int .i64 k,.pointer (some ⟨b,0,none⟩)] w fun e w'=>e = .returned (.bool (plB bl k))∧w' = w:=by
 unfold plB
 by_cases h0 : 0≤k
 ·by_cases h1 : k < (bl.length : Int)
  ·obtain ⟨j,rfl⟩:=Int.eq_ofNat_of_zero_le h0
   have hj : j < bl.length:=by omega
   obtain ⟨off,rfl,hc⟩:=hR.at (j:=j) (by rw [lcs_length]; omega)
   have hcj:=hc j _ (lcs_get bl j hj)
   rw [decide_eq_true h0,decide_eq_true h1,Bool.true_and,Bool.true_and,Int.toNat_natCast]
   have hg : bl.getD j false = bl[j]:=by simp [List.getD,hj]
   rw [hg]
   generalize bl[j] = z at *
   clear hc hR hg
   go_enter Tryz.func198,Tryz.ntmps198
   go_wp2
   go_ret
   exact ⟨rfl,rfl⟩
  ·rw [decide_eq_true h0,decide_eq_false h1,Bool.true_and,Bool.false_and]
   clear hR
   go_enter Tryz.func198,Tryz.ntmps198
   go_wp2
   go_ret
   exact ⟨rfl,rfl⟩
 ·rw [decide_eq_false h0,Bool.false_and]
  clear hR
  go_enter Tryz.func198,Tryz.ntmps198
  go_wp2
  go_ret
  exact ⟨rfl,rfl⟩

def handB (bl : List Bool) (h : Hd) : Int:=
 if plB bl h.1 = false∨(plB bl h.2.1 = false∧h.2.1≠(bl.length : Int))∨h.2.1≤h.1 then 19 else if plB bl h.2.2.1 = true then (if nameOK h.2.2.2 = true then 0 else 14) else 18

set_option maxHeartbeats 4000000 in
theorem checkHandler_any {w : World} {g : Nat} {bl : List Bool} {cap : Nat} {go : Option Addr} (hR : RS w go (lcs bl) g) (h : Hd) (hn : h.2.2.2.length≤9223372036854775807) :
  Calls Tryz.prog 171 #[.slice go bl.length cap,hdV h] w fun e w'=>e = .returned (.int .i64 (handB bl h))∧Only [] w w':=by
 obtain ⟨h1,h2,h3,cn⟩:=h
 have o0:=hid (((Only.refl [] w).alloc (.cells #[.slice go bl.length cap] 246)).alloc (.cells #[.int .i64 h1,.int .i64 h2,.int .i64 h3,.string (str cn)] 46))
 have bc:=fun W (ho : Only [] w W) (hc : W.cell? ⟨w.heap.size,0,none⟩ = some (.slice go bl.length cap)) k=>place_clo (b:=w.heap.size) hc (hR.only0 ho) k
 have cc : ((w.alloc (.cells #[.slice go bl.length cap] 246)).alloc (.cells #[.int .i64 h1,.int .i64 h2,.int .i64 h3,.string (str cn)] 46)).cell? ⟨w.heap.size,0,none⟩ = some (.slice go bl.length cap):=cell_alloc _ (by rw [cell_new]; rfl)
 have H1:=hid (fun W (ho : Only [] w W)=>bc _ o0.out cc h1)
 have H2:=hid (fun W (ho : Only [] w W)=>bc _ o0.out cc h2)
 have H3:=hid (fun W (ho : Only [] w W)=>bc _ o0.out cc h3)
 have N1:=hid (fun W=>name_any cn hn W)
 unfold handB hdV
 simp only
 generalize plB bl h1 = p1 at *
 generalize plB bl h2 = p2 at *
 generalize plB bl h3 = p3 at *
 generalize nameOK cn = b1 at *
 generalize bl.length = n at *
 clear bc hR cc
 cases p1 with
 | false=>
  rw [if_pos (Or.inl rfl)]
  go_enter Tryz.func171,Tryz.ntmps171
  go_wp2_with fail
  refine (H1.out _ o0.out).mono ?_
  rintro e w' ⟨rfl,rfl⟩
  go_wp2_with fail
  go_ret
  exact ⟨rfl,o0.out⟩
 | true=>
  cases p2 with
  | false=>
   by_cases hn : h2 = (n : Int)
   ·subst hn
    by_cases hft : (n : Int)≤h1
    ·rw [if_pos (Or.inr (Or.inr hft))]
     have gft : h1 ≥ (n : Int):=hft
     go_enter Tryz.func171,Tryz.ntmps171
     go_wp2_with fail
     refine (H1.out _ o0.out).mono ?_
     rintro e w' ⟨rfl,rfl⟩
     go_wp2_with fail
     refine (H2.out _ o0.out).mono ?_
     rintro e w' ⟨rfl,rfl⟩
     go_wp2_with fail
     go_ret
     exact ⟨rfl,o0.out⟩
    ·rw [if_neg (by simp only [ne_eq,not_true_eq_false,and_false,false_or,Bool.true_eq_false]; omega)]
     have gft : ¬ (h1 ≥ (n : Int)):=hft
     cases p3 with
     | false=>
      rw [if_neg (by simp)]
      go_enter Tryz.func171,Tryz.ntmps171
      go_wp2_with fail
      refine (H1.out _ o0.out).mono ?_
      rintro e w' ⟨rfl,rfl⟩
      go_wp2_with fail
      refine (H2.out _ o0.out).mono ?_
      rintro e w' ⟨rfl,rfl⟩
      go_wp2_with fail
      refine (H3.out _ o0.out).mono ?_
      rintro e w' ⟨rfl,rfl⟩
      go_wp2_with fail
      go_ret
      exact ⟨rfl,o0.out⟩
     | true=>
      rw [if_pos rfl]
      cases b1 with
      | false=>
       rw [if_neg (by simp)]
       go_enter Tryz.func171,Tryz.ntmps171
       go_wp2_with fail
       refine (H1.out _ o0.out).mono ?_
       rintro e w' ⟨rfl,rfl⟩
       go_wp2_with fail
       refine (H2.out _ o0.out).mono ?_
       rintro e w' ⟨rfl,rfl⟩
       go_wp2_with fail
       refine (H3.out _ o0.out).mono ?_
       rintro e w' ⟨rfl,rfl⟩
       go_wp2_with fail
       refine (N1.out _).mono ?_
       rintro e w' ⟨rfl,rfl⟩
       go_wp2_with fail
       go_ret
       exact ⟨rfl,o0.out⟩
      | true=>
       rw [if_pos rfl]
       go_enter Tryz.func171,Tryz.ntmps171
       go_wp2_with fail
       refine (H1.out _ o0.out).mono ?_
       rintro e w' ⟨rfl,rfl⟩
       go_wp2_with fail
       refine (H2.out _ o0.out).mono ?_
       rintro e w' ⟨rfl,rfl⟩
       go_wp2_with fail
       refine (H3.out _ o0.out).mono ?_
       rintro e w' ⟨rfl,rfl⟩
       go_wp2_with fail
       refine (N1.out _).mono ?_
       rintro e w' ⟨rfl,rfl⟩
       go_wp2_with fail
       go_ret
       exact ⟨rfl,o0.out⟩
   ·rw [if_pos (Or.inr (Or.inl ⟨rfl,hn⟩))]
    have hn' : (h2 == (n : Int)) = false:=by simpa using hn
    go_enter Tryz.func171,Tryz.ntmps171
    go_wp2_with fail
    refine (H1.out _ o0.out).mono ?_
    rintro e w' ⟨rfl,rfl⟩
    go_wp2_with fail
    refine (H2.out _ o0.out).mono ?_
    rintro e w' ⟨rfl,rfl⟩
    go_wp2_with fail
    go_ret
    exact ⟨rfl,o0.out⟩
  | true=>
   by_cases hft : h2≤h1
   ·rw [if_pos (Or.inr (Or.inr hft))]
    have gft : h1 ≥ h2:=hft
    go_enter Tryz.func171,Tryz.ntmps171
    go_wp2_with fail
    refine (H1.out _ o0.out).mono ?_
    rintro e w' ⟨rfl,rfl⟩
    go_wp2_with fail
    refine (H2.out _ o0.out).mono ?_
    rintro e w' ⟨rfl,rfl⟩
    go_wp2_with fail
    go_ret
    exact ⟨rfl,o0.out⟩
   ·rw [if_neg (by simp only [Bool.true_eq_false,false_and,false_or]; omega)]
    have gft : ¬ (h1 ≥ h2):=hft
    cases p3 with
    | false=>
     rw [if_neg (by simp)]
     go_enter Tryz.func171,Tryz.ntmps171
     go_wp2_with fail
     refine (H1.out _ o0.out).mono ?_
     rintro e w' ⟨rfl,rfl⟩
     go_wp2_with fail
     refine (H2.out _ o0.out).mono ?_
     rintro e w' ⟨rfl,rfl⟩
     go_wp2_with fail
     refine (H3.out _ o0.out).mono ?_
     rintro e w' ⟨rfl,rfl⟩
     go_wp2_with fail
     go_ret
     exact ⟨rfl,o0.out⟩
    | true=>
     rw [if_pos rfl]
     cases b1 with
     | false=>
      rw [if_neg (by simp)]
      go_enter Tryz.func171,Tryz.ntmps171
      go_wp2_with fail
      refine (H1.out _ o0.out).mono ?_
      rintro e w' ⟨rfl,rfl⟩
      go_wp2_with fail
      refine (H2.out _ o0.out).mono ?_
      rintro e w' ⟨rfl,rfl⟩
      go_wp2_with fail
      refine (H3.out _ o0.out).mono ?_
      rintro e w' ⟨rfl,rfl⟩
      go_wp2_with fail
      refine (N1.out _).mono ?_
      rintro e w' ⟨rfl,rfl⟩
      go_wp2_with fail
      go_ret
      exact ⟨rfl,o0.out⟩
     | true=>
      rw [if_pos rfl]
      go_enter Tryz.func171,Tryz.ntmps171
      go_wp2_with fail
      refine (H1.out _ o0.out).mono ?_
      rintro e w' ⟨rfl,rfl⟩
      go_wp2_with fail
      refine (H2.out _ o0.out).mono ?_
      rintro e w' ⟨rfl,rfl⟩
      go_wp2_with fail
      refine (H3.out _ o0.out).mono ?_
      rintro e w' ⟨rfl,rfl⟩
      go_wp2_with fail
      refine (N1.out _).mono ?_
      rintro e w' ⟨rfl,rfl⟩
      go_wp2_with fail
      go_ret
      exact ⟨rfl,o0.out⟩

end Go.Proofs.YtildemmkhndhjaaGreatDoor
