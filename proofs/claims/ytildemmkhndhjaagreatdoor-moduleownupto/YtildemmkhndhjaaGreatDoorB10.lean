/-
  What the proof leans on, part 10 of 48. The conditions stand in each theorem.
-/
import Derived.Test.YtildemmkhndhjaaGreatDoorB02
namespace Go.Proofs.YtildemmkhndhjaaGreatDoor
open Go.RowKit

def okTo (l : List UInt8) : Nat→Bool
  | 0=>true
  | j + 1=>okTo l j && (letter (l.getD j 0) || (digit (l.getD j 0) && decide (0 < j)))

theorem letter_sign (c : UInt8) : letter c = (sign c && !digit c):=by
  unfold sign letter digit
  by_cases h1 : 65≤c.toNat <;> by_cases h2 : c.toNat≤90 <;> by_cases h3 : 97≤c.toNat <;> by_cases h4 : c.toNat≤122 <;> by_cases h5 : c.toNat = 95 <;> by_cases h6 : 48≤c.toNat <;> by_cases h7 : c.toNat≤57
  all_goals first | omega | simp [h1,h2,h3,h4,h5,h6,h7]

theorem okTo_eq (l : List UInt8) (j : Nat) (h : j < l.length) : okTo l (j + 1) = ((l.take (j + 1)).all sign && !digit (l.headD 0)):=by
  have hne : l≠[]:=by intro e; simp [e] at h
  induction j with
  | zero=>
    cases l with
    | nil=>exact absurd rfl hne
    | cons a t=>simp [okTo,letter_sign]
  | succ j ih=>
    have hj : l.getD (j + 1) 0 = l[j + 1]:=by simp [List.getD,h]
    rw [okTo,ih (by omega),all_take_succ l (j + 1) h,hj]
    have : (letter l[j + 1] || digit l[j + 1] && decide (0 < j + 1)) = sign l[j + 1]:=by simp [sign]
    rw [this]
    cases (l.take (j + 1)).all sign <;> cases digit (l.headD 0) <;> cases sign l[j + 1] <;> rfl

theorem name_okTo (l : List UInt8) (h0 : 0 < l.length) (h32 : l.length≤32) : nameOK l = okTo l l.length:=by
  cases l with
  | nil=>simp at h0
  | cons a t=>
    unfold nameOK
    rw [List.length_cons,okTo_eq (a :: t) t.length (by simp),List.take_of_length_le (by simp)]
    simp at h32 ⊢
    simp [h32]
    cases sign a <;> cases t.all sign <;> cases digit a <;> rfl

theorem okTo_false (l : List UInt8) (j k : Nat) (h : okTo l j = false) (hk : j≤k) : okTo l k = false:=by
  induction k with
  | zero=>
    obtain rfl : j = 0:=by omega
    exact h
  | succ k ih=>
    by_cases e : j = k + 1
    · rw [← e]
      exact h
    · rw [okTo,ih (by omega)]
      rfl

set_option maxHeartbeats 2000000 in
set_option maxRecDepth 100000 in
theorem rname_any (l : List UInt8) (hl : l.length≤9223372036854775807) (w : World) : Calls Tryz.prog 179 #[.string (str l)] w fun e w'=>e = .returned (.bool (nameOK l))∧w' = w:=by
  have hs:=str_size l
  by_cases h0 : l = []
  · subst h0
    have e1 : nameOK [] = false:=by decide
    rw [e1]
    go_enter Tryz.func179,Tryz.ntmps179
    go_wp2
    go_ret
    exact ⟨rfl,rfl⟩
  have hp : 0 < l.length:=List.length_pos_iff.2 h0
  have g0 : ¬ ((l.length : Int) < 1):=by omega
  by_cases h1 : 32 < l.length
  · have e1 : nameOK l = false:=by
      unfold nameOK
      simp
      omega
    rw [e1]
    have g1 : (32 < (l.length : Int)):=by omega
    go_enter Tryz.func179,Tryz.ntmps179
    go_wp2
    go_ret
    exact ⟨rfl,rfl⟩
  have g1 : ¬ (32 < (l.length : Int)):=by omega
  rw [name_okTo l hp (by omega)]
  go_enter Tryz.func179,Tryz.ntmps179
  go_wp2
  go_loopw [3] (fun i wr=>∃ j : Nat,j≤l.length∧i = .int .i64 (j : Int)∧okTo l j = true∧wr = w) (fun i _=>l.length - (intOf i).toNat)
  case atStart=>exact ⟨0,by omega,rfl,rfl,rfl⟩
  case round=>
    obtain ⟨j,hj,rfl,hok,rfl⟩:=hrel
    by_cases hlt : j < l.length
    · have g2 : ((j : Int) < (l.length : Int)):=by omega
      have aj:=run_at l j hlt
      have hgd : l.getD j 0 = l[j]:=by simp [List.getD,hlt]
      have hst : okTo l (j + 1) = (letter l[j] || (digit l[j] && decide (0 < j))):=by
        rw [okTo,hgd,hok]
        simp
      have hno:=fun h=>okTo_false l (j + 1) l.length h (by omega)
      generalize l[j] = c at *
      replace hst:=hid hst
      replace hno:=hid hno
      clear hgd hok
      by_cases h1 : 65≤c.toNat <;> by_cases h2 : c.toNat≤90 <;> by_cases h3 : 97≤c.toNat <;> by_cases h4 : c.toNat≤122 <;> by_cases h5 : c.toNat = 95 <;> by_cases h6 : 48≤c.toNat <;> by_cases h7 : c.toNat≤57
      all_goals try omega
      all_goals by_cases hj0 : 0 < j
      all_goals
        have hj1 : (0 < (j : Int)) = (0 < j):=by simp
        go_wp2
        all_goals first
          | (refine ⟨⟨j + 1,by omega,by go_num,?_,trivial⟩,by simp [intOf]; omega⟩
             rw [hst.out]
             simp [letter,digit,h1,h2,h3,h4,h5,h6,h7,hj0]
             done)
          | (go_ret
             refine ⟨?_,rfl⟩
             rw [hno.out (by rw [hst.out]; simp [letter,digit,h1,h2,h3,h4,h5,h6,h7,hj0])]
             rfl)
          | (exfalso; rename_i hx; simp at hx; omega)
    · have g2 : ¬ ((j : Int) < (l.length : Int)):=by omega
      obtain rfl : j = l.length:=by omega
      replace hok:=hid hok
      go_wp2
      go_ret
      exact ⟨by rw [hok.out]; rfl,rfl⟩

theorem xmethod_any (l : List UInt8) (hl : l.length≤9223372036854775807) (w : World) : Calls Tryz.prog 182 #[.string (str l)] w fun e w'=>e = .returned (.bool (methodOK l))∧w' = w:=by
  have HN:=hid (rname_any l hl w)
  by_cases h : l = initL
  · subst h
    have ht : (str initL).toList = [60,105,110,105,116,62]:=str_toList _
    go_enter Tryz.func182,Tryz.ntmps182
    go_wp2_with (go_at_call 179; refine HN.out.mono ?_; rintro e w' ⟨rfl,rfl⟩)
    go_ret
    simp [methodOK]
  · have ht:=str_toList l
    have hb2 : ¬ (l = [60,105,110,105,116,62]):=h
    go_enter Tryz.func182,Tryz.ntmps182
    go_wp2_with (go_at_call 179; refine HN.out.mono ?_; rintro e w' ⟨rfl,rfl⟩)
    go_ret
    simp [methodOK,h]
    exact fun e=>absurd e hb2

set_option maxHeartbeats 400000 in
theorem rcheck_any (t : Ty) (hl : t.2.length≤9223372036854775807) (w : World) : Calls Tryz.prog 149 #[tyV t] w fun e w'=>e = .returned (.int .i64 (tyCheck t))∧Only [] w w':=by
  obtain ⟨d,n⟩:=t
  simp only [tyV]
  have ho:=(Only.refl [] w).alloc (.cells #[.int .i64 d,.string (str n)] 35)
  have HN:=hid (rname_any n hl (w.alloc (.cells #[.int .i64 d,.string (str n)] 35)))
  have ht:=str_toList n
  by_cases h1 : d < 0
  · go_enter Tryz.func149,Tryz.ntmps149
    go_wp2
    go_ret
    exact ⟨by simp [tyCheck,h1],ho⟩
  by_cases h2 : 8 < d
  · go_enter Tryz.func149,Tryz.ntmps149
    go_wp2
    go_ret
    exact ⟨by simp [tyCheck,h2],ho⟩
  by_cases h3 : n = []
  · subst h3
    go_enter Tryz.func149,Tryz.ntmps149
    go_wp2_with (go_at_call 179; refine HN.out.mono ?_; rintro e w' ⟨rfl,rfl⟩)
    go_ret
    exact ⟨by simp [tyCheck,h1,h2],ho⟩
  have hi : n.isEmpty = false:=by simpa using h3
  cases h4 : nameOK n with
  | true=>
    rw [h4] at HN
    go_enter Tryz.func149,Tryz.ntmps149
    go_wp2_with (go_at_call 179; refine HN.out.mono ?_; rintro e w' ⟨rfl,rfl⟩)
    go_ret
    exact ⟨by simp [tyCheck,h1,h2,h4],ho⟩
  | false=>
    rw [h4] at HN
    go_enter Tryz.func149,Tryz.ntmps149
    go_wp2_with (go_at_call 179; refine HN.out.mono ?_; rintro e w' ⟨rfl,rfl⟩)
    go_ret
    exact ⟨by simp [tyCheck,h1,h2,h3,h4],ho⟩

theorem dnumber_any (t : Ty) (w : World) : Calls Tryz.prog 231 #[tyV t] w fun e w'=>e = .returned (.bool (decide (t = (0,[]))))∧Only [] w w':=by
  obtain ⟨d,n⟩:=t
  simp only [tyV]
  have ho:=(Only.refl [] w).alloc (.cells #[.int .i64 d,.string (str n)] 35)
  have ht:=str_toList n
  by_cases h1 : d = 0
  · subst h1
    by_cases h2 : n = []
    · subst h2
      go_enter Tryz.func231,Tryz.ntmps231
      go_wp2
      go_ret
      exact ⟨by simp,ho⟩
    · have hi : n.isEmpty = false:=by simpa using h2
      have e1 : Hid (decide (((0 : Int),n) = ((0,[]) : Ty)) = false):=by simp [Hid,h2]
      rw [e1.out]
      clear h2
      go_enter Tryz.func231,Tryz.ntmps231
      go_wp2
      go_ret
      exact ⟨rfl,ho⟩
  · have hi : (d == 0) = false:=by simpa using h1
    have e1 : Hid (decide ((d,n) = ((0,[]) : Ty)) = false):=by simp [Hid,h1]
    rw [e1.out]
    clear h1
    go_enter Tryz.func231,Tryz.ntmps231
    go_wp2
    go_ret
    exact ⟨rfl,ho⟩

end Go.Proofs.YtildemmkhndhjaaGreatDoor
