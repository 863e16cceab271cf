/-
  The contracts of an arena's All, Bytes, Put. No conditions beyond the receiver's own shape.
-/
import Derived.Test.YtkaklabcfhefaabAMake2
import Derived.WalkSpells
namespace Go.Proofs.Ytkaklabcfhefaab
open Go.RowKit

set_option linter.unusedSimpArgs false

theorem infoI : (Try.prog.info? 2).map (fun i => (i.zero, i.size, i.bytes)) = some (some (.int .i64 0), 1, 8) := by kernel_rfl
theorem elI : ElT 2 (.int .i64 0) 1 8 := ⟨infoI, by decide, by decide, by decide⟩

/-- The addresses of the first j objects. -/
def adrTo (l : List Ob) (j : Nat) : List Int := (List.range j).map fun i => 8 * (ofs l i : Int) + 8
def adrP (l : List Ob) : List Int := adrTo l l.length

theorem adrTo_length (l : List Ob) (j : Nat) : (adrTo l j).length = j := by simp [adrTo]
theorem adrP_length (l : List Ob) : (adrP l).length = l.length := adrTo_length _ _
theorem adrTo_succ (l : List Ob) (j : Nat) : adrTo l (j + 1) = adrTo l j ++ [8 * (ofs l j : Int) + 8] := by simp [adrTo, List.range_succ]
theorem adrP_get (l : List Ob) (j : Nat) (h : j < (adrP l).length) : (adrP l)[j] = 8 * (ofs l j : Int) + 8 := by simp [adrP, adrTo]

theorem HfE.only0 {w w' : World} {a o : Nat} {ws : List Int} {hs : List Bool} (h : HfE w a o ws hs) (ho : Only [] w w') : HfE w' a o ws hs := by
  obtain ⟨ab, cb, ah, ch, d, e, h⟩ := h
  exact ⟨ab, cb, ah, ch, d, e, ⟨(ho.cell (World.block_lt_of_cell? w _ h.c1) (by simp)).trans h.c1, (ho.cell (World.block_lt_of_cell? w _ h.c2) (by simp)).trans h.c2, h.r1.only0 ho, h.r2.only0 ho, h.le1, h.le2, h.few, h.same, h.all, h.no1⟩⟩

theorem few_obs (l : List Ob) : 2 * l.length ≤ (flW l).length := by
  induction l with
  | nil => simp
  | cons o l ih => rw [flW_cons, List.length_append, obW_length, List.length_cons]; omega

set_option maxHeartbeats 2000000 in
theorem All_any {w : World} {a o : Nat} {l : List Ob} (h : HfE w a o (flW l) (flH l)) :
    Calls Try.prog 7 #[.pointer (some ⟨a, o, none⟩)] w fun e w' => ∃ v, e = .returned v ∧ w'.ownsRow w.heap.size 2 1 v l.length (ics (adrP l)) ∧ Only [] w w' := by
  have few := h.few
  have hU := hid (fun (w' : World) (ho : Only [] w w') => Used_any (h.only0 ho))
  have hS := hid (fun (w' : World) (ho : Only [] w w') (j : Nat) (hj : j < l.length) => slots_at (h.only0 ho) j hj (8 * (ofs l j : Int)) rfl)
  have hZ := hid sizeOf_any
  have hA := hid addressOf_any
  have hend := hid (ofs_end l)
  have hsucc := hid (ofs_succ l)
  have hall := hid (ofs_all l)
  have hzero := hid (ofs_zero l)
  have hll := few_obs l
  have hmono := hid (fun i j => @ofs_mono l i j)
  have hadr := hid (adrTo_succ l)
  generalize ofs l = f at *
  clear h
  go_enter Try.func7, Try.ntmps7
  go_wp2
  go_loopw [3, 4] (fun v i wr => ∃ j : Nat, j ≤ l.length ∧ i = .int .i64 (8 * (f j : Int)) ∧ wr.ownsRow w.heap.size 2 1 v j (ics (adrTo l j)) ∧ Only [] w wr) (fun _ i _ => 8 * (flW l).length - (intOf i).toNat)
  case atStart => exact ⟨0, Nat.zero_le _, by rw [hzero.out]; rfl, World.ownsRow_nil _ _ _ _, Only.refl _ _⟩
  case round =>
    obtain ⟨j, hj, rfl, own, ho⟩ := hrel
    obtain ⟨ao, cap, rfl⟩ := rows_slice own
    by_cases hlt : j < l.length
    · have e1 := hend.out j hlt
      have e2 := hsucc.out j hlt
      have c1 : (8 * (f j : Int)) < ((8 * (flW l).length : Nat) : Int) := by omega
      have hSj := hid (fun (w' : World) (ho : Only [] w w') => hS.out w' ho j hlt)
      generalize (flW l).length = u at *
      go_wp2_with (first
        | (go_at_call 11; refine (hU.out _ ho).mono ?_; rintro e w1 ⟨rfl, rfl⟩)
        | (go_at_call 22; refine (hA.out _ _ (by omega) (by omega)).mono ?_; rintro e w1 ⟨rfl, rfl⟩)
        | (at_builtin; refine wpList_append_any rfl (.tmp 15) (.tmp 18) elI Try.underlying26 rfl rfl rfl (own.alloc _) (RS.fresh _ _ _) rfl (by simp [Value.oneCell']) (by simp) (by omega) (by have := ho.size; simp; omega) ?_))
      intro ao' cap' w2 A
      have ho2 : Only [] w w2 := (ho.alloc _).next (A.only) (fun x hx => by
        cases ao with
        | none => simp [Value.ownBlock] at hx
        | some b =>
          simp [Value.ownBlock] at hx
          subst hx
          exact (own.lt b.block rfl).1)
      go_wp2_with (first
        | (go_at_call 21; refine (hSj.out _ ho2).mono ?_; rintro e w3 ⟨rfl, n, rfl⟩)
        | (go_at_call 20; refine (hZ.out _ _ (by omega) (by omega)).mono ?_; rintro e w3 ⟨rfl, rfl⟩))
      have own2 : (w2.drewN n).ownsRow w.heap.size 2 1 (.slice ao' (j + 1) cap') (j + 1) (ics (adrTo l (j + 1))) := by
        rw [hadr.out, ics_append]
        exact A.own
      exact ⟨⟨j + 1, hlt, by rw [e2]; congr 1; omega, own2, ho2.trans (only_drewN _ _) (by simp)⟩, by simp [intOf]; omega⟩
    · have : j = l.length := by omega
      subst this
      have e1 := hall.out
      have c1 : ((8 * (flW l).length : Nat) : Int) ≤ 8 * (f l.length : Int) := by omega
      generalize (flW l).length = u at *
      go_wp2_with (first
        | (go_at_call 11; refine (hU.out _ ho).mono ?_; rintro e w1 ⟨rfl, rfl⟩))
      go_ret
      exact ⟨_, rfl, own, ho⟩

theorem eql_nil (ao : Option Addr) (n c : Nat) (w : World) : (binOp .eql 28 (.slice ao n c) (.slice none 0 0)).run Try.prog w = .ok (.bool ao.isNone) w := Lib.run_eql_slice_nil w 28 5 ao n c 0 0 Try.underlying28

set_option maxHeartbeats 400000 in
theorem clone_any {w : World} {ao : Option Addr} {bs : List UInt8} {n cap d : Nat} (hb : RS w ao (bcs bs) d) (hn : ao = none → cap = 0) (hl : bs.length = n) (hsz : n ≤ 8000000) :
    Calls Try.prog 31 #[.slice ao n cap] w fun e w' => ∃ v, e = .returned v ∧ w'.ownsRow w.heap.size 5 1 v n (bcs bs) ∧ Only [] w w' := by
  cases ao with
  | none =>
    have h0 := hb.none_nil
    have hb0 : bs = [] := by simpa [bcs] using h0
    subst hb0
    simp at hl
    subst hl
    have := hn rfl
    subst this
    have k0 := eql_nil none 0 0
    go_enter Try.func31, Try.ntmps31
    go_wp2
    go_ret
    exact ⟨_, rfl, World.ownsRow_nil _ _ _ _, Only.refl _ _⟩
  | some a =>
    have k0 := eql_nil (some a) n cap
    have hy : (bcs bs).length = n * 1 := by rw [bcs_length, hl]
    clear hl
    go_enter Try.func31, Try.ntmps31
    go_wp2_with (at_builtin; refine wpList_append_any rfl (.tmp 5) (.tmp 6) elU Try.underlying28 rfl rfl rfl (World.ownsRow_made w #[] 0 (Nat.le_refl _) (by decide) rfl) (hb.only ((Only.refl [] w).alloc _) (by simp)) hy (bcs_one bs) (by simp) (by omega) (by simp) ?_)
    intro ao' cap' w' A
    go_wp2
    go_ret
    have own := A.own
    refine ⟨_, rfl, ?_, ((Only.refl [] w).alloc _).trans A.only (by simp [Value.ownBlock])⟩
    simpa using own

/-- The bytes. -/
theorem Bytes_any {w : World} {a o : Nat} {l : List Ob} (h : HfE w a o (flW l) (flH l)) :
    Calls Try.prog 16 #[.pointer (some ⟨a, o, none⟩)] w fun e w' => ∃ v, e = .returned v ∧ w'.ownsRow w.heap.size 5 1 v (8 * (flW l).length) (bcs (encWs (flW l))) ∧ Only [] w w' := by
  obtain ⟨ab, cb, ah, ch, d, e, h⟩ := h
  have C := hid (clone_any h.r1 h.no1 (encWs_length _) (by have := h.few; omega))
  have c1 := h.c1
  clear h
  generalize 8 * (flW l).length = n at *
  go_enter Try.func16, Try.ntmps16
  go_wp2_with (go_at_call 31; refine C.out.mono ?_; rintro e w1 ⟨v, rfl, own, ho⟩)
  go_ret
  exact ⟨v, rfl, own, ho⟩

/-- Put. -/
def putS (s : St) (x k v : Int) : St × Int := match findP s.l x with
  | none => (s, 57)
  | some j => match s.l[j]? with
    | none => (s, 57)
    | some o => if 0 ≤ k ∧ k < (o.2.length : Int) then ({ s with l := s.l.set j (o.1, o.2.set k.toNat v) }, 0) else (s, 1)

theorem put_words (l : List Ob) (j k : Nat) (v : Int) (hj : j < l.length) (hk : k < l[j].2.length) : (flW l).set (ofs l j + 2 + k) v = flW (l.set j (l[j].1, l[j].2.set k v)) := by
  have e1 : l.set j (l[j].1, l[j].2.set k v) = l.take j ++ (l[j].1, l[j].2.set k v) :: l.drop (j + 1) := by rw [List.set_eq_take_append_cons_drop, if_pos hj]
  rw [e1, flW_append, flW_cons, flW_split l j hj]
  unfold ofs
  rw [List.set_append_right _ _ (by omega), show (flW (l.take j)).length + 2 + k - (flW (l.take j)).length = k + 1 + 1 by omega, List.set_append_left _ _ (by rw [obW_length]; omega)]
  simp [obW]

theorem put_heads (l : List Ob) (j k : Nat) (v : Int) (hj : j < l.length) : flH (l.set j (l[j].1, l[j].2.set k v)) = flH l := by
  have e1 : l.set j (l[j].1, l[j].2.set k v) = l.take j ++ (l[j].1, l[j].2.set k v) :: l.drop (j + 1) := by rw [List.set_eq_take_append_cons_drop, if_pos hj]
  rw [e1, flH_append, flH_cons, flH_split l j hj]
  simp [obH]

set_option maxHeartbeats 1000000 in
theorem Put_any {w : World} {N : Nat → Prop} {a : Nat} {s : St} (h : Ar w N a s.sw) (x k v : Int) (hx : i64 x) (hk : i64 k) (hv : i64 v) :
    Calls Try.prog 8 #[.pointer (some ⟨a, 0, none⟩), .int .i64 x, .int .i64 k, .int .i64 v] w fun e w' => e = .returned (.int .i64 (putS s x k v).2) ∧ Ar w' N a (putS s x k v).1.sw ∧ Kep N w w' := by
  have H0 := findSlot_any (l := s.l) h.used x k hx hk
  have hh := hid h
  cases hf : findP s.l x with
  | none =>
    have e0 : slotP s.l x k = (0, 57) := by unfold slotP; rw [hf]
    have e : putS s x k v = (s, 57) := by unfold putS; rw [hf]
    rw [e0] at H0
    rw [e]
    have H := hid H0
    clear H0 h e e0
    go_enter Try.func8, Try.ntmps8
    go_wp2_with (go_at_call 23; refine H.out.mono ?_; rintro e w1 ⟨rfl, n, rfl⟩)
    go_ret
    exact ⟨rfl, hh.out.only0 (only_drewN _ _), .of0 (only_drewN _ _)⟩
  | some j =>
    obtain ⟨j1, j2⟩ := findP_some hf
    have e0 : slotP s.l x k = if 0 ≤ k ∧ k < (s.l[j].2.length : Int) then (8 * (ofs s.l j : Int) + 16 + k * 8, 0) else (0, 1) := by
      unfold slotP
      rw [hf]
      simp only [List.getElem?_eq_getElem j1]
    have e : putS s x k v = if 0 ≤ k ∧ k < (s.l[j].2.length : Int) then ({ s with l := s.l.set j (s.l[j].1, s.l[j].2.set k.toNat v) }, 0) else (s, 1) := by
      unfold putS
      rw [hf]
      simp only [List.getElem?_eq_getElem j1]
    rw [e0] at H0
    rw [e]
    clear e e0
    by_cases hc : 0 ≤ k ∧ k < (s.l[j].2.length : Int)
    · rw [if_pos hc] at H0 ⊢
      have hkl : k.toNat < s.l[j].2.length := by omega
      have hend := ofs_end s.l j j1
      have L := hid (fun n => lay_any (h.only0 (only_drewN w n)) (ofs s.l j + 2 + k.toNat) (by show _ < (flW s.l).length; omega) (8 * (ofs s.l j : Int) + 16 + k * 8) v (by omega) hv)
      have hfin : ({ s with l := s.l.set j (s.l[j].1, s.l[j].2.set k.toNat v) } : St).sw = { s.sw with ws := s.sw.ws.set (ofs s.l j + 2 + k.toNat) v } := by
        show (⟨_, _, _, _, _, _⟩ : SW) = ⟨_, _, _, _, _, _⟩
        rw [put_heads s.l j k.toNat v j1, ← put_words s.l j k.toNat v j1 hkl]
        rfl
      rw [hfin]
      have H := hid H0
      clear H0 hf j2 hc hend hfin h
      generalize ofs s.l j = p at *
      go_enter Try.func8, Try.ntmps8
      go_wp2_with (first | (go_at_call 23; refine H.out.mono ?_; rintro e w1 ⟨rfl, n, rfl⟩) | (go_at_call 24; refine (L.out n).mono ?_; rintro e w2 ⟨rfl, hA, hK⟩))
      go_ret
      exact ⟨rfl, hA, (Kep.of0 (only_drewN _ _)).trans hK⟩
    · rw [if_neg hc] at H0 ⊢
      have H := hid H0
      clear H0 hf j2 hc h
      go_enter Try.func8, Try.ntmps8
      go_wp2_with (go_at_call 23; refine H.out.mono ?_; rintro e w1 ⟨rfl, n, rfl⟩)
      go_ret
      exact ⟨rfl, hh.out.only0 (only_drewN _ _), .of0 (only_drewN _ _)⟩

end Go.Proofs.Ytkaklabcfhefaab
