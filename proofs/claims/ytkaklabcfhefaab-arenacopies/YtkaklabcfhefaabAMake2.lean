/-
  The contracts of an arena's Used, Room, Make, New. No conditions beyond the receiver's own shape.
-/
import Derived.Test.YtkaklabcfhefaabAMake
namespace Go.Proofs.Ytkaklabcfhefaab
open Go.RowKit

set_option linter.unusedSimpArgs false

section
variable {w : World} {N : Nat → Prop} {a : Nat}

theorem Used_any {o : Nat} {ws : List Int} {hs : List Bool} (h : HfE w a o ws hs) :
    Calls Try.prog 11 #[.pointer (some ⟨a, o, none⟩)] w fun e w' => e = .returned (.int .i64 ((8 * ws.length : Nat) : Int)) ∧ w' = w := by
  obtain ⟨ab, cb, ah, ch, d, e, h⟩ := h
  have c1 := h.c1
  generalize 8 * ws.length = n at *
  clear h
  go_enter Try.func11, Try.ntmps11
  go_wp2
  go_ret
  exact ⟨rfl, rfl⟩

/-- Whether so many slots find room. -/
def roomP (m : Nat) (ws : List Int) (n : Int) : Bool := decide (0 ≤ n ∧ n ≤ 65536 ∧ 16 + 8 * n ≤ (m : Int) - 8 * (ws.length : Int))

set_option maxHeartbeats 1000000 in
theorem Room_any {s : SW} (h : Ar w N a s) (n : Int) (hn : i64 n) :
    Calls Try.prog 33 #[.pointer (some ⟨a, 0, none⟩), .int .i64 n] w fun e w' => e = .returned (.bool (roomP s.m s.ws n)) ∧ ∃ k, w' = w.drewN k := by
  have c0 : w.cell? ⟨a, 0, none⟩ = some (.int .i64 (s.m : Int)) := by
    obtain ⟨_, _, _, _, _, h⟩ := h
    exact h.cell 0
  have hU := hid (fun k => Used_any (h.used.drewN k))
  have hM := hid (fun k => mayBe_any (w.drewN k) n)
  have hm1 := h.ok.m1
  have hfit := h.ok.fit
  obtain ⟨n0, n1⟩ := hn
  clear h
  by_cases hb : 0 ≤ n ∧ n ≤ 65536
  · rw [show decide (0 ≤ n ∧ n ≤ 65536) = true by simpa using hb] at hM
    have hS := hid (fun k => sizeOf_any (w.drewN k) n hb.1 (by omega))
    obtain ⟨b0, b1⟩ := hb
    have hr : roomP s.m s.ws n = decide (16 + 8 * n ≤ (s.m : Int) - ((8 * s.ws.length : Nat) : Int)) := by
      unfold roomP
      simp only [b0, b1, true_and]
      congr 2
    rw [hr]
    generalize 8 * s.ws.length = u at *
    generalize s.m = m at *
    clear hr
    go_enter Try.func33, Try.ntmps33
    go_wp2
    go_quiet (first | (go_at_call 32; exact Calls.quiet_of_same (hM.out _)) | (go_at_call 20; exact Calls.quiet_of_same (hS.out _)) | (go_at_call 11; exact Calls.quiet_of_same (hU.out _)) | fail)
    go_wp2
    go_ret
    exact ⟨rfl, _, rfl⟩
  · rw [show decide (0 ≤ n ∧ n ≤ 65536) = false by simpa using hb] at hM
    have hr : roomP s.m s.ws n = false := by
      unfold roomP
      simp only [decide_eq_false_iff_not]
      omega
    rw [hr]
    clear hr
    replace hb := hid hb
    go_enter Try.func33, Try.ntmps33
    go_wp2
    go_quiet (first | (go_at_call 32; exact Calls.quiet_of_same (hM.out _)) | fail)
    go_wp2
    go_ret
    exact ⟨rfl, _, rfl⟩

theorem lcs_set (l : List Bool) (j : Nat) (b : Bool) : lcs (l.set j b) = (lcs l).set j (.bool b) := by simp [lcs, List.map_set]

/-- A head set. -/
theorem ArV.headed {s : SW} {v1 v4 v5 v6 : Value} {g n cap : Nat} (h : ArV w N a s v1 (.slice (some ⟨g, 0, none⟩) n cap) v4 v5 v6) (i : Nat) (b : Bool) :
    Ar (w.setCell ⟨g, i, none⟩ (.bool b)) N a { s with hs := s.hs.set i b } ∧ Kep N w (w.setCell ⟨g, i, none⟩ (.bool b)) := by
  have hn : n = s.hs.length := by
    rcases h.r2.2 with ⟨hv, _⟩ | ⟨_, _, _, hv, _⟩
    · cases hv
    · cases hv; rfl
  subst hn
  obtain ⟨q1, q2⟩ := h.r2.stored i (.bool b)
  rw [← lcs_set] at q1
  have ho : Only [g] w (w.setCell ⟨g, i, none⟩ (.bool b)) := Only.of_grown q2
  have e1 : (s.hs.set i b).length = s.hs.length := List.length_set
  obtain ⟨z1, z2⟩ := h.turned (ws := s.ws) (hs := s.hs.set i b) (u1 := v1) (u2 := .slice (some ⟨g, 0, none⟩) s.hs.length cap) ho (by simp [Value.ownBlock])
    (by rw [ho.block a h.lt (by simp; exact fun e => row_ne h.r2 h.blk (by decide) (g := g) rfl e.symm)]; exact h.blk)
    (rows_only h.r1 ho fun k hk hm => row_apart h.r2 h.r1 (by decide) (g := g) rfl (by simp at hm; rw [← hm]; exact hk)) (by rw [e1]; exact q1)
    (fun _ hg => .inl hg) (fun _ hg => .inl hg) h.ok.fit (by rw [e1]; exact h.ok.same) h.ok.all
  exact ⟨⟨_, _, _, _, _, z1⟩, z2⟩

/-- An arena by its objects. -/
structure St where
  m : Nat
  l : List Ob
  al : List Ob
  mv : Option (List (Int × Int))
def St.sw (s : St) : SW := ⟨s.m, flW s.l, flH s.l, flW s.al, flH s.al, s.mv⟩

theorem set_end {α : Type} (l r : List α) (x y : α) : (l ++ x :: r).set l.length y = l ++ y :: r := by
  rw [List.set_append_right _ _ (Nat.le_refl _), Nat.sub_self, List.set_cons_zero]

theorem make_heads (l : List Ob) (o : Ob) : (flH l ++ List.replicate (2 + o.2.length) false).set (flW l).length true = flH (l ++ [o]) := by
  rw [← flH_length, show 2 + o.2.length = (o.2.length + 1) + 1 by omega, List.replicate_succ, set_end, flH_append]
  simp [flH, obH]

theorem make_words (l : List Ob) (k : Int) (n : Nat) : ((flW l ++ List.replicate (2 + n) 0).set (flW l).length k).set ((flW l).length + 1) (n : Int) = flW (l ++ [(k, List.replicate n 0)]) := by
  rw [show 2 + n = (n + 1) + 1 by omega, List.replicate_succ, set_end, List.replicate_succ, flW_append, show flW l ++ k :: 0 :: List.replicate n 0 = (flW l ++ [k]) ++ 0 :: List.replicate n 0 by simp,
    show (flW l).length + 1 = (flW l ++ [k]).length by simp, set_end]
  simp [flW, obW]

/-- Make. -/
def makeS (s : St) (k n : Int) : St × (Int × Int) :=
  if 0 ≤ n ∧ n ≤ 65536 then
    if roomP s.m (flW s.l) n then ({ s with l := s.l ++ [(k, List.replicate n.toNat 0)] }, (8 * ((flW s.l).length : Int) + 8, 0)) else (s, (0, 7))
  else (s, (0, 1))

/-- An arena behind grow, as Make goes on with it. -/
theorem grow_make {s : St} (h : Ar w N a s.sw) (k : Nat) (hn : 8 * ((flW s.l).length + (2 + k)) ≤ s.m) (x : Int) (hx : x = ((8 * (2 + k) : Nat) : Int)) :
    Calls Try.prog 34 #[.pointer (some ⟨a, 0, none⟩), .int .i64 x] w fun e w' => e = .returned (.tuple #[]) ∧ ∃ g c L b, w'.cell? ⟨a, 2, none⟩ = some (.slice (some ⟨g, 0, none⟩) L c) ∧ (flW s.l).length < L ∧ w'.cell? ⟨g, (flW s.l).length, none⟩ = some (.bool b) ∧ w'.frozen? ⟨g, (flW s.l).length, none⟩ = false ∧
      Ar (w'.setCell ⟨g, (flW s.l).length, none⟩ (.bool true)) N a { s.sw with ws := flW s.l ++ List.replicate (2 + k) 0, hs := (flH s.l ++ List.replicate (2 + k) false).set (flW s.l).length true } ∧ Kep N w (w'.setCell ⟨g, (flW s.l).length, none⟩ (.bool true)) := by
  refine (grow_any h (2 + k) hn x hx).mono ?_
  rintro e w' ⟨rfl, ⟨v1, v2, v4, v5, v6, hV⟩, hK⟩
  have hl : (flH s.l ++ List.replicate (2 + k) false).length = (flW s.l).length + (2 + k) := by simp [flH_length]
  have r2 := hV.r2
  obtain ⟨g, c, hv⟩ : ∃ g c, v2 = .slice (some ⟨g, 0, none⟩) (flH s.l ++ List.replicate (2 + k) false).length c := by
    rcases r2.2 with ⟨_, h0⟩ | ⟨g, c, _, hv, _⟩
    · exfalso
      change (flH s.l ++ List.replicate (2 + k) false).length = 0 at h0
      omega
    · exact ⟨g, c, hv⟩
  subst hv
  obtain ⟨q1, q2⟩ := hV.headed (flW s.l).length true
  have hc := r2.cellAt (flW s.l).length (by show _ < (flH s.l ++ List.replicate (2 + k) false).length * 1; omega)
  have hlt : (flW s.l).length < (lcs (flH s.l ++ List.replicate (2 + k) false)).length := by rw [lcs_length]; omega
  have hg : (lcs (flH s.l ++ List.replicate (2 + k) false))[(flW s.l).length]? = some (.bool ((flH s.l ++ List.replicate (2 + k) false)[(flW s.l).length]'(by rw [lcs_length] at hlt; omega))) := lcs_get _ _ _
  exact ⟨rfl, g, c, _, _, hV.cell 2, by omega, hc.trans hg, r2.frozenAt _, q1, hK.trans q2⟩

set_option maxHeartbeats 2000000 in
theorem Make_any {s : St} (h : Ar w N a s.sw) (k n : Int) (hk : i64 k) (hn : i64 n) :
    Calls Try.prog 17 #[.pointer (some ⟨a, 0, none⟩), .int .i64 k, .int .i64 n] w fun e w' => e = .returned (.tuple #[.int .i64 (makeS s k n).2.1, .int .i64 (makeS s k n).2.2]) ∧ Ar w' N a (makeS s k n).1.sw ∧ Kep N w w' := by
  have hM := hid (fun w => mayBe_any w n)
  by_cases hb : 0 ≤ n ∧ n ≤ 65536
  · rw [show decide (0 ≤ n ∧ n ≤ 65536) = true by simpa using hb] at hM
    have hR0 := Room_any h n hn
    by_cases hr : roomP s.m (flW s.l) n = true
    · have e0 : makeS s k n = ({ s with l := s.l ++ [(k, List.replicate n.toNat 0)] }, (8 * ((flW s.l).length : Int) + 8, 0)) := by unfold makeS; rw [if_pos hb, if_pos hr]
      rw [e0]
      have hrr : roomP s.sw.m s.sw.ws n = true := hr
      rw [hrr] at hR0
      have hR := hid hR0
      have hS := hid (fun w => sizeOf_any w n hb.1 (by omega))
      have hU := hid (fun k => Used_any (h.used.drewN k))
      have hroom : 16 + 8 * n ≤ (s.m : Int) - 8 * ((flW s.l).length : Int) := by
        have := hr
        unfold roomP at this
        simp at this
        exact this.2.2
      have hm1 : s.m ≤ 1048576 := h.ok.m1
      have hG := hid (fun j => grow_make (s := s) (h.only0 (only_drewN w j)) n.toNat (by omega) (16 + 8 * n) (by omega))
      have hfit : 8 * (flW s.l).length ≤ s.m := h.ok.fit
      obtain ⟨b0, b1⟩ := hb
      have hfin : ({ s with l := s.l ++ [(k, List.replicate n.toNat 0)] } : St).sw = { s.sw with ws := ((flW s.l ++ List.replicate (2 + n.toNat) 0).set (flW s.l).length k).set ((flW s.l).length + 1) n, hs := (flH s.l ++ List.replicate (2 + n.toNat) false).set (flW s.l).length true } := by
        have h1 := make_words s.l k n.toNat
        have h2 := make_heads s.l (k, List.replicate n.toNat 0)
        rw [show ((n.toNat : Nat) : Int) = n by omega] at h1
        simp only [List.length_replicate] at h2
        rw [h1, h2]
        rfl
      rw [hfin]
      have hlen : (flW s.l ++ List.replicate (2 + n.toNat) 0).length = (flW s.l).length + (2 + n.toNat) := by simp
      have hL1 := hid (fun (w1 : World) (sw : SW) (h1 : Ar w1 N a sw) (hw : sw.ws.length = (flW s.l).length + (2 + n.toNat)) => lay_any h1 (flW s.l).length (by omega) (8 * ((flW s.l).length : Int)) k (by omega) hk)
      have hL2 := hid (fun (w1 : World) (sw : SW) (h1 : Ar w1 N a sw) (hw : sw.ws.length = (flW s.l).length + (2 + n.toNat)) => lay_any h1 ((flW s.l).length + 1) (by omega) (8 * ((flW s.l).length : Int) + 8) n (by omega) hn)
      have hAd := hid (fun w => addressOf_any w (8 * ((flW s.l).length : Int)) (by omega) (by omega))
      replace hU := hid (fun k => Used_any (ws := flW s.l) (h.used.drewN k))
      clear hr e0 hrr hR0 h hfin hroom
      replace hlen := hid hlen
      generalize (flW s.l).length = u at *
      go_enter Try.func17, Try.ntmps17
      go_wp2_with (first
        | (go_at_call 32; refine (hM.out _).mono ?_; rintro e w1 ⟨rfl, rfl⟩)
        | (go_at_call 33; refine hR.out.mono ?_; rintro e w1 ⟨rfl, j, rfl⟩)
        | (go_at_call 11; refine (hU.out j).mono ?_; rintro e w1 ⟨rfl, rfl⟩)
        | (go_at_call 20; refine (hS.out _).mono ?_; rintro e w1 ⟨rfl, rfl⟩)
        | (go_at_call 34; refine (hG.out j).mono ?_; rintro e w1 ⟨rfl, g, c, L, b, ca, cl, cc, cf, hA1, hK1⟩; replace hA1 := hid hA1; replace hK1 := hid hK1)
        | (go_at_call 24; with_reducible refine (hL1.out _ _ hA1.out hlen.out).mono ?_; rintro e w2 ⟨rfl, hA2, hK2⟩; replace hA2 := hid hA2; replace hK2 := hid hK2)
        | (go_at_call 24; with_reducible refine (hL2.out _ _ hA2.out (List.length_set.trans hlen.out)).mono ?_; rintro e w3 ⟨rfl, hA3, hK3⟩; replace hA3 := hid hA3; replace hK3 := hid hK3)
        | (go_at_call 22; refine (hAd.out _).mono ?_; rintro e w4 ⟨rfl, rfl⟩))
      go_ret2
      exact ⟨rfl, hA3.out, (((Kep.of0 (only_drewN _ j)).trans hK1.out).trans hK2.out).trans hK3.out⟩
    · have e0 : makeS s k n = (s, (0, 7)) := by unfold makeS; rw [if_pos hb, if_neg hr]
      rw [e0]
      have hrr : roomP s.sw.m s.sw.ws n = false := Bool.eq_false_iff.2 hr
      rw [hrr] at hR0
      have hR := hid hR0
      have H := hid h
      clear hr e0 hrr hR0 h hb
      go_enter Try.func17, Try.ntmps17
      go_wp2_with (first
        | (go_at_call 32; refine (hM.out _).mono ?_; rintro e w1 ⟨rfl, rfl⟩)
        | (go_at_call 33; refine hR.out.mono ?_; rintro e w1 ⟨rfl, j, rfl⟩))
      go_ret2
      exact ⟨rfl, H.out.only0 (only_drewN _ j), .of0 (only_drewN _ j)⟩
  · rw [show decide (0 ≤ n ∧ n ≤ 65536) = false by simpa using hb] at hM
    have e0 : makeS s k n = (s, (0, 1)) := by unfold makeS; rw [if_neg hb]
    rw [e0]
    have H := hid h
    clear e0 hb h
    go_enter Try.func17, Try.ntmps17
    go_wp2_with (first
      | (go_at_call 32; refine (hM.out _).mono ?_; rintro e w1 ⟨rfl, rfl⟩))
    go_ret2
    exact ⟨rfl, H.out, Kep.refl _ _⟩

/-- A new arena. -/
theorem ar_new (w : World) (N : Nat → Prop) (hN : ∀ b, N b → b < w.heap.size) (m : Nat) (hm : m ≤ 1048576) :
    Ar (w.alloc (.cells (arB m (.slice none 0 0) (.slice none 0 0) (.slice none 0 0) (.slice none 0 0) (.map none)) 34)) N w.heap.size (St.sw ⟨m, [], [], none⟩) := by
  refine ⟨_, _, _, _, _, { blk := heap_alloc_new w _, r1 := World.ownsRow_nil _ _ _ _, r2 := World.ownsRow_nil _ _ _ _, r4 := World.ownsRow_nil _ _ _ _, r5 := World.ownsRow_nil _ _ _ _, mp := rfl, ap1 := (fun g hg => by cases hg), ap2 := (fun g hg => by cases hg), na := (fun h => by have := hN _ h; omega), n1 := (fun g hg => by cases hg), n2 := (fun g hg => by cases hg), n4 := (fun g hg => by cases hg), n5 := (fun g hg => by cases hg), n6 := (fun g hg => by cases hg), lim := (fun b hb => by have := hN b hb; simp; omega), ok := ?_ }⟩
  exact ⟨hm, Nat.zero_le _, Nat.zero_le _, rfl, rfl, (fun v hv => by cases hv), (fun v hv => by cases hv)⟩

theorem New_any (w : World) (N : Nat → Prop) (hN : ∀ b, N b → b < w.heap.size) (x : Int) (hx : i64 x) (m : Nat) (hm : x = (m : Int)) (h0 : 256 ≤ m) (h1 : m ≤ 1048576) :
    Calls Try.prog 19 #[.int .i64 x] w fun e w' => e = .returned (.tuple #[.pointer (some ⟨w.heap.size, 0, none⟩), .int .i64 0]) ∧ Ar w' N w.heap.size (St.sw ⟨m, [], [], none⟩) ∧ Kep N w w' ∧ w.heap.size < w'.heap.size := by
  have hA := hid (ar_new w N hN m h1)
  have x0 : 256 ≤ x := by omega
  have x1 : x ≤ 1048576 := by omega
  subst hm
  go_enter Try.func19, Try.ntmps19
  go_wp2
  go_ret2
  exact ⟨rfl, hA.out, .of0 ((Only.refl [] w).alloc _), by simp⟩

end
end Go.Proofs.Ytkaklabcfhefaab
