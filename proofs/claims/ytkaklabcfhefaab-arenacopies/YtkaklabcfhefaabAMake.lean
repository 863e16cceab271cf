/-
  The contracts of an arena's lay, grow, Used, Room, Make. No conditions beyond the receiver's own shape.
-/
import Derived.Test.YtkaklabcfhefaabASt
namespace Go.Proofs.Ytkaklabcfhefaab
open Go.RowKit

set_option linter.unusedSimpArgs false

theorem elU : ElT 5 (.int .u8 0) 1 1 := ⟨info5, by decide, by decide, by decide⟩
theorem infoB : (Try.prog.info? 4).map (fun i => (i.zero, i.size, i.bytes)) = some (some (.bool false), 1, 1) := by kernel_rfl
theorem elB : ElT 4 (.bool false) 1 1 := ⟨infoB, by decide, by decide, by decide⟩

theorem bcs_zeros (n : Nat) : List.replicate n (Value.int .u8 0) = bcs (List.replicate n 0) := by simp [bcs]
theorem lcs_zeros (n : Nat) : List.replicate n (Value.bool false) = lcs (List.replicate n false) := by simp [lcs]
theorem lcs_append (a b : List Bool) : lcs (a ++ b) = lcs a ++ lcs b := by simp [lcs]

section
variable {w : World} {N : Nat → Prop} {a : Nat} {s : SW}

/-- The used half has turned, and nothing else. -/
theorem ArV.turned {w' : World} {v1 v2 v4 v5 v6 u1 u2 : Value} {ws : List Int} {hs : List Bool} (h : ArV w N a s v1 v2 v4 v5 v6) {S : List Nat} (ho : Only S w w') (hS : ∀ x ∈ S, x = a ∨ v1.ownBlock = some x ∨ v2.ownBlock = some x)
    (blk : w'.heap[a]? = some (.cells (arB s.m u1 u2 v4 v5 v6) 34 (0, 0)))
    (r1 : w'.ownsRow 0 5 1 u1 (8 * ws.length) (bcs (encWs ws))) (r2 : w'.ownsRow 0 4 1 u2 hs.length (lcs hs))
    (p1 : ∀ g, u1.ownBlock = some g → v1.ownBlock = some g ∨ w.heap.size ≤ g) (p2 : ∀ g, u2.ownBlock = some g → v2.ownBlock = some g ∨ w.heap.size ≤ g)
    (fit : 8 * ws.length ≤ s.m) (same : hs.length = ws.length) (all : ∀ v ∈ ws, i64 v) :
    ArV w' N a { s with ws := ws, hs := hs } u1 u2 v4 v5 v6 ∧ Kep N w w' := by
  have t4 : ∀ g, v4.ownBlock = some g → g ∉ S := fun g hg hm => by
    rcases hS g hm with c | c | c
    · exact row_ne h.r4 h.blk (by decide) hg c
    · exact h.ap1 g c hg
    · exact row_apart h.r2 h.r4 (by decide) c hg
  have t5 : ∀ g, v5.ownBlock = some g → g ∉ S := fun g hg hm => by
    rcases hS g hm with c | c | c
    · exact row_ne h.r5 h.blk (by decide) hg c
    · exact row_apart h.r1 h.r5 (by decide) c hg
    · exact h.ap2 g c hg
  have q1 : ∀ g, N g → g < w.heap.size := h.lim
  have hok := h.ok
  refine ⟨{ blk := blk, r1 := r1, r2 := r2, r4 := rows_only h.r4 ho t4, r5 := rows_only h.r5 ho t5, mp := ?_, ap1 := ?_, ap2 := ?_, na := h.na, n1 := ?_, n2 := ?_, n4 := h.n4, n5 := h.n5, n6 := h.n6,
            lim := fun b hb => Nat.lt_of_lt_of_le (h.lim b hb) ho.size, ok := ⟨hok.m1, fit, hok.afit, same, hok.asame, all, hok.aall⟩ }, .of ho fun x hx => ?_⟩
  · have hm := h.mp
    show MapV w' v6 s.mv
    cases hmv : s.mv with
    | none => rw [hmv] at hm; exact hm
    | some L =>
      rw [hmv] at hm
      obtain ⟨q, es, clock, rfl, hq, hl⟩ := hm
      refine ⟨q, es, clock, rfl, ?_, hl⟩
      rw [ho.block q (Array.getElem?_eq_some_iff.1 hq).1 fun hm => ?_]
      · exact hq
      · rcases hS q hm with c | c | c
        · subst c
          rw [h.blk] at hq
          cases hq
        · exact row_map h.r1 hq c rfl
        · exact row_map h.r2 hq c rfl
  · intro g hg hg4
    rcases p1 g hg with c | c
    · exact h.ap1 g c hg4
    · have := (h.r4.lt g hg4).2
      omega
  · intro g hg hg5
    rcases p2 g hg with c | c
    · exact h.ap2 g c hg5
    · have := (h.r5.lt g hg5).2
      omega
  · intro g hg hn
    rcases p1 g hg with c | c
    · exact h.n1 g c hn
    · have := q1 g hn
      omega
  · intro g hg hn
    rcases p2 g hg with c | c
    · exact h.n2 g c hn
    · have := q1 g hn
      omega
  · rcases hS x hx with c | c | c
    · rw [c]; exact h.na
    · exact h.n1 x c
    · exact h.n2 x c

/-- A number laid down. -/
theorem lay_any (h : Ar w N a s) (i : Nat) (hi : i < s.ws.length) (x v : Int) (hx : x = ((8 * i : Nat) : Int)) (hv : i64 v) :
    Calls Try.prog 24 #[.pointer (some ⟨a, 0, none⟩), .int .i64 x, .int .i64 v] w fun e w' => e = .returned (.tuple #[]) ∧ Ar w' N a { s with ws := s.ws.set i v } ∧ Kep N w w' := by
  obtain ⟨v1, v2, v4, v5, v6, h⟩ := h
  obtain ⟨g, cap, rfl⟩ : ∃ g cap, v1 = .slice (some ⟨g, 0, none⟩) (8 * s.ws.length) cap := by
    rcases h.r1.2 with ⟨_, h0⟩ | ⟨g, cap, _, hv, _⟩
    · omega
    · exact ⟨g, cap, hv⟩
  have hfit := h.ok.fit
  have hm1 := h.ok.m1
  refine (lay_raw (o := 0) (h.cell 1) h.r1 (p := 8 * i) (by omega) (by omega) x v hx hv).mono ?_
  rintro e w' ⟨rfl, own, ho⟩
  rw [putB_word _ _ _ hi] at own
  have ga := row_ne h.r1 h.blk (by decide) (g := g) rfl
  have hok := h.ok
  have e1 : (s.ws.set i v).length = s.ws.length := List.length_set
  obtain ⟨k1, k2⟩ := h.turned (u1 := .slice (some ⟨g, 0, none⟩) (8 * s.ws.length) cap) (u2 := v2) (ws := s.ws.set i v) (hs := s.hs) ho (by simp [Value.ownBlock])
    (by rw [ho.block a h.lt (by simp; exact fun e => ga e.symm)]; exact h.blk) (by rw [e1]; exact own) (rows_only h.r2 ho fun k hk hm => row_apart h.r1 h.r2 (by decide) (g := g) rfl (by simp at hm; rw [← hm]; exact hk))
    (fun _ hg => .inl hg) (fun _ hg => .inl hg) (by rw [e1]; exact hok.fit) (by rw [e1]; exact hok.same)
    (fun u hu => by
      rcases List.mem_or_eq_of_mem_set hu with c | c
      · exact hok.all u c
      · rw [c]; exact hv)
  exact ⟨rfl, ⟨_, _, _, _, _, k1⟩, k2⟩

theorem quot8 (x : Int) (n : Nat) (hx : x = ((8 * n : Nat) : Int)) : Int.tdiv x 8 = (n : Int) := by
  rw [hx, Int.tdiv_eq_ediv_of_nonneg (by omega)]
  omega

set_option maxHeartbeats 2000000 in
theorem grow_any (h : Ar w N a s) (n : Nat) (hn : 8 * (s.ws.length + n) ≤ s.m) (x : Int) (hx : x = ((8 * n : Nat) : Int)) :
    Calls Try.prog 34 #[.pointer (some ⟨a, 0, none⟩), .int .i64 x] w fun e w' => e = .returned (.tuple #[]) ∧ Ar w' N a { s with ws := s.ws ++ List.replicate n 0, hs := s.hs ++ List.replicate n false } ∧ Kep N w w' := by
  obtain ⟨v1, v2, v4, v5, v6, h⟩ := h
  have H := hid h
  have hok := h.ok
  have hfit := hok.fit
  have hm1 := hok.m1
  have hn2 : s.hs.length + n ≤ 8000000 := by rw [hok.same]; omega
  obtain ⟨ab, cb, rfl⟩ := rows_slice h.r1
  obtain ⟨ah, ch, rfl⟩ := rows_slice h.r2
  have c1 : w.cell? ⟨a, 1, none⟩ = _ := h.cell 1
  have r1 := h.r1
  have r2 := h.r2
  have x0 : 0 ≤ x := by omega
  have x1 : x ≤ 1048576 := by omega
  have hq := quot8 x n hx
  have hx' := hid hx
  clear hx h
  simp only [arB, List.getElem?_toArray, List.getElem?_cons_succ, List.getElem?_cons_zero] at c1
  go_enter Try.func34, Try.ntmps34
  go_wp2_with (at_builtin; refine wpList_append_make rfl (.tmp 8) (.tmp 9) elU rfl rfl Try.underlying28 Try.underlying3 rfl rfl rfl hx'.out r1 (by omega) (by omega) ?_)
  intro ao' cap' w1 A1
  have o1 : Only (Value.ownBlock (.slice ab (8 * s.ws.length) cb)).toList w w1 := by
    have := A1.only
    cases ab <;> exact this
  have hblk : w1.heap[a]? = some (.cells (arB s.m (.slice ab (8 * s.ws.length) cb) (.slice ah s.hs.length ch) v4 v5 v6) 34 (0, 0)) := by
    rw [o1.block a H.out.lt fun hm => ?_]
    · exact H.out.blk
    · simp at hm
      exact row_ne r1 H.out.blk (by decide) hm rfl
  have k1 : w1.cell? ⟨a, 1, none⟩ = some (.slice ab (8 * s.ws.length) cb) := cell_of_row w1 a 1 _ _ (0, 0) hblk
  have k2 : w1.cell? ⟨a, 2, none⟩ = some (.slice ah s.hs.length ch) := cell_of_row w1 a 2 _ _ (0, 0) hblk
  have f1 : w1.frozen? ⟨a, 1, none⟩ = false := frozen_of_row w1 a 1 _ _ hblk
  have f2 : w1.frozen? ⟨a, 2, none⟩ = false := frozen_of_row w1 a 2 _ _ hblk
  have r2a : w1.ownsRow 0 4 1 (.slice ah s.hs.length ch) s.hs.length (lcs s.hs) := rows_only r2 o1 fun k hk hm => by
    simp at hm
    exact row_apart r1 r2 (by decide) hm hk
  have hblk2 := heap_setCell_same w1 a 1 _ _ (.slice ao' (8 * s.ws.length + 8 * n) cap') hblk
  have r2b : (w1.setCell ⟨a, 1, none⟩ (.slice ao' (8 * s.ws.length + 8 * n) cap')).ownsRow 0 4 1 (.slice ah s.hs.length ch) s.hs.length (lcs s.hs) := ownsRow_setCell_other r2a (fun e => row_ne r2a hblk (by decide) e rfl) _
  have own1 := A1.own
  have own1b := ownsRow_setCell_other own1 (a := ⟨a, 1, none⟩) (fun e => row_ne own1 hblk (by decide) e rfl) (.slice ao' (8 * s.ws.length + 8 * n) cap')
  go_wp2_with (at_builtin; refine wpList_append_make rfl (.tmp 17) (.tmp 19) elB rfl rfl Try.underlying29 Try.underlying3 rfl rfl rfl rfl r2b hn2 (by omega) ?_)
  intro ao2 cap2 w2 A2
  have o2 : Only (Value.ownBlock (.slice ah s.hs.length ch)).toList (w1.setCell ⟨a, 1, none⟩ (.slice ao' (8 * s.ws.length + 8 * n) cap')) w2 := by
    have := A2.only
    cases ah <;> exact this
  have al2 : a < (w1.setCell ⟨a, 1, none⟩ (.slice ao' (8 * s.ws.length + 8 * n) cap')).heap.size := (Array.getElem?_eq_some_iff.1 hblk2).1
  have hblk3 : w2.heap[a]? = _ := (o2.block a al2 fun hm => by
    simp at hm
    exact row_ne r2b hblk2 (by decide) hm rfl).trans hblk2
  have g2 : w2.cell? ⟨a, 2, none⟩ = some (.slice ah s.hs.length ch) := cell_of_row w2 a 2 _ _ (0, 0) hblk3
  have e2 : w2.frozen? ⟨a, 2, none⟩ = false := frozen_of_row w2 a 2 _ _ hblk3
  have own1c := rows_only own1b o2 fun k hk hm => by
    simp at hm
    exact row_apart own1b r2b (by decide) hk hm
  have own2 := A2.own
  have own1d := ownsRow_setCell_other own1c (a := ⟨a, 2, none⟩) (fun e => row_ne own1c hblk3 (by decide) e rfl) (.slice ao2 (s.hs.length + n) cap2)
  have own2d := ownsRow_setCell_other own2 (a := ⟨a, 2, none⟩) (fun e => row_ne own2 hblk3 (by decide) e rfl) (.slice ao2 (s.hs.length + n) cap2)
  have hblk4 := heap_setCell_same w2 a 2 _ _ (.slice ao2 (s.hs.length + n) cap2) hblk3
  go_wp2
  go_end0
  have l1 : (s.ws ++ List.replicate n 0).length = s.ws.length + n := by simp
  have l2 : (s.hs ++ List.replicate n false).length = s.hs.length + n := by simp
  have ho : Only (a :: ((Value.ownBlock (.slice ab (8 * s.ws.length) cb)).toList ++ (Value.ownBlock (.slice ah s.hs.length ch)).toList)) w (w2.setCell ⟨a, 2, none⟩ (.slice ao2 (s.hs.length + n) cap2)) := by
    refine Only.setCell ?_ (.inl (by simp)) _
    refine Only.trans ?_ (o2.mono fun x hx => .inl hx) (fun x hx => .inl (by simp at hx ⊢; exact .inr (.inr hx)))
    refine Only.setCell ?_ (.inl (by simp)) _
    exact o1.mono fun x hx => .inl (by simp at hx ⊢; exact .inr (.inl hx))
  obtain ⟨z1, z2⟩ := H.out.turned (ws := s.ws ++ List.replicate n 0) (hs := s.hs ++ List.replicate n false) (u1 := .slice ao' (8 * s.ws.length + 8 * n) cap') (u2 := .slice ao2 (s.hs.length + n) cap2) ho
    (fun x hx => by simpa using hx) hblk4
    (by rw [l1, encWs_append, encWs_zeros, bcs_append, ← bcs_zeros, Nat.mul_add]; exact own1d) (by rw [l2, lcs_append, ← lcs_zeros]; exact own2d)
    (fun g hg => by
      cases ao' with
      | none => cases hg
      | some b =>
        cases hg
        rcases A1.place b rfl with ⟨b', rfl, hb⟩ | c
        · exact .inl (by simp [Value.ownBlock, hb])
        · exact .inr c)
    (fun g hg => by
      cases ao2 with
      | none => cases hg
      | some b =>
        cases hg
        rcases A2.place b rfl with ⟨b', rfl, hb⟩ | c
        · exact .inl (by simp [Value.ownBlock, hb])
        · have := o1.size
          simp at c
          exact .inr (by omega))
    (by rw [l1]; exact hn) (by rw [l1, l2, hok.same])
    (fun v hv => by
      rcases List.mem_append.1 hv with c | c
      · exact hok.all v c
      · rw [List.eq_of_mem_replicate c]; exact ⟨by decide, by decide⟩)
  exact ⟨rfl, ⟨_, _, _, _, _, z1⟩, z2⟩

end
end Go.Proofs.Ytkaklabcfhefaab
