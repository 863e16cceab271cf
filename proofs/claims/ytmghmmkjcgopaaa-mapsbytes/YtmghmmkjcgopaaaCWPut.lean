/-
  A writer's memory, and the contract of its put. All that is written is at most 1.5 times 2 to the power of 47 bytes.
-/
import Derived.Test.YtmghmmkjcgopaaaCClone
namespace Go.Proofs.Ytmghmmkjcgopaaa
open Go.RowKit

/-- A writer in block p: what was written, its error; its bytes lie in a block of its own, not below B. -/
structure Wr (w : World) (B p : Nat) (ao : Option Addr) (cap : Nat) (out : List UInt8) (err : Int) : Prop where
  c0 : w.cell? ⟨p, 0, none⟩ = some (.int .i64 (out.length : Int))
  c1 : w.cell? ⟨p, 1, none⟩ = some (.int .i64 err)
  c2 : w.cell? ⟨p, 2, none⟩ = some (.slice ao out.length cap)
  f0 : w.frozen? ⟨p, 0, none⟩ = false
  f1 : w.frozen? ⟨p, 1, none⟩ = false
  f2 : w.frozen? ⟨p, 2, none⟩ = false
  own : w.ownsRow B 5 1 (.slice ao out.length cap) out.length (bcs out)
  ne : ∀ a, ao = some a → a.block ≠ p
  ge : B ≤ p

/-- A writer, its bytes in block g (p, if it has none). -/
def WrE (w : World) (B p g : Nat) (s : List UInt8 × Int) : Prop := ∃ ao cap, Wr w B p ao cap s.1 s.2 ∧ dataOf ao p = g

theorem Wr.lt {w : World} {B p : Nat} {ao : Option Addr} {cap : Nat} {out : List UInt8} {err : Int} (h : Wr w B p ao cap out err) : p < w.heap.size := World.block_lt_of_cell? w _ h.c0

theorem WrE.lt {w : World} {B p g : Nat} {s : List UInt8 × Int} (h : WrE w B p g s) : p < w.heap.size ∧ g < w.heap.size ∧ B ≤ p ∧ B ≤ g := by
  obtain ⟨ao, cap, h, rfl⟩ := h
  have hp := h.lt
  refine ⟨hp, ?_, h.ge, ?_⟩
  · cases ao with
    | none => exact hp
    | some a => exact (h.own.lt a.block rfl).2
  · cases ao with
    | none => exact h.ge
    | some a => exact (h.own.lt a.block rfl).1

theorem WrE.only {w w' : World} {S : List Nat} {B p g : Nat} {s : List UInt8 × Int} (h : WrE w B p g s) (ho : Only S w w') (hp : p ∉ S) (hg : g ∉ S) : WrE w' B p g s := by
  obtain ⟨ao, cap, h, rfl⟩ := h
  have hl := h.lt
  refine ⟨ao, cap, { c0 := (ho.cell (p := ⟨p, 0, none⟩) hl hp).trans h.c0, c1 := (ho.cell (p := ⟨p, 1, none⟩) hl hp).trans h.c1, c2 := (ho.cell (p := ⟨p, 2, none⟩) hl hp).trans h.c2,
                     f0 := (ho.frozen (p := ⟨p, 0, none⟩) hl hp).trans h.f0, f1 := (ho.frozen (p := ⟨p, 1, none⟩) hl hp).trans h.f1, f2 := (ho.frozen (p := ⟨p, 2, none⟩) hl hp).trans h.f2,
                     own := ownb_only h.own ho (fun k hk => ?_), ne := h.ne, ge := h.ge }, rfl⟩
  cases ao with
  | none => simp [Value.ownBlock] at hk
  | some a =>
    simp [Value.ownBlock] at hk
    subst hk
    exact hg

/-- From w on to w' a writer came to be s'; nothing else has turned. -/
def WTo (w : World) (B p g : Nat) (w' : World) (s' : List UInt8 × Int) : Prop := ∃ g', WrE w' B p g' s' ∧ (g' = g ∨ w.heap.size ≤ g') ∧ Only [p, g] w w'

theorem WTo.refl {w : World} {B p g : Nat} {s : List UInt8 × Int} (h : WrE w B p g s) : WTo w B p g w s := ⟨g, h, .inl rfl, Only.refl _ _⟩

theorem wto_trans {w w1 w2 : World} {B p g g1 : Nat} {s2 : List UInt8 × Int} (ho : Only [p, g] w w1) (hg : g1 = g ∨ w.heap.size ≤ g1) (h : WTo w1 B p g1 w2 s2) : WTo w B p g w2 s2 := by
  obtain ⟨g2, h2, h3, h4⟩ := h
  refine ⟨g2, h2, ?_, ho.trans h4 (fun x hx => ?_)⟩
  · have := ho.size
    omega
  · simp at hx ⊢
    omega

/-- What put does. -/
def wPut (s : List UInt8 × Int) (l : List UInt8) : List UInt8 × Int := if s.2 = 0 then (s.1 ++ l, 0) else s

/-- What a writer is when l was appended: v', w1 behind the append. -/
theorem Wr.appended {w w1 : World} {B p : Nat} {ao ao' : Option Addr} {cap cap' : Nat} {out l : List UInt8} (h : Wr w B p ao cap out 0) (hown : w1.ownsRow B 5 1 (.slice ao' (out.length + l.length) cap') (out.length + l.length) (bcs out ++ bcs l))
    (hg : w.grownBy w1 (Value.ownBlock (.slice ao out.length cap))) (hao : ∀ a, ao' = some a → (∃ a', ao = some a' ∧ a'.block = a.block) ∨ w.heap.size ≤ a.block) (hnn : ao' = none → ao = none) (w' : World)
    (hw : (w1.setCell ⟨p, 2, none⟩ (.slice ao' (out.length + l.length) cap')).setCell ⟨p, 0, none⟩ (.int .i64 ((out.length + l.length : Nat) : Int)) = w') :
    WTo w B p (dataOf ao p) w' (out ++ l, 0) := by
  have hl := h.lt
  have o1 : Only [dataOf ao p] w w1 := (Only.of_grown hg).mono (fun x hx => by
    cases ao with
    | none => simp [Value.ownBlock] at hx
    | some a => simp [Value.ownBlock] at hx; subst hx; exact .inl (by simp [dataOf]))
  have hpn : ao ≠ none → p ≠ dataOf ao p := by
    intro hn
    cases ao with
    | none => exact absurd rfl hn
    | some a => exact fun e => h.ne a rfl e.symm
  have hblk : w1.heap[p]? = w.heap[p]? := by
    apply hg.block p hl
    cases ao with
    | none => simp [Value.ownBlock]
    | some a => simp [Value.ownBlock]; exact fun e => h.ne a rfl e.symm
  have k0 : w1.cell? ⟨p, 0, none⟩ = some (.int .i64 (out.length : Int)) := (World.cell?_of_block hblk).trans h.c0
  have k1 : w1.cell? ⟨p, 1, none⟩ = some (.int .i64 0) := (World.cell?_of_block hblk).trans h.c1
  have k2 : w1.cell? ⟨p, 2, none⟩ = some (.slice ao out.length cap) := (World.cell?_of_block hblk).trans h.c2
  have kf : ∀ j, w'.frozen? ⟨p, j, none⟩ = w.frozen? ⟨p, j, none⟩ := fun j => by rw [← hw, frozen_setCell, frozen_setCell]; exact World.frozen?_of_block hblk
  have o2 : Only [p] w1 w' := by
    rw [← hw]
    exact ((Only.refl [p] w1).setCell (.inl (by simp)) _).setCell (.inl (by simp)) _
  have hne : ∀ a, ao' = some a → a.block ≠ p := by
    intro a ha e
    rcases hao a ha with ⟨a', h1, h2⟩ | h1
    · exact h.ne a' h1 (by omega)
    · omega
  have hlen : (out ++ l).length = out.length + l.length := List.length_append
  refine ⟨dataOf ao' p, ⟨ao', cap', { c0 := ?_, c1 := ?_, c2 := ?_, f0 := (kf 0).trans h.f0, f1 := (kf 1).trans h.f1, f2 := (kf 2).trans h.f2, own := ?_, ne := hne, ge := h.ge }, rfl⟩, ?_, ?_⟩
  · rw [← hw, hlen]
    exact cell_setCell_same _ _ ((cell_setCell_ne w1 _ (by simp)).trans k0)
  · rw [← hw, cell_setCell_ne _ _ (by simp), cell_setCell_ne _ _ (by simp)]; exact k1
  · rw [← hw, hlen, cell_setCell_ne _ _ (by simp)]; exact cell_setCell_same _ _ k2
  · rw [hlen, bcs_append]
    exact ownb_only hown o2 (fun k hk => by
      cases ao' with
      | none => simp [Value.ownBlock] at hk
      | some a => simp [Value.ownBlock] at hk; subst hk; simpa using hne a rfl)
  · cases ao' with
    | none =>
      cases ao with
      | none => exact .inl rfl
      | some a => cases hnn rfl
    | some a =>
      rcases hao a rfl with ⟨a', rfl, h2⟩ | h1
      · exact .inl (by simp [dataOf, h2])
      · exact .inr h1
  · exact (o1.mono (fun x hx => .inl (by simp at hx; simp [hx]))).trans o2 (fun x hx => .inl (by simp at hx; simp [hx]))

set_option maxHeartbeats 400000 in
theorem put_any {w : World} {B p g : Nat} {s : List UInt8 × Int} (h : WrE w B p g s) {lao : Option Addr} {lcap d : Nat} {ls : List UInt8} (hb : BS w lao ls d) (hl : lao = none → lcap = 0) (hsz : s.1.length + ls.length ≤ 211106232532992) :
    Calls Try.prog 45 #[.pointer (some ⟨p, 0, none⟩), .slice lao ls.length lcap] w fun e w' => e = .returned (.tuple #[]) ∧ WTo w B p g w' (wPut s ls) := by
  obtain ⟨out, err⟩ := s
  obtain ⟨ao, cap, h, rfl⟩ := h
  simp only at h hsz
  by_cases he : err = 0
  · subst he
    have e : wPut (out, 0) ls = (out ++ ls, 0) := by simp [wPut]
    rw [e]
    have H := hid h
    obtain ⟨c0, c1, c2, f0, f1, f2, own, ne, ge⟩ := h
    have hpl := H.out.lt
    go_enter Try.func45, Try.ntmps45
    go_wp2_with (first | (go_at_call 36; refine (fine_any p 0 _ (by assumption)).mono ?_; rintro e w' ⟨rfl, rfl⟩) | (at_builtin; refine wpList_append_bytes rfl (.tmp 12) (.tmp 13) rfl rfl rfl own hb hl (by omega) (by omega) ?_))
    intro ao' cap' w1 hown hgr hao hnn
    have hblk : w1.heap[p]? = w.heap[p]? := by
      apply hgr.block p hpl
      cases ao with
      | none => simp [Value.ownBlock]
      | some a => simp [Value.ownBlock]; exact fun e => ne a rfl e.symm
    have k0 : w1.cell? ⟨p, 0, none⟩ = some (.int .i64 (out.length : Int)) := (World.cell?_of_block hblk).trans c0
    have k2 : w1.cell? ⟨p, 2, none⟩ = some (.slice ao out.length cap) := (World.cell?_of_block hblk).trans c2
    have kf0 : w1.frozen? ⟨p, 0, none⟩ = false := (World.frozen?_of_block hblk).trans f0
    have kf2 : w1.frozen? ⟨p, 2, none⟩ = false := (World.frozen?_of_block hblk).trans f2
    clear hblk
    go_wp2_with (go_at_call 46; refine (move_any p out.length ls.length _ (by go_simp) (by go_simp) (by omega)).mono ?_; rintro e w' ⟨rfl, hw⟩)
    go_end0
    exact ⟨rfl, H.out.appended hown hgr hao hnn _ hw⟩
  · have e : wPut (out, err) ls = (out, err) := by simp [wPut, he]
    rw [e]
    have H := hid h
    obtain ⟨c0, c1, c2, f0, f1, f2, own, ne, ge⟩ := h
    have he' : (err == 0) = false := by simpa using he
    clear he
    go_enter Try.func45, Try.ntmps45
    go_wp2_with (go_at_call 36; refine (fine_any p err _ (by assumption)).mono ?_; rintro e w' ⟨rfl, rfl⟩)
    go_end0
    exact ⟨rfl, WTo.refl ⟨ao, cap, H.out, rfl⟩⟩

end Go.Proofs.Ytmghmmkjcgopaaa
