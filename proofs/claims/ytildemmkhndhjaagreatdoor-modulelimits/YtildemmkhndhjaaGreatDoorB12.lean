/-
  What the proof leans on, part 12 of 23. The conditions stand in each theorem.
-/
import Derived.Test.YtildemmkhndhjaaGreatDoorB09
import Derived.Test.YtildemmkhndhjaaGreatDoorB11
import Derived.Deep.RegionHeld3
import Derived.Test.YtildemmkhndhjaaGreatDoorB10
namespace Go.Proofs.YtildemmkhndhjaaGreatDoor
open Go.RowKit

/-- What was wrong first, or what is left and how much was read. -/
abbrev St := Sum (Int × Int) Rs

/-- A source in block sb over a reader in block r. -/
structure Sc0 (w : World) (sb r d : Nat) (bp : Option Addr) (s : List UInt8 × Nat × Int) : Prop where
  c0 : w.cell? ⟨sb, 0, none⟩ = some (.pointer (some ⟨r, 0, none⟩))
  c1 : w.cell? ⟨sb, 1, none⟩ = some (.pointer bp)
  f1 : w.frozen? ⟨sb, 1, none⟩ = false
  rd : RdE w r d s
  ne : sb ≠ r
  nd : d ≠ sb
  nr : d ≠ r
  dl : d < w.heap.size
  few : s.1.length ≤ 262144

inductive Sc (w : World) (sb r d : Nat) : St → Prop where
  | fine {l : List UInt8} {n : Nat} (h : Sc0 w sb r d none (l, n, 0)) : Sc w sb r d (.inr (l, n))
  | cut {l : List UInt8} {n : Nat} {e : Int} (he : e ≠ 0) (h : Sc0 w sb r d none (l, n, e)) : Sc w sb r d (.inl ((n : Int), e))
  | bad {s : List UInt8 × Nat × Int} {q : Nat} {a e : Int} (he : e ≠ 0) (h : Sc0 w sb r d (some ⟨q, 0, none⟩) s) (hq : BadAt w q (0, 0, a, e)) (hn : sb < q ∧ q ≠ r) : Sc w sb r d (.inl (a, e))

theorem Sc0.only {w w' : World} {S : List Nat} {sb r d : Nat} {bp : Option Addr} {s : List UInt8 × Nat × Int} (h : Sc0 w sb r d bp s) (ho : Only S w w') (h1 : sb ∉ S) (h2 : r ∉ S) (h3 : d ∉ S) : Sc0 w' sb r d bp s := by
  have hl : sb < w.heap.size := World.block_lt_of_cell? w _ h.c0
  exact ⟨(ho.cell (p := ⟨sb, 0, none⟩) hl h1).trans h.c0, (ho.cell (p := ⟨sb, 1, none⟩) hl h1).trans h.c1, (ho.frozen (p := ⟨sb, 1, none⟩) hl h1).trans h.f1, h.rd.only ho h2 h3, h.ne, h.nd, h.nr, Nat.lt_of_lt_of_le h.dl ho.size, h.few⟩

theorem Sc.lt {w : World} {sb r d : Nat} {t : St} (h : Sc w sb r d t) : sb < w.heap.size ∧ r < w.heap.size ∧ d < w.heap.size ∧ sb ≠ r ∧ d ≠ sb ∧ d ≠ r := by
  cases h with
  | fine h => exact ⟨World.block_lt_of_cell? w _ h.c0, h.rd.lt, h.dl, h.ne, h.nd, h.nr⟩
  | cut he h => exact ⟨World.block_lt_of_cell? w _ h.c0, h.rd.lt, h.dl, h.ne, h.nd, h.nr⟩
  | bad he h hq hn => exact ⟨World.block_lt_of_cell? w _ h.c0, h.rd.lt, h.dl, h.ne, h.nd, h.nr⟩

theorem Sc.c0 {w : World} {sb r d : Nat} {t : St} (h : Sc w sb r d t) : w.cell? ⟨sb, 0, none⟩ = some (.pointer (some ⟨r, 0, none⟩)) := by
  cases h with
  | fine h => exact h.c0
  | cut he h => exact h.c0
  | bad he h hq hn => exact h.c0

/-- What turns only new blocks leaves a source as it is. -/
theorem Sc.only0 {w w' : World} {sb r d : Nat} {t : St} (h : Sc w sb r d t) (ho : Only [] w w') : Sc w' sb r d t := by
  cases h with
  | fine h => exact .fine (h.only ho (by simp) (by simp) (by simp))
  | cut he h => exact .cut he (h.only ho (by simp) (by simp) (by simp))
  | bad he h hq hn => exact .bad he (h.only ho (by simp) (by simp) (by simp)) (hq.only ho (by simp)) hn

/-- What turns blocks from B on, all of the source lying below B but for what was wrong: only where nothing is wrong yet. -/
theorem Sc.drew {w : World} {sb r d : Nat} {t : St} (h : Sc w sb r d t) : Sc w.drew sb r d t := h.only0 ((Only.refl [] w).drew)
theorem Only.drewZ {S : List Nat} {a w : World} (h : Only S a w) (n : Nat) : Only S a (w.drewN n) := h.trans (S' := []) ⟨rfl, rfl, rfl, Nat.le_refl _, fun _ _ _ => rfl⟩ (by simp)
theorem Sc.drewN {w : World} {sb r d : Nat} {t : St} (h : Sc w sb r d t) (n : Nat) : Sc (w.drewN n) sb r d t := h.only0 ((Only.refl [] w).drewZ n)

/-- Where a source stands when m bytes were asked for. -/
def tAfter (m : Nat) (t : St) : St := match t with
  | .inl f => .inl f
  | .inr x => match pTake m x with
    | .inl f => .inl f
    | .inr (_, y) => .inr y

/-- What a piece that reads by p came to. -/
def Out {α : Type} (p : Pr α) (t : St) (x : α) (t' : St) : Prop := match t with
  | .inl f => t' = .inl f
  | .inr u => match p u with
    | .inl f => t' = .inl f
    | .inr (y, u') => x = y ∧ t' = .inr u'

theorem Sc.reader {w : World} {sb r d : Nat} {t : St} (h : Sc w sb r d t) : ∃ s, RdE w r d s ∧ s.1.length ≤ 262144 ∧ (∀ u, t = .inr u → s = (u.1, u.2, 0)) ∧ ∀ m w', RdE w' r d (rTake s m).2 → Only [r] w w' → Sc w' sb r d (tAfter m t) := by
  have key : ∀ {bp : Option Addr} {s : List UInt8 × Nat × Int} (h : Sc0 w sb r d bp s) (m : Nat) (w' : World), RdE w' r d (rTake s m).2 → Only [r] w w' → Sc0 w' sb r d bp (rTake s m).2 := by
    intro bp s h m w' hr ho
    have hl : sb < w.heap.size := World.block_lt_of_cell? w _ h.c0
    have hne := h.ne
    refine ⟨(ho.cell (p := ⟨sb, 0, none⟩) hl (by simpa using hne)).trans h.c0, (ho.cell (p := ⟨sb, 1, none⟩) hl (by simpa using hne)).trans h.c1, (ho.frozen (p := ⟨sb, 1, none⟩) hl (by simpa using hne)).trans h.f1, hr, h.ne, h.nd, h.nr, Nat.lt_of_lt_of_le h.dl ho.size, ?_⟩
    have hf := h.few
    unfold rTake
    split
    · split
      · exact hf
      · simp only [List.length_drop]
        omega
    · exact hf
  cases h with
  | fine h =>
    rename_i l n
    refine ⟨(l, n, 0), h.rd, h.few, fun u hu => by cases hu; rfl, fun m w' hr ho => ?_⟩
    have k := key h m w' hr ho
    unfold tAfter pTake
    simp only [rTake] at k ⊢
    by_cases hm : l.length < m
    · rw [if_pos hm]
      rw [if_pos trivial, if_pos hm] at k
      exact .cut (by decide) k
    · rw [if_neg hm]
      rw [if_pos trivial, if_neg hm] at k
      exact .fine k
  | cut he h =>
    rename_i l n e
    refine ⟨(l, n, e), h.rd, h.few, (fun u hu => by cases hu), fun m w' hr ho => ?_⟩
    have k := key h m w' hr ho
    have e1 : rTake (l, n, e) m = ([], l, n, e) := by unfold rTake; rw [if_neg he]
    rw [e1] at k
    exact .cut he k
  | bad he h hq hn =>
    rename_i s q a e
    refine ⟨s, h.rd, h.few, (fun u hu => by cases hu), fun m w' hr ho => ?_⟩
    exact .bad he (key h m w' hr ho) (hq.only ho (by simpa using hn.2)) hn

/-- What Out says of one take. -/
theorem out_take {α : Type} {m : Nat} {t : St} {s : List UInt8 × Nat × Int} (hs : ∀ u, t = .inr u → s = (u.1, u.2, 0)) (f : List UInt8 → α) : Out (pBind (pTake m) fun l => pDone (f l)) t (f (rTake s m).1) (tAfter m t) := by
  unfold Out tAfter
  cases t with
  | inl g => rfl
  | inr u =>
    obtain rfl := hs u rfl
    obtain ⟨l, n⟩ := u
    simp only [pBind, pTake, rTake, pDone]
    by_cases hm : l.length < m
    · simp [hm]
    · simp [hm]

theorem sc_u1 {w : World} {sb r d : Nat} {t : St} (h : Sc w sb r d t) :
    Calls Tryz.prog 80 #[.pointer (some ⟨r, 0, none⟩)] w fun e w' => ∃ (n : Nat) (t' : St), e = .returned (.int .i64 (n : Int)) ∧ n < 256 ∧ Sc w' sb r d t' ∧ Out (pU 1) t n t' ∧ Only [r] w w' := by
  obtain ⟨s, hr, hl, hs, hk⟩ := h.reader
  refine (u1_any hr).mono ?_
  rintro e w' ⟨rfl, hr', ho⟩
  exact ⟨_, _, rfl, by have := be_lt_of (rTake s 1).1 1 (rTake_le s 1); omega, hk 1 w' hr' ho, out_take hs be, ho⟩

theorem sc_u2 {w : World} {sb r d : Nat} {t : St} (h : Sc w sb r d t) :
    Calls Tryz.prog 77 #[.pointer (some ⟨r, 0, none⟩)] w fun e w' => ∃ (n : Nat) (t' : St), e = .returned (.int .i64 (n : Int)) ∧ n < 65536 ∧ Sc w' sb r d t' ∧ Out (pU 2) t n t' ∧ Only [r] w w' := by
  obtain ⟨s, hr, hl, hs, hk⟩ := h.reader
  refine (u2_any hr).mono ?_
  rintro e w' ⟨rfl, hr', ho⟩
  exact ⟨_, _, rfl, by have := be_lt_of (rTake s 2).1 2 (rTake_le s 2); omega, hk 2 w' hr' ho, out_take hs be, ho⟩

theorem sc_n8 {w : World} {sb r d : Nat} {t : St} (h : Sc w sb r d t) :
    Calls Tryz.prog 139 #[.pointer (some ⟨r, 0, none⟩)] w fun e w' => ∃ (n : Int) (t' : St), e = .returned (.int .i64 n) ∧ (-9223372036854775808 ≤ n ∧ n ≤ 9223372036854775807) ∧ Sc w' sb r d t' ∧ Out pN8 t n t' ∧ Only [r] w w' := by
  obtain ⟨s, hr, hl, hs, hk⟩ := h.reader
  refine (n8_any hr).mono ?_
  rintro e w' ⟨rfl, hr', ho⟩
  exact ⟨_, _, rfl, by simp only [wrap64]; omega, hk 8 w' hr' ho, out_take hs (fun l => wrap64 (be l : Int)), ho⟩

theorem sc_text {w : World} {sb r d : Nat} {t : St} (h : Sc w sb r d t) :
    Calls Tryz.prog 138 #[.pointer (some ⟨r, 0, none⟩)] w fun e w' => ∃ (x : List UInt8) (t' : St), e = .returned (.string (str x)) ∧ x.length ≤ 262144 ∧ Sc w' sb r d t' ∧ Out pText t x t' ∧ Only [r] w w' := by
  obtain ⟨s, hr, hl, hs, hk⟩ := h.reader
  refine (text_any hr).mono ?_
  rintro e w' ⟨rfl, hr', ho⟩
  refine ⟨_, _, rfl, ?_, hk (textLen s.1) w' hr' ho, ?_, ho⟩
  · have := rTake_fst_le s (textLen s.1)
    simp only [rText, List.length_tail]
    omega
  · have := out_take (m := textLen s.1) hs (fun l => l.tail)
    unfold Out at this ⊢
    cases t with
    | inl f => exact this
    | inr u =>
      obtain rfl := hs u rfl
      exact this

theorem sc_bytes {w : World} {sb r d : Nat} {t : St} (h : Sc w sb r d t) (m : Nat) :
    Calls Tryz.prog 74 #[.pointer (some ⟨r, 0, none⟩), .int .i64 (m : Int)] w fun e w' => ∃ (x : List UInt8) (t' : St) (ao : Option Addr) (cap : Nat), e = .returned (.slice ao x.length cap) ∧ x.length ≤ 262144 ∧ w'.ownsRow w.heap.size 5 1 (.slice ao x.length cap) x.length (bcs x) ∧ Sc w' sb r d t' ∧ Out (pTake m) t x t' ∧ Only [r] w w' := by
  obtain ⟨s, hr, hl, hs, hk⟩ := h.reader
  have e0 : rBytes s (m : Int) = rTake s m := by unfold rBytes; rw [if_neg (by omega), Int.toNat_natCast]
  have H := bytes_any hr (m : Int) (by omega)
  rw [e0] at H
  refine H.mono ?_
  rintro e w' ⟨ao, cap, rfl, hown, hr', ho⟩
  refine ⟨_, _, ao, cap, rfl, ?_, hown, hk m w' hr' ho, ?_, ho⟩
  · have := rTake_fst_le s m
    omega
  · have := out_take (m := m) hs (fun l => l)
    unfold Out at this ⊢
    cases t with
    | inl f => exact this
    | inr u =>
      simp only [pBind, pDone] at this
      cases hp : pTake m u with
      | inl f =>
        simp only [hp] at this ⊢
        exact this
      | inr z =>
        simp only [hp] at this ⊢
        exact this

/-- How much was read, where nothing is wrong. -/
theorem sc_at {w : World} {sb r d : Nat} {t : St} (h : Sc w sb r d t) :
    Calls Tryz.prog 83 #[.pointer (some ⟨r, 0, none⟩)] w fun e w' => ∃ n : Nat, e = .returned (.int .i64 (n : Int)) ∧ (∀ u, t = .inr u → n = u.2) ∧ w = w' := by
  obtain ⟨s, hr, hl, hs, hk⟩ := h.reader
  refine (at_any hr).mono ?_
  rintro e w' ⟨rfl, rfl⟩
  exact ⟨_, rfl, fun u hu => by rw [hs u hu], rfl⟩

theorem sc_left {w : World} {sb r d : Nat} {t : St} (h : Sc w sb r d t) :
    Calls Tryz.prog 82 #[.pointer (some ⟨r, 0, none⟩)] w fun e w' => ∃ n : Nat, e = .returned (.int .i64 (n : Int)) ∧ n ≤ 262144 ∧ (∀ u, t = .inr u → n = u.1.length) ∧ w = w' := by
  obtain ⟨s, hr, hl, hs, hk⟩ := h.reader
  refine (left_any hr).mono ?_
  rintro e w' ⟨rfl, rfl⟩
  exact ⟨_, rfl, hl, fun u hu => by rw [hs u hu], rfl⟩

def isFine (t : St) : Bool := match t with
  | .inl _ => false
  | .inr _ => true

set_option maxHeartbeats 1000000 in
theorem fine_src {w : World} {sb r d : Nat} {t : St} (h : Sc w sb r d t) :
    Calls Tryz.prog 84 #[.pointer (some ⟨sb, 0, none⟩)] w fun e w' => e = .returned (.bool (isFine t)) ∧ w = w' := by
  cases h with
  | fine h =>
    have HE := hid (err_any h.rd)
    obtain ⟨c0, c1, _⟩ := h
    go_enter Tryz.func84, Tryz.ntmps84
    go_wp2_with (go_at_call 85; refine HE.out.mono ?_; rintro e w' ⟨rfl, rfl⟩)
    go_ret
    exact ⟨rfl, rfl⟩
  | cut he h =>
    rename_i l n e
    have HE := hid (err_any h.rd)
    obtain ⟨c0, c1, _⟩ := h
    have he' : (e == 0) = false := by simpa using he
    go_enter Tryz.func84, Tryz.ntmps84
    go_wp2_with (go_at_call 85; refine HE.out.mono ?_; rintro e w' ⟨rfl, rfl⟩)
    go_ret
    exact ⟨rfl, rfl⟩
  | bad he h hq hn =>
    obtain ⟨c0, c1, _⟩ := h
    go_enter Tryz.func84, Tryz.ntmps84
    go_wp2_with fail
    go_ret
    exact ⟨rfl, rfl⟩

/-- What refuse makes of where a source stands. -/
def tRefuse (a e : Int) (t : St) : St := match t with
  | .inl f => .inl f
  | .inr _ => .inl (a, e)

set_option maxHeartbeats 1000000 in
theorem refuse_src {w : World} {sb r d : Nat} {t : St} (h : Sc w sb r d t) (a e : Int) (he : e ≠ 0) :
    Calls Tryz.prog 75 #[.pointer (some ⟨sb, 0, none⟩), .int .i64 a, .int .i64 e] w fun ev w' => ev = .returned (.tuple #[]) ∧ Sc w' sb r d (tRefuse a e t) ∧ Only [sb] w w' := by
  have HF := hid (fine_src h)
  have hl := h.lt
  cases t with
  | inl f =>
    have H := hid h
    clear h
    go_enter Tryz.func75, Tryz.ntmps75
    go_wp2_with (go_at_call 84; refine HF.out.mono ?_; rintro e w' ⟨rfl, rfl⟩)
    go_end0
    exact ⟨rfl, H.out, Only.refl _ _⟩
  | inr u =>
    cases h with
    | fine h =>
      have H := hid h
      obtain ⟨c0, c1, f1, _⟩ := h
      have c1' := fun o => cell_alloc o c1
      have f1' : ∀ o, (w.alloc o).frozen? ⟨sb, 1, none⟩ = false := fun o => (frozen_alloc o hl.1).trans f1
      go_enter Tryz.func75, Tryz.ntmps75
      go_wp2_with (go_at_call 84; refine HF.out.mono ?_; rintro e w' ⟨rfl, rfl⟩)
      go_end0
      have hne := H.out.ne
      have hnd := H.out.nd
      have oS : Only [sb] w (w.setCell ⟨sb, 1, none⟩ (.pointer (some ⟨w.heap.size, 0, none⟩))) := (Only.refl [sb] w).setCell (.inl (by simp)) _
      have h0 : Sc0 (w.setCell ⟨sb, 1, none⟩ (.pointer (some ⟨w.heap.size, 0, none⟩))) sb r d (some ⟨w.heap.size, 0, none⟩) _ :=
        ⟨by rw [cell_setCell_ne _ _ (by simp)]; exact H.out.c0, cell_setCell_same _ _ H.out.c1, (frozen_setCell _ _ _ _).trans H.out.f1, H.out.rd.only oS (by simp; omega) (by simp; omega), hne, hnd, H.out.nr, by simpa [World.setCell] using H.out.dl, H.out.few⟩
      have hb := bad_new (w.setCell ⟨sb, 1, none⟩ (.pointer (some ⟨w.heap.size, 0, none⟩))) 0 0 a e
      have hsz : (w.setCell ⟨sb, 1, none⟩ (.pointer (some ⟨w.heap.size, 0, none⟩))).heap.size = w.heap.size := by simp [World.setCell]
      rw [hsz] at hb
      exact ⟨rfl, .bad he (h0.only ((Only.refl [] _).alloc _) (by simp) (by simp) (by simp)) hb ⟨by omega, by omega⟩, oS.alloc _⟩

end Go.Proofs.YtildemmkhndhjaaGreatDoor
namespace Go.Proofs.YtildemmkhndhjaaGreatDoor
open Go.RowKit

theorem out_bind {α β : Type} {p : Pr α} {f : α → Pr β} {t t1 t2 : St} {x : α} {y : β} (h1 : Out p t x t1) (h2 : Out (f x) t1 y t2) : Out (pBind p f) t y t2 := by
  unfold Out at h1 h2 ⊢
  cases t with
  | inl g =>
    simp only at h1
    subst h1
    exact h2
  | inr u =>
    simp only [pBind] at h1 ⊢
    cases hp : p u with
    | inl g =>
      simp only [hp] at h1 ⊢
      subst h1
      exact h2
    | inr z =>
      obtain ⟨x', u'⟩ := z
      simp only [hp] at h1 ⊢
      obtain ⟨rfl, rfl⟩ := h1
      exact h2

theorem out_done {α : Type} (x : α) (t : St) : Out (pDone x) t x t := by
  unfold Out pDone
  cases t with
  | inl g => rfl
  | inr u => exact ⟨rfl, rfl⟩

/-- What is written into a block in which something else than a number lies is not what was wrong. -/
theorem Sc.other {w w' : World} {sb r d rv : Nat} {t : St} (h : Sc w sb r d t) {u : Value} (hu : ∀ x, u ≠ .int .i64 x) (hc : (w.cell? ⟨rv, 0, none⟩ = some u) ∨ (w.cell? ⟨rv, 1, none⟩ = some u) ∨ (w.cell? ⟨rv, 3, none⟩ = some u)) (hne : rv ≠ sb ∧ rv ≠ r ∧ rv ≠ d) (ho : Only [rv] w w') : Sc w' sb r d t := by
  have h1 : sb ∉ [rv] := by simp; omega
  have h2 : r ∉ [rv] := by simp; omega
  have h3 : d ∉ [rv] := by simp; omega
  cases h with
  | fine h => exact .fine (h.only ho h1 h2 h3)
  | cut he h => exact .cut he (h.only ho h1 h2 h3)
  | bad he h hq hn =>
    refine .bad he (h.only ho h1 h2 h3) (hq.only ho (fun hm => ?_)) hn
    simp at hm
    subst hm
    rcases hc with hc | hc | hc
    · rw [hq.c0] at hc
      exact hu _ (Option.some.inj hc).symm
    · rw [hq.c1] at hc
      exact hu _ (Option.some.inj hc).symm
    · rw [hq.c3] at hc
      exact hu _ (Option.some.inj hc).symm

theorem sc_textO {w : World} {sb r d : Nat} {t : St} (h : Sc w sb r d t) :
    Calls Tryz.prog 138 #[.pointer (some ⟨r, 0, none⟩)] w fun e w' => ∃ (x : List UInt8) (t' : St), e = .returned (.string (str x)) ∧ x.length ≤ 262144 ∧ Sc w' sb r d t' ∧ Out pText t x t' ∧ Only [sb, r] w w' :=
  (sc_text h).mono fun _ _ h => by
    obtain ⟨x, t', h1, h2, h3, h4, h5⟩ := h
    exact ⟨x, t', h1, h2, h3, h4, h5.mono (by simp)⟩

/-- Whatever lies in a cell. -/
def Gv (rv : Nat) (gv : Nat → World → Value) : Prop := ∀ i w, gv i w = (w.cell? ⟨rv, i, none⟩).getD undef

theorem gv_ex (rv : Nat) : ∃ gv, Gv rv gv := ⟨fun i w => (w.cell? ⟨rv, i, none⟩).getD undef, fun _ _ => rfl⟩

theorem Gv.of {rv : Nat} {gv : Nat → World → Value} (h : Gv rv gv) {w : World} {i : Nat} {v : Value} (hc : w.cell? ⟨rv, i, none⟩ = some v) : w.cell? ⟨rv, i, none⟩ = some (gv i w) := by
  rw [h i w, hc]
  rfl

theorem Gv.set {rv : Nat} {gv : Nat → World → Value} (h : Gv rv gv) {w : World} {i j : Nat} {u v : Value} (hc : w.cell? ⟨rv, i, none⟩ = some v) : (w.setCell ⟨rv, j, none⟩ u).cell? ⟨rv, i, none⟩ = some (gv i (w.setCell ⟨rv, j, none⟩ u)) := by
  by_cases e : j = i
  · subst e
    exact h.of (cell_setCell_same _ _ hc)
  · exact h.of ((cell_setCell_ne _ _ (by simp)).trans hc)

theorem kcall2 {w z z' : World} {sb r d rv : Nat} {t : St} {gv : Nat → World → Value} {X : List Nat} (hg : Gv rv gv) (hr : rv ≠ sb ∧ rv ≠ r) (h : z.cell? ⟨sb, 0, none⟩ = some (.pointer (some ⟨r, 0, none⟩)) ∧ Only [sb, r] w z ∧ z.cell? ⟨rv, 0, none⟩ = some (gv 0 z) ∧ z.cell? ⟨rv, 1, none⟩ = some (gv 1 z) ∧ z.frozen? ⟨rv, 0, none⟩ = false ∧ z.frozen? ⟨rv, 1, none⟩ = false) (hs : Sc z' sb r d t) (hX : Only X z z') (hx : ∀ x ∈ X, x = sb ∨ x = r) : z'.cell? ⟨sb, 0, none⟩ = some (.pointer (some ⟨r, 0, none⟩)) ∧ Only [sb, r] w z' ∧ z'.cell? ⟨rv, 0, none⟩ = some (gv 0 z') ∧ z'.cell? ⟨rv, 1, none⟩ = some (gv 1 z') ∧ z'.frozen? ⟨rv, 0, none⟩ = false ∧ z'.frozen? ⟨rv, 1, none⟩ = false := by
  obtain ⟨hc, ho, c0, c1, f0, f1⟩ := h
  have hl := World.block_lt_of_cell? z _ c0
  have hm : rv ∉ X := fun hm => by rcases hx rv hm with h | h <;> omega
  exact ⟨hs.c0, ho.trans hX (fun x hm => by rcases hx x hm with h | h <;> simp [h]), hg.of ((hX.cell (p := ⟨rv, 0, none⟩) hl hm).trans c0), hg.of ((hX.cell (p := ⟨rv, 1, none⟩) hl hm).trans c1), (hX.frozen (p := ⟨rv, 0, none⟩) hl hm).trans f0, (hX.frozen (p := ⟨rv, 1, none⟩) hl hm).trans f1⟩

theorem kset2 {w z : World} {sb r rv : Nat} {gv : Nat → World → Value} (hg : Gv rv gv) (hr : rv ≠ sb ∧ rv ≠ r) (hw : w.heap.size ≤ rv) (j : Nat) (u : Value) (h : z.cell? ⟨sb, 0, none⟩ = some (.pointer (some ⟨r, 0, none⟩)) ∧ Only [sb, r] w z ∧ z.cell? ⟨rv, 0, none⟩ = some (gv 0 z) ∧ z.cell? ⟨rv, 1, none⟩ = some (gv 1 z) ∧ z.frozen? ⟨rv, 0, none⟩ = false ∧ z.frozen? ⟨rv, 1, none⟩ = false) : (z.setCell ⟨rv, j, none⟩ u).cell? ⟨sb, 0, none⟩ = some (.pointer (some ⟨r, 0, none⟩)) ∧ Only [sb, r] w (z.setCell ⟨rv, j, none⟩ u) ∧ (z.setCell ⟨rv, j, none⟩ u).cell? ⟨rv, 0, none⟩ = some (gv 0 (z.setCell ⟨rv, j, none⟩ u)) ∧ (z.setCell ⟨rv, j, none⟩ u).cell? ⟨rv, 1, none⟩ = some (gv 1 (z.setCell ⟨rv, j, none⟩ u)) ∧ (z.setCell ⟨rv, j, none⟩ u).frozen? ⟨rv, 0, none⟩ = false ∧ (z.setCell ⟨rv, j, none⟩ u).frozen? ⟨rv, 1, none⟩ = false := by
  obtain ⟨hc, ho, c0, c1, f0, f1⟩ := h
  exact ⟨(cell_setCell_ne _ _ (by simp)).trans hc, ho.setCell (.inr hw) _, hg.set c0, hg.set c1, (frozen_setCell _ _ _ _).trans f0, (frozen_setCell _ _ _ _).trans f1⟩

theorem knew2 {w z : World} {sb r rv : Nat} {gv : Nat → World → Value} (hg : Gv rv gv) (hc : z.cell? ⟨sb, 0, none⟩ = some (.pointer (some ⟨r, 0, none⟩))) (ho : Only [sb, r] w z) {v0 : Value} (c0 : z.cell? ⟨rv, 0, none⟩ = some v0) {v1 : Value} (c1 : z.cell? ⟨rv, 1, none⟩ = some v1) (f0 : z.frozen? ⟨rv, 0, none⟩ = false) (f1 : z.frozen? ⟨rv, 1, none⟩ = false) : z.cell? ⟨sb, 0, none⟩ = some (.pointer (some ⟨r, 0, none⟩)) ∧ Only [sb, r] w z ∧ z.cell? ⟨rv, 0, none⟩ = some (gv 0 z) ∧ z.cell? ⟨rv, 1, none⟩ = some (gv 1 z) ∧ z.frozen? ⟨rv, 0, none⟩ = false ∧ z.frozen? ⟨rv, 1, none⟩ = false := ⟨hc, ho, hg.of c0, hg.of c1, f0, f1⟩

theorem kdrew2 {w z : World} {sb r rv : Nat} {gv : Nat → World → Value} (hg : Gv rv gv) (h : z.cell? ⟨sb, 0, none⟩ = some (.pointer (some ⟨r, 0, none⟩)) ∧ Only [sb, r] w z ∧ z.cell? ⟨rv, 0, none⟩ = some (gv 0 z) ∧ z.cell? ⟨rv, 1, none⟩ = some (gv 1 z) ∧ z.frozen? ⟨rv, 0, none⟩ = false ∧ z.frozen? ⟨rv, 1, none⟩ = false) : z.drew.cell? ⟨sb, 0, none⟩ = some (.pointer (some ⟨r, 0, none⟩)) ∧ Only [sb, r] w z.drew ∧ z.drew.cell? ⟨rv, 0, none⟩ = some (gv 0 z.drew) ∧ z.drew.cell? ⟨rv, 1, none⟩ = some (gv 1 z.drew) ∧ z.drew.frozen? ⟨rv, 0, none⟩ = false ∧ z.drew.frozen? ⟨rv, 1, none⟩ = false := by
  obtain ⟨hc, ho, c0, c1, f0, f1⟩ := h
  exact ⟨hc, ho.drew, hg.of (w := z.drew) c0, hg.of (w := z.drew) c1, f0, f1⟩

theorem kcall4 {w z z' : World} {sb r d rv : Nat} {t : St} {gv : Nat → World → Value} {X : List Nat} (hg : Gv rv gv) (hr : rv ≠ sb ∧ rv ≠ r) (h : z.cell? ⟨sb, 0, none⟩ = some (.pointer (some ⟨r, 0, none⟩)) ∧ Only [sb, r] w z ∧ z.cell? ⟨rv, 0, none⟩ = some (gv 0 z) ∧ z.cell? ⟨rv, 1, none⟩ = some (gv 1 z) ∧ z.cell? ⟨rv, 2, none⟩ = some (gv 2 z) ∧ z.cell? ⟨rv, 3, none⟩ = some (gv 3 z) ∧ z.frozen? ⟨rv, 0, none⟩ = false ∧ z.frozen? ⟨rv, 1, none⟩ = false ∧ z.frozen? ⟨rv, 2, none⟩ = false ∧ z.frozen? ⟨rv, 3, none⟩ = false) (hs : Sc z' sb r d t) (hX : Only X z z') (hx : ∀ x ∈ X, x = sb ∨ x = r) : z'.cell? ⟨sb, 0, none⟩ = some (.pointer (some ⟨r, 0, none⟩)) ∧ Only [sb, r] w z' ∧ z'.cell? ⟨rv, 0, none⟩ = some (gv 0 z') ∧ z'.cell? ⟨rv, 1, none⟩ = some (gv 1 z') ∧ z'.cell? ⟨rv, 2, none⟩ = some (gv 2 z') ∧ z'.cell? ⟨rv, 3, none⟩ = some (gv 3 z') ∧ z'.frozen? ⟨rv, 0, none⟩ = false ∧ z'.frozen? ⟨rv, 1, none⟩ = false ∧ z'.frozen? ⟨rv, 2, none⟩ = false ∧ z'.frozen? ⟨rv, 3, none⟩ = false := by
  obtain ⟨hc, ho, c0, c1, c2, c3, f0, f1, f2, f3⟩ := h
  have hl := World.block_lt_of_cell? z _ c0
  have hm : rv ∉ X := fun hm => by rcases hx rv hm with h | h <;> omega
  exact ⟨hs.c0, ho.trans hX (fun x hm => by rcases hx x hm with h | h <;> simp [h]), hg.of ((hX.cell (p := ⟨rv, 0, none⟩) hl hm).trans c0), hg.of ((hX.cell (p := ⟨rv, 1, none⟩) hl hm).trans c1), hg.of ((hX.cell (p := ⟨rv, 2, none⟩) hl hm).trans c2), hg.of ((hX.cell (p := ⟨rv, 3, none⟩) hl hm).trans c3), (hX.frozen (p := ⟨rv, 0, none⟩) hl hm).trans f0, (hX.frozen (p := ⟨rv, 1, none⟩) hl hm).trans f1, (hX.frozen (p := ⟨rv, 2, none⟩) hl hm).trans f2, (hX.frozen (p := ⟨rv, 3, none⟩) hl hm).trans f3⟩

theorem kset4 {w z : World} {sb r rv : Nat} {gv : Nat → World → Value} (hg : Gv rv gv) (hr : rv ≠ sb ∧ rv ≠ r) (hw : w.heap.size ≤ rv) (j : Nat) (u : Value) (h : z.cell? ⟨sb, 0, none⟩ = some (.pointer (some ⟨r, 0, none⟩)) ∧ Only [sb, r] w z ∧ z.cell? ⟨rv, 0, none⟩ = some (gv 0 z) ∧ z.cell? ⟨rv, 1, none⟩ = some (gv 1 z) ∧ z.cell? ⟨rv, 2, none⟩ = some (gv 2 z) ∧ z.cell? ⟨rv, 3, none⟩ = some (gv 3 z) ∧ z.frozen? ⟨rv, 0, none⟩ = false ∧ z.frozen? ⟨rv, 1, none⟩ = false ∧ z.frozen? ⟨rv, 2, none⟩ = false ∧ z.frozen? ⟨rv, 3, none⟩ = false) : (z.setCell ⟨rv, j, none⟩ u).cell? ⟨sb, 0, none⟩ = some (.pointer (some ⟨r, 0, none⟩)) ∧ Only [sb, r] w (z.setCell ⟨rv, j, none⟩ u) ∧ (z.setCell ⟨rv, j, none⟩ u).cell? ⟨rv, 0, none⟩ = some (gv 0 (z.setCell ⟨rv, j, none⟩ u)) ∧ (z.setCell ⟨rv, j, none⟩ u).cell? ⟨rv, 1, none⟩ = some (gv 1 (z.setCell ⟨rv, j, none⟩ u)) ∧ (z.setCell ⟨rv, j, none⟩ u).cell? ⟨rv, 2, none⟩ = some (gv 2 (z.setCell ⟨rv, j, none⟩ u)) ∧ (z.setCell ⟨rv, j, none⟩ u).cell? ⟨rv, 3, none⟩ = some (gv 3 (z.setCell ⟨rv, j, none⟩ u)) ∧ (z.setCell ⟨rv, j, none⟩ u).frozen? ⟨rv, 0, none⟩ = false ∧ (z.setCell ⟨rv, j, none⟩ u).frozen? ⟨rv, 1, none⟩ = false ∧ (z.setCell ⟨rv, j, none⟩ u).frozen? ⟨rv, 2, none⟩ = false ∧ (z.setCell ⟨rv, j, none⟩ u).frozen? ⟨rv, 3, none⟩ = false := by
  obtain ⟨hc, ho, c0, c1, c2, c3, f0, f1, f2, f3⟩ := h
  exact ⟨(cell_setCell_ne _ _ (by simp)).trans hc, ho.setCell (.inr hw) _, hg.set c0, hg.set c1, hg.set c2, hg.set c3, (frozen_setCell _ _ _ _).trans f0, (frozen_setCell _ _ _ _).trans f1, (frozen_setCell _ _ _ _).trans f2, (frozen_setCell _ _ _ _).trans f3⟩

theorem knew4 {w z : World} {sb r rv : Nat} {gv : Nat → World → Value} (hg : Gv rv gv) (hc : z.cell? ⟨sb, 0, none⟩ = some (.pointer (some ⟨r, 0, none⟩))) (ho : Only [sb, r] w z) {v0 : Value} (c0 : z.cell? ⟨rv, 0, none⟩ = some v0) {v1 : Value} (c1 : z.cell? ⟨rv, 1, none⟩ = some v1) {v2 : Value} (c2 : z.cell? ⟨rv, 2, none⟩ = some v2) {v3 : Value} (c3 : z.cell? ⟨rv, 3, none⟩ = some v3) (f0 : z.frozen? ⟨rv, 0, none⟩ = false) (f1 : z.frozen? ⟨rv, 1, none⟩ = false) (f2 : z.frozen? ⟨rv, 2, none⟩ = false) (f3 : z.frozen? ⟨rv, 3, none⟩ = false) : z.cell? ⟨sb, 0, none⟩ = some (.pointer (some ⟨r, 0, none⟩)) ∧ Only [sb, r] w z ∧ z.cell? ⟨rv, 0, none⟩ = some (gv 0 z) ∧ z.cell? ⟨rv, 1, none⟩ = some (gv 1 z) ∧ z.cell? ⟨rv, 2, none⟩ = some (gv 2 z) ∧ z.cell? ⟨rv, 3, none⟩ = some (gv 3 z) ∧ z.frozen? ⟨rv, 0, none⟩ = false ∧ z.frozen? ⟨rv, 1, none⟩ = false ∧ z.frozen? ⟨rv, 2, none⟩ = false ∧ z.frozen? ⟨rv, 3, none⟩ = false := ⟨hc, ho, hg.of c0, hg.of c1, hg.of c2, hg.of c3, f0, f1, f2, f3⟩

theorem kdrew4 {w z : World} {sb r rv : Nat} {gv : Nat → World → Value} (hg : Gv rv gv) (h : z.cell? ⟨sb, 0, none⟩ = some (.pointer (some ⟨r, 0, none⟩)) ∧ Only [sb, r] w z ∧ z.cell? ⟨rv, 0, none⟩ = some (gv 0 z) ∧ z.cell? ⟨rv, 1, none⟩ = some (gv 1 z) ∧ z.cell? ⟨rv, 2, none⟩ = some (gv 2 z) ∧ z.cell? ⟨rv, 3, none⟩ = some (gv 3 z) ∧ z.frozen? ⟨rv, 0, none⟩ = false ∧ z.frozen? ⟨rv, 1, none⟩ = false ∧ z.frozen? ⟨rv, 2, none⟩ = false ∧ z.frozen? ⟨rv, 3, none⟩ = false) : z.drew.cell? ⟨sb, 0, none⟩ = some (.pointer (some ⟨r, 0, none⟩)) ∧ Only [sb, r] w z.drew ∧ z.drew.cell? ⟨rv, 0, none⟩ = some (gv 0 z.drew) ∧ z.drew.cell? ⟨rv, 1, none⟩ = some (gv 1 z.drew) ∧ z.drew.cell? ⟨rv, 2, none⟩ = some (gv 2 z.drew) ∧ z.drew.cell? ⟨rv, 3, none⟩ = some (gv 3 z.drew) ∧ z.drew.frozen? ⟨rv, 0, none⟩ = false ∧ z.drew.frozen? ⟨rv, 1, none⟩ = false ∧ z.drew.frozen? ⟨rv, 2, none⟩ = false ∧ z.drew.frozen? ⟨rv, 3, none⟩ = false := by
  obtain ⟨hc, ho, c0, c1, c2, c3, f0, f1, f2, f3⟩ := h
  exact ⟨hc, ho.drew, hg.of (w := z.drew) c0, hg.of (w := z.drew) c1, hg.of (w := z.drew) c2, hg.of (w := z.drew) c3, f0, f1, f2, f3⟩

theorem kcall6 {w z z' : World} {sb r d rv : Nat} {t : St} {gv : Nat → World → Value} {X : List Nat} (hg : Gv rv gv) (hr : rv ≠ sb ∧ rv ≠ r) (h : z.cell? ⟨sb, 0, none⟩ = some (.pointer (some ⟨r, 0, none⟩)) ∧ Only [sb, r] w z ∧ z.cell? ⟨rv, 0, none⟩ = some (gv 0 z) ∧ z.cell? ⟨rv, 1, none⟩ = some (gv 1 z) ∧ z.cell? ⟨rv, 2, none⟩ = some (gv 2 z) ∧ z.cell? ⟨rv, 3, none⟩ = some (gv 3 z) ∧ z.cell? ⟨rv, 4, none⟩ = some (gv 4 z) ∧ z.cell? ⟨rv, 5, none⟩ = some (gv 5 z) ∧ z.frozen? ⟨rv, 0, none⟩ = false ∧ z.frozen? ⟨rv, 1, none⟩ = false ∧ z.frozen? ⟨rv, 2, none⟩ = false ∧ z.frozen? ⟨rv, 3, none⟩ = false ∧ z.frozen? ⟨rv, 4, none⟩ = false ∧ z.frozen? ⟨rv, 5, none⟩ = false) (hs : Sc z' sb r d t) (hX : Only X z z') (hx : ∀ x ∈ X, x = sb ∨ x = r) : z'.cell? ⟨sb, 0, none⟩ = some (.pointer (some ⟨r, 0, none⟩)) ∧ Only [sb, r] w z' ∧ z'.cell? ⟨rv, 0, none⟩ = some (gv 0 z') ∧ z'.cell? ⟨rv, 1, none⟩ = some (gv 1 z') ∧ z'.cell? ⟨rv, 2, none⟩ = some (gv 2 z') ∧ z'.cell? ⟨rv, 3, none⟩ = some (gv 3 z') ∧ z'.cell? ⟨rv, 4, none⟩ = some (gv 4 z') ∧ z'.cell? ⟨rv, 5, none⟩ = some (gv 5 z') ∧ z'.frozen? ⟨rv, 0, none⟩ = false ∧ z'.frozen? ⟨rv, 1, none⟩ = false ∧ z'.frozen? ⟨rv, 2, none⟩ = false ∧ z'.frozen? ⟨rv, 3, none⟩ = false ∧ z'.frozen? ⟨rv, 4, none⟩ = false ∧ z'.frozen? ⟨rv, 5, none⟩ = false := by
  obtain ⟨hc, ho, c0, c1, c2, c3, c4, c5, f0, f1, f2, f3, f4, f5⟩ := h
  have hl := World.block_lt_of_cell? z _ c0
  have hm : rv ∉ X := fun hm => by rcases hx rv hm with h | h <;> omega
  exact ⟨hs.c0, ho.trans hX (fun x hm => by rcases hx x hm with h | h <;> simp [h]), hg.of ((hX.cell (p := ⟨rv, 0, none⟩) hl hm).trans c0), hg.of ((hX.cell (p := ⟨rv, 1, none⟩) hl hm).trans c1), hg.of ((hX.cell (p := ⟨rv, 2, none⟩) hl hm).trans c2), hg.of ((hX.cell (p := ⟨rv, 3, none⟩) hl hm).trans c3), hg.of ((hX.cell (p := ⟨rv, 4, none⟩) hl hm).trans c4), hg.of ((hX.cell (p := ⟨rv, 5, none⟩) hl hm).trans c5), (hX.frozen (p := ⟨rv, 0, none⟩) hl hm).trans f0, (hX.frozen (p := ⟨rv, 1, none⟩) hl hm).trans f1, (hX.frozen (p := ⟨rv, 2, none⟩) hl hm).trans f2, (hX.frozen (p := ⟨rv, 3, none⟩) hl hm).trans f3, (hX.frozen (p := ⟨rv, 4, none⟩) hl hm).trans f4, (hX.frozen (p := ⟨rv, 5, none⟩) hl hm).trans f5⟩

theorem kset6 {w z : World} {sb r rv : Nat} {gv : Nat → World → Value} (hg : Gv rv gv) (hr : rv ≠ sb ∧ rv ≠ r) (hw : w.heap.size ≤ rv) (j : Nat) (u : Value) (h : z.cell? ⟨sb, 0, none⟩ = some (.pointer (some ⟨r, 0, none⟩)) ∧ Only [sb, r] w z ∧ z.cell? ⟨rv, 0, none⟩ = some (gv 0 z) ∧ z.cell? ⟨rv, 1, none⟩ = some (gv 1 z) ∧ z.cell? ⟨rv, 2, none⟩ = some (gv 2 z) ∧ z.cell? ⟨rv, 3, none⟩ = some (gv 3 z) ∧ z.cell? ⟨rv, 4, none⟩ = some (gv 4 z) ∧ z.cell? ⟨rv, 5, none⟩ = some (gv 5 z) ∧ z.frozen? ⟨rv, 0, none⟩ = false ∧ z.frozen? ⟨rv, 1, none⟩ = false ∧ z.frozen? ⟨rv, 2, none⟩ = false ∧ z.frozen? ⟨rv, 3, none⟩ = false ∧ z.frozen? ⟨rv, 4, none⟩ = false ∧ z.frozen? ⟨rv, 5, none⟩ = false) : (z.setCell ⟨rv, j, none⟩ u).cell? ⟨sb, 0, none⟩ = some (.pointer (some ⟨r, 0, none⟩)) ∧ Only [sb, r] w (z.setCell ⟨rv, j, none⟩ u) ∧ (z.setCell ⟨rv, j, none⟩ u).cell? ⟨rv, 0, none⟩ = some (gv 0 (z.setCell ⟨rv, j, none⟩ u)) ∧ (z.setCell ⟨rv, j, none⟩ u).cell? ⟨rv, 1, none⟩ = some (gv 1 (z.setCell ⟨rv, j, none⟩ u)) ∧ (z.setCell ⟨rv, j, none⟩ u).cell? ⟨rv, 2, none⟩ = some (gv 2 (z.setCell ⟨rv, j, none⟩ u)) ∧ (z.setCell ⟨rv, j, none⟩ u).cell? ⟨rv, 3, none⟩ = some (gv 3 (z.setCell ⟨rv, j, none⟩ u)) ∧ (z.setCell ⟨rv, j, none⟩ u).cell? ⟨rv, 4, none⟩ = some (gv 4 (z.setCell ⟨rv, j, none⟩ u)) ∧ (z.setCell ⟨rv, j, none⟩ u).cell? ⟨rv, 5, none⟩ = some (gv 5 (z.setCell ⟨rv, j, none⟩ u)) ∧ (z.setCell ⟨rv, j, none⟩ u).frozen? ⟨rv, 0, none⟩ = false ∧ (z.setCell ⟨rv, j, none⟩ u).frozen? ⟨rv, 1, none⟩ = false ∧ (z.setCell ⟨rv, j, none⟩ u).frozen? ⟨rv, 2, none⟩ = false ∧ (z.setCell ⟨rv, j, none⟩ u).frozen? ⟨rv, 3, none⟩ = false ∧ (z.setCell ⟨rv, j, none⟩ u).frozen? ⟨rv, 4, none⟩ = false ∧ (z.setCell ⟨rv, j, none⟩ u).frozen? ⟨rv, 5, none⟩ = false := by
  obtain ⟨hc, ho, c0, c1, c2, c3, c4, c5, f0, f1, f2, f3, f4, f5⟩ := h
  exact ⟨(cell_setCell_ne _ _ (by simp)).trans hc, ho.setCell (.inr hw) _, hg.set c0, hg.set c1, hg.set c2, hg.set c3, hg.set c4, hg.set c5, (frozen_setCell _ _ _ _).trans f0, (frozen_setCell _ _ _ _).trans f1, (frozen_setCell _ _ _ _).trans f2, (frozen_setCell _ _ _ _).trans f3, (frozen_setCell _ _ _ _).trans f4, (frozen_setCell _ _ _ _).trans f5⟩

theorem knew6 {w z : World} {sb r rv : Nat} {gv : Nat → World → Value} (hg : Gv rv gv) (hc : z.cell? ⟨sb, 0, none⟩ = some (.pointer (some ⟨r, 0, none⟩))) (ho : Only [sb, r] w z) {v0 : Value} (c0 : z.cell? ⟨rv, 0, none⟩ = some v0) {v1 : Value} (c1 : z.cell? ⟨rv, 1, none⟩ = some v1) {v2 : Value} (c2 : z.cell? ⟨rv, 2, none⟩ = some v2) {v3 : Value} (c3 : z.cell? ⟨rv, 3, none⟩ = some v3) {v4 : Value} (c4 : z.cell? ⟨rv, 4, none⟩ = some v4) {v5 : Value} (c5 : z.cell? ⟨rv, 5, none⟩ = some v5) (f0 : z.frozen? ⟨rv, 0, none⟩ = false) (f1 : z.frozen? ⟨rv, 1, none⟩ = false) (f2 : z.frozen? ⟨rv, 2, none⟩ = false) (f3 : z.frozen? ⟨rv, 3, none⟩ = false) (f4 : z.frozen? ⟨rv, 4, none⟩ = false) (f5 : z.frozen? ⟨rv, 5, none⟩ = false) : z.cell? ⟨sb, 0, none⟩ = some (.pointer (some ⟨r, 0, none⟩)) ∧ Only [sb, r] w z ∧ z.cell? ⟨rv, 0, none⟩ = some (gv 0 z) ∧ z.cell? ⟨rv, 1, none⟩ = some (gv 1 z) ∧ z.cell? ⟨rv, 2, none⟩ = some (gv 2 z) ∧ z.cell? ⟨rv, 3, none⟩ = some (gv 3 z) ∧ z.cell? ⟨rv, 4, none⟩ = some (gv 4 z) ∧ z.cell? ⟨rv, 5, none⟩ = some (gv 5 z) ∧ z.frozen? ⟨rv, 0, none⟩ = false ∧ z.frozen? ⟨rv, 1, none⟩ = false ∧ z.frozen? ⟨rv, 2, none⟩ = false ∧ z.frozen? ⟨rv, 3, none⟩ = false ∧ z.frozen? ⟨rv, 4, none⟩ = false ∧ z.frozen? ⟨rv, 5, none⟩ = false := ⟨hc, ho, hg.of c0, hg.of c1, hg.of c2, hg.of c3, hg.of c4, hg.of c5, f0, f1, f2, f3, f4, f5⟩

theorem kdrew6 {w z : World} {sb r rv : Nat} {gv : Nat → World → Value} (hg : Gv rv gv) (h : z.cell? ⟨sb, 0, none⟩ = some (.pointer (some ⟨r, 0, none⟩)) ∧ Only [sb, r] w z ∧ z.cell? ⟨rv, 0, none⟩ = some (gv 0 z) ∧ z.cell? ⟨rv, 1, none⟩ = some (gv 1 z) ∧ z.cell? ⟨rv, 2, none⟩ = some (gv 2 z) ∧ z.cell? ⟨rv, 3, none⟩ = some (gv 3 z) ∧ z.cell? ⟨rv, 4, none⟩ = some (gv 4 z) ∧ z.cell? ⟨rv, 5, none⟩ = some (gv 5 z) ∧ z.frozen? ⟨rv, 0, none⟩ = false ∧ z.frozen? ⟨rv, 1, none⟩ = false ∧ z.frozen? ⟨rv, 2, none⟩ = false ∧ z.frozen? ⟨rv, 3, none⟩ = false ∧ z.frozen? ⟨rv, 4, none⟩ = false ∧ z.frozen? ⟨rv, 5, none⟩ = false) : z.drew.cell? ⟨sb, 0, none⟩ = some (.pointer (some ⟨r, 0, none⟩)) ∧ Only [sb, r] w z.drew ∧ z.drew.cell? ⟨rv, 0, none⟩ = some (gv 0 z.drew) ∧ z.drew.cell? ⟨rv, 1, none⟩ = some (gv 1 z.drew) ∧ z.drew.cell? ⟨rv, 2, none⟩ = some (gv 2 z.drew) ∧ z.drew.cell? ⟨rv, 3, none⟩ = some (gv 3 z.drew) ∧ z.drew.cell? ⟨rv, 4, none⟩ = some (gv 4 z.drew) ∧ z.drew.cell? ⟨rv, 5, none⟩ = some (gv 5 z.drew) ∧ z.drew.frozen? ⟨rv, 0, none⟩ = false ∧ z.drew.frozen? ⟨rv, 1, none⟩ = false ∧ z.drew.frozen? ⟨rv, 2, none⟩ = false ∧ z.drew.frozen? ⟨rv, 3, none⟩ = false ∧ z.drew.frozen? ⟨rv, 4, none⟩ = false ∧ z.drew.frozen? ⟨rv, 5, none⟩ = false := by
  obtain ⟨hc, ho, c0, c1, c2, c3, c4, c5, f0, f1, f2, f3, f4, f5⟩ := h
  exact ⟨hc, ho.drew, hg.of (w := z.drew) c0, hg.of (w := z.drew) c1, hg.of (w := z.drew) c2, hg.of (w := z.drew) c3, hg.of (w := z.drew) c4, hg.of (w := z.drew) c5, f0, f1, f2, f3, f4, f5⟩

theorem kcall10 {w z z' : World} {sb r d rv : Nat} {t : St} {gv : Nat → World → Value} {X : List Nat} (hg : Gv rv gv) (hr : rv ≠ sb ∧ rv ≠ r) (h : z.cell? ⟨sb, 0, none⟩ = some (.pointer (some ⟨r, 0, none⟩)) ∧ Only [sb, r] w z ∧ z.cell? ⟨rv, 0, none⟩ = some (gv 0 z) ∧ z.cell? ⟨rv, 1, none⟩ = some (gv 1 z) ∧ z.cell? ⟨rv, 2, none⟩ = some (gv 2 z) ∧ z.cell? ⟨rv, 3, none⟩ = some (gv 3 z) ∧ z.cell? ⟨rv, 4, none⟩ = some (gv 4 z) ∧ z.cell? ⟨rv, 5, none⟩ = some (gv 5 z) ∧ z.cell? ⟨rv, 6, none⟩ = some (gv 6 z) ∧ z.cell? ⟨rv, 7, none⟩ = some (gv 7 z) ∧ z.cell? ⟨rv, 8, none⟩ = some (gv 8 z) ∧ z.cell? ⟨rv, 9, none⟩ = some (gv 9 z) ∧ z.frozen? ⟨rv, 0, none⟩ = false ∧ z.frozen? ⟨rv, 1, none⟩ = false ∧ z.frozen? ⟨rv, 2, none⟩ = false ∧ z.frozen? ⟨rv, 3, none⟩ = false ∧ z.frozen? ⟨rv, 4, none⟩ = false ∧ z.frozen? ⟨rv, 5, none⟩ = false ∧ z.frozen? ⟨rv, 6, none⟩ = false ∧ z.frozen? ⟨rv, 7, none⟩ = false ∧ z.frozen? ⟨rv, 8, none⟩ = false ∧ z.frozen? ⟨rv, 9, none⟩ = false) (hs : Sc z' sb r d t) (hX : Only X z z') (hx : ∀ x ∈ X, x = sb ∨ x = r) : z'.cell? ⟨sb, 0, none⟩ = some (.pointer (some ⟨r, 0, none⟩)) ∧ Only [sb, r] w z' ∧ z'.cell? ⟨rv, 0, none⟩ = some (gv 0 z') ∧ z'.cell? ⟨rv, 1, none⟩ = some (gv 1 z') ∧ z'.cell? ⟨rv, 2, none⟩ = some (gv 2 z') ∧ z'.cell? ⟨rv, 3, none⟩ = some (gv 3 z') ∧ z'.cell? ⟨rv, 4, none⟩ = some (gv 4 z') ∧ z'.cell? ⟨rv, 5, none⟩ = some (gv 5 z') ∧ z'.cell? ⟨rv, 6, none⟩ = some (gv 6 z') ∧ z'.cell? ⟨rv, 7, none⟩ = some (gv 7 z') ∧ z'.cell? ⟨rv, 8, none⟩ = some (gv 8 z') ∧ z'.cell? ⟨rv, 9, none⟩ = some (gv 9 z') ∧ z'.frozen? ⟨rv, 0, none⟩ = false ∧ z'.frozen? ⟨rv, 1, none⟩ = false ∧ z'.frozen? ⟨rv, 2, none⟩ = false ∧ z'.frozen? ⟨rv, 3, none⟩ = false ∧ z'.frozen? ⟨rv, 4, none⟩ = false ∧ z'.frozen? ⟨rv, 5, none⟩ = false ∧ z'.frozen? ⟨rv, 6, none⟩ = false ∧ z'.frozen? ⟨rv, 7, none⟩ = false ∧ z'.frozen? ⟨rv, 8, none⟩ = false ∧ z'.frozen? ⟨rv, 9, none⟩ = false := by
  obtain ⟨hc, ho, c0, c1, c2, c3, c4, c5, c6, c7, c8, c9, f0, f1, f2, f3, f4, f5, f6, f7, f8, f9⟩ := h
  have hl := World.block_lt_of_cell? z _ c0
  have hm : rv ∉ X := fun hm => by rcases hx rv hm with h | h <;> omega
  exact ⟨hs.c0, ho.trans hX (fun x hm => by rcases hx x hm with h | h <;> simp [h]), hg.of ((hX.cell (p := ⟨rv, 0, none⟩) hl hm).trans c0), hg.of ((hX.cell (p := ⟨rv, 1, none⟩) hl hm).trans c1), hg.of ((hX.cell (p := ⟨rv, 2, none⟩) hl hm).trans c2), hg.of ((hX.cell (p := ⟨rv, 3, none⟩) hl hm).trans c3), hg.of ((hX.cell (p := ⟨rv, 4, none⟩) hl hm).trans c4), hg.of ((hX.cell (p := ⟨rv, 5, none⟩) hl hm).trans c5), hg.of ((hX.cell (p := ⟨rv, 6, none⟩) hl hm).trans c6), hg.of ((hX.cell (p := ⟨rv, 7, none⟩) hl hm).trans c7), hg.of ((hX.cell (p := ⟨rv, 8, none⟩) hl hm).trans c8), hg.of ((hX.cell (p := ⟨rv, 9, none⟩) hl hm).trans c9), (hX.frozen (p := ⟨rv, 0, none⟩) hl hm).trans f0, (hX.frozen (p := ⟨rv, 1, none⟩) hl hm).trans f1, (hX.frozen (p := ⟨rv, 2, none⟩) hl hm).trans f2, (hX.frozen (p := ⟨rv, 3, none⟩) hl hm).trans f3, (hX.frozen (p := ⟨rv, 4, none⟩) hl hm).trans f4, (hX.frozen (p := ⟨rv, 5, none⟩) hl hm).trans f5, (hX.frozen (p := ⟨rv, 6, none⟩) hl hm).trans f6, (hX.frozen (p := ⟨rv, 7, none⟩) hl hm).trans f7, (hX.frozen (p := ⟨rv, 8, none⟩) hl hm).trans f8, (hX.frozen (p := ⟨rv, 9, none⟩) hl hm).trans f9⟩

theorem kset10 {w z : World} {sb r rv : Nat} {gv : Nat → World → Value} (hg : Gv rv gv) (hr : rv ≠ sb ∧ rv ≠ r) (hw : w.heap.size ≤ rv) (j : Nat) (u : Value) (h : z.cell? ⟨sb, 0, none⟩ = some (.pointer (some ⟨r, 0, none⟩)) ∧ Only [sb, r] w z ∧ z.cell? ⟨rv, 0, none⟩ = some (gv 0 z) ∧ z.cell? ⟨rv, 1, none⟩ = some (gv 1 z) ∧ z.cell? ⟨rv, 2, none⟩ = some (gv 2 z) ∧ z.cell? ⟨rv, 3, none⟩ = some (gv 3 z) ∧ z.cell? ⟨rv, 4, none⟩ = some (gv 4 z) ∧ z.cell? ⟨rv, 5, none⟩ = some (gv 5 z) ∧ z.cell? ⟨rv, 6, none⟩ = some (gv 6 z) ∧ z.cell? ⟨rv, 7, none⟩ = some (gv 7 z) ∧ z.cell? ⟨rv, 8, none⟩ = some (gv 8 z) ∧ z.cell? ⟨rv, 9, none⟩ = some (gv 9 z) ∧ z.frozen? ⟨rv, 0, none⟩ = false ∧ z.frozen? ⟨rv, 1, none⟩ = false ∧ z.frozen? ⟨rv, 2, none⟩ = false ∧ z.frozen? ⟨rv, 3, none⟩ = false ∧ z.frozen? ⟨rv, 4, none⟩ = false ∧ z.frozen? ⟨rv, 5, none⟩ = false ∧ z.frozen? ⟨rv, 6, none⟩ = false ∧ z.frozen? ⟨rv, 7, none⟩ = false ∧ z.frozen? ⟨rv, 8, none⟩ = false ∧ z.frozen? ⟨rv, 9, none⟩ = false) : (z.setCell ⟨rv, j, none⟩ u).cell? ⟨sb, 0, none⟩ = some (.pointer (some ⟨r, 0, none⟩)) ∧ Only [sb, r] w (z.setCell ⟨rv, j, none⟩ u) ∧ (z.setCell ⟨rv, j, none⟩ u).cell? ⟨rv, 0, none⟩ = some (gv 0 (z.setCell ⟨rv, j, none⟩ u)) ∧ (z.setCell ⟨rv, j, none⟩ u).cell? ⟨rv, 1, none⟩ = some (gv 1 (z.setCell ⟨rv, j, none⟩ u)) ∧ (z.setCell ⟨rv, j, none⟩ u).cell? ⟨rv, 2, none⟩ = some (gv 2 (z.setCell ⟨rv, j, none⟩ u)) ∧ (z.setCell ⟨rv, j, none⟩ u).cell? ⟨rv, 3, none⟩ = some (gv 3 (z.setCell ⟨rv, j, none⟩ u)) ∧ (z.setCell ⟨rv, j, none⟩ u).cell? ⟨rv, 4, none⟩ = some (gv 4 (z.setCell ⟨rv, j, none⟩ u)) ∧ (z.setCell ⟨rv, j, none⟩ u).cell? ⟨rv, 5, none⟩ = some (gv 5 (z.setCell ⟨rv, j, none⟩ u)) ∧ (z.setCell ⟨rv, j, none⟩ u).cell? ⟨rv, 6, none⟩ = some (gv 6 (z.setCell ⟨rv, j, none⟩ u)) ∧ (z.setCell ⟨rv, j, none⟩ u).cell? ⟨rv, 7, none⟩ = some (gv 7 (z.setCell ⟨rv, j, none⟩ u)) ∧ (z.setCell ⟨rv, j, none⟩ u).cell? ⟨rv, 8, none⟩ = some (gv 8 (z.setCell ⟨rv, j, none⟩ u)) ∧ (z.setCell ⟨rv, j, none⟩ u).cell? ⟨rv, 9, none⟩ = some (gv 9 (z.setCell ⟨rv, j, none⟩ u)) ∧ (z.setCell ⟨rv, j, none⟩ u).frozen? ⟨rv, 0, none⟩ = false ∧ (z.setCell ⟨rv, j, none⟩ u).frozen? ⟨rv, 1, none⟩ = false ∧ (z.setCell ⟨rv, j, none⟩ u).frozen? ⟨rv, 2, none⟩ = false ∧ (z.setCell ⟨rv, j, none⟩ u).frozen? ⟨rv, 3, none⟩ = false ∧ (z.setCell ⟨rv, j, none⟩ u).frozen? ⟨rv, 4, none⟩ = false ∧ (z.setCell ⟨rv, j, none⟩ u).frozen? ⟨rv, 5, none⟩ = false ∧ (z.setCell ⟨rv, j, none⟩ u).frozen? ⟨rv, 6, none⟩ = false ∧ (z.setCell ⟨rv, j, none⟩ u).frozen? ⟨rv, 7, none⟩ = false ∧ (z.setCell ⟨rv, j, none⟩ u).frozen? ⟨rv, 8, none⟩ = false ∧ (z.setCell ⟨rv, j, none⟩ u).frozen? ⟨rv, 9, none⟩ = false := by
  obtain ⟨hc, ho, c0, c1, c2, c3, c4, c5, c6, c7, c8, c9, f0, f1, f2, f3, f4, f5, f6, f7, f8, f9⟩ := h
  exact ⟨(cell_setCell_ne _ _ (by simp)).trans hc, ho.setCell (.inr hw) _, hg.set c0, hg.set c1, hg.set c2, hg.set c3, hg.set c4, hg.set c5, hg.set c6, hg.set c7, hg.set c8, hg.set c9, (frozen_setCell _ _ _ _).trans f0, (frozen_setCell _ _ _ _).trans f1, (frozen_setCell _ _ _ _).trans f2, (frozen_setCell _ _ _ _).trans f3, (frozen_setCell _ _ _ _).trans f4, (frozen_setCell _ _ _ _).trans f5, (frozen_setCell _ _ _ _).trans f6, (frozen_setCell _ _ _ _).trans f7, (frozen_setCell _ _ _ _).trans f8, (frozen_setCell _ _ _ _).trans f9⟩

theorem knew10 {w z : World} {sb r rv : Nat} {gv : Nat → World → Value} (hg : Gv rv gv) (hc : z.cell? ⟨sb, 0, none⟩ = some (.pointer (some ⟨r, 0, none⟩))) (ho : Only [sb, r] w z) {v0 : Value} (c0 : z.cell? ⟨rv, 0, none⟩ = some v0) {v1 : Value} (c1 : z.cell? ⟨rv, 1, none⟩ = some v1) {v2 : Value} (c2 : z.cell? ⟨rv, 2, none⟩ = some v2) {v3 : Value} (c3 : z.cell? ⟨rv, 3, none⟩ = some v3) {v4 : Value} (c4 : z.cell? ⟨rv, 4, none⟩ = some v4) {v5 : Value} (c5 : z.cell? ⟨rv, 5, none⟩ = some v5) {v6 : Value} (c6 : z.cell? ⟨rv, 6, none⟩ = some v6) {v7 : Value} (c7 : z.cell? ⟨rv, 7, none⟩ = some v7) {v8 : Value} (c8 : z.cell? ⟨rv, 8, none⟩ = some v8) {v9 : Value} (c9 : z.cell? ⟨rv, 9, none⟩ = some v9) (f0 : z.frozen? ⟨rv, 0, none⟩ = false) (f1 : z.frozen? ⟨rv, 1, none⟩ = false) (f2 : z.frozen? ⟨rv, 2, none⟩ = false) (f3 : z.frozen? ⟨rv, 3, none⟩ = false) (f4 : z.frozen? ⟨rv, 4, none⟩ = false) (f5 : z.frozen? ⟨rv, 5, none⟩ = false) (f6 : z.frozen? ⟨rv, 6, none⟩ = false) (f7 : z.frozen? ⟨rv, 7, none⟩ = false) (f8 : z.frozen? ⟨rv, 8, none⟩ = false) (f9 : z.frozen? ⟨rv, 9, none⟩ = false) : z.cell? ⟨sb, 0, none⟩ = some (.pointer (some ⟨r, 0, none⟩)) ∧ Only [sb, r] w z ∧ z.cell? ⟨rv, 0, none⟩ = some (gv 0 z) ∧ z.cell? ⟨rv, 1, none⟩ = some (gv 1 z) ∧ z.cell? ⟨rv, 2, none⟩ = some (gv 2 z) ∧ z.cell? ⟨rv, 3, none⟩ = some (gv 3 z) ∧ z.cell? ⟨rv, 4, none⟩ = some (gv 4 z) ∧ z.cell? ⟨rv, 5, none⟩ = some (gv 5 z) ∧ z.cell? ⟨rv, 6, none⟩ = some (gv 6 z) ∧ z.cell? ⟨rv, 7, none⟩ = some (gv 7 z) ∧ z.cell? ⟨rv, 8, none⟩ = some (gv 8 z) ∧ z.cell? ⟨rv, 9, none⟩ = some (gv 9 z) ∧ z.frozen? ⟨rv, 0, none⟩ = false ∧ z.frozen? ⟨rv, 1, none⟩ = false ∧ z.frozen? ⟨rv, 2, none⟩ = false ∧ z.frozen? ⟨rv, 3, none⟩ = false ∧ z.frozen? ⟨rv, 4, none⟩ = false ∧ z.frozen? ⟨rv, 5, none⟩ = false ∧ z.frozen? ⟨rv, 6, none⟩ = false ∧ z.frozen? ⟨rv, 7, none⟩ = false ∧ z.frozen? ⟨rv, 8, none⟩ = false ∧ z.frozen? ⟨rv, 9, none⟩ = false := ⟨hc, ho, hg.of c0, hg.of c1, hg.of c2, hg.of c3, hg.of c4, hg.of c5, hg.of c6, hg.of c7, hg.of c8, hg.of c9, f0, f1, f2, f3, f4, f5, f6, f7, f8, f9⟩

theorem kdrew10 {w z : World} {sb r rv : Nat} {gv : Nat → World → Value} (hg : Gv rv gv) (h : z.cell? ⟨sb, 0, none⟩ = some (.pointer (some ⟨r, 0, none⟩)) ∧ Only [sb, r] w z ∧ z.cell? ⟨rv, 0, none⟩ = some (gv 0 z) ∧ z.cell? ⟨rv, 1, none⟩ = some (gv 1 z) ∧ z.cell? ⟨rv, 2, none⟩ = some (gv 2 z) ∧ z.cell? ⟨rv, 3, none⟩ = some (gv 3 z) ∧ z.cell? ⟨rv, 4, none⟩ = some (gv 4 z) ∧ z.cell? ⟨rv, 5, none⟩ = some (gv 5 z) ∧ z.cell? ⟨rv, 6, none⟩ = some (gv 6 z) ∧ z.cell? ⟨rv, 7, none⟩ = some (gv 7 z) ∧ z.cell? ⟨rv, 8, none⟩ = some (gv 8 z) ∧ z.cell? ⟨rv, 9, none⟩ = some (gv 9 z) ∧ z.frozen? ⟨rv, 0, none⟩ = false ∧ z.frozen? ⟨rv, 1, none⟩ = false ∧ z.frozen? ⟨rv, 2, none⟩ = false ∧ z.frozen? ⟨rv, 3, none⟩ = false ∧ z.frozen? ⟨rv, 4, none⟩ = false ∧ z.frozen? ⟨rv, 5, none⟩ = false ∧ z.frozen? ⟨rv, 6, none⟩ = false ∧ z.frozen? ⟨rv, 7, none⟩ = false ∧ z.frozen? ⟨rv, 8, none⟩ = false ∧ z.frozen? ⟨rv, 9, none⟩ = false) : z.drew.cell? ⟨sb, 0, none⟩ = some (.pointer (some ⟨r, 0, none⟩)) ∧ Only [sb, r] w z.drew ∧ z.drew.cell? ⟨rv, 0, none⟩ = some (gv 0 z.drew) ∧ z.drew.cell? ⟨rv, 1, none⟩ = some (gv 1 z.drew) ∧ z.drew.cell? ⟨rv, 2, none⟩ = some (gv 2 z.drew) ∧ z.drew.cell? ⟨rv, 3, none⟩ = some (gv 3 z.drew) ∧ z.drew.cell? ⟨rv, 4, none⟩ = some (gv 4 z.drew) ∧ z.drew.cell? ⟨rv, 5, none⟩ = some (gv 5 z.drew) ∧ z.drew.cell? ⟨rv, 6, none⟩ = some (gv 6 z.drew) ∧ z.drew.cell? ⟨rv, 7, none⟩ = some (gv 7 z.drew) ∧ z.drew.cell? ⟨rv, 8, none⟩ = some (gv 8 z.drew) ∧ z.drew.cell? ⟨rv, 9, none⟩ = some (gv 9 z.drew) ∧ z.drew.frozen? ⟨rv, 0, none⟩ = false ∧ z.drew.frozen? ⟨rv, 1, none⟩ = false ∧ z.drew.frozen? ⟨rv, 2, none⟩ = false ∧ z.drew.frozen? ⟨rv, 3, none⟩ = false ∧ z.drew.frozen? ⟨rv, 4, none⟩ = false ∧ z.drew.frozen? ⟨rv, 5, none⟩ = false ∧ z.drew.frozen? ⟨rv, 6, none⟩ = false ∧ z.drew.frozen? ⟨rv, 7, none⟩ = false ∧ z.drew.frozen? ⟨rv, 8, none⟩ = false ∧ z.drew.frozen? ⟨rv, 9, none⟩ = false := by
  obtain ⟨hc, ho, c0, c1, c2, c3, c4, c5, c6, c7, c8, c9, f0, f1, f2, f3, f4, f5, f6, f7, f8, f9⟩ := h
  exact ⟨hc, ho.drew, hg.of (w := z.drew) c0, hg.of (w := z.drew) c1, hg.of (w := z.drew) c2, hg.of (w := z.drew) c3, hg.of (w := z.drew) c4, hg.of (w := z.drew) c5, hg.of (w := z.drew) c6, hg.of (w := z.drew) c7, hg.of (w := z.drew) c8, hg.of (w := z.drew) c9, f0, f1, f2, f3, f4, f5, f6, f7, f8, f9⟩

end Go.Proofs.YtildemmkhndhjaaGreatDoor
namespace Go.Proofs.YtildemmkhndhjaaGreatDoor
open Go.RowKit

theorem pList_snoc {α : Type} {p : Pr α} : ∀ (k : Nat) (u u1 u2 : Rs) (xs : List α) (y : α), pList p k u = .inr (xs, u1) → p u1 = .inr (y, u2) → pList p (k + 1) u = .inr (xs ++ [y], u2) := by
  intro k
  induction k with
  | zero =>
    intro u u1 u2 xs y h h1
    simp only [pList, pDone, Sum.inr.injEq, Prod.mk.injEq] at h
    obtain ⟨rfl, rfl⟩ := h
    simp [pList, pBind, pDone, h1]
  | succ k ih =>
    intro u u1 u2 xs y h h1
    rw [pList] at h ⊢
    unfold pBind at h ⊢
    cases hp : p u with
    | inl f => rw [hp] at h; cases h
    | inr z =>
      obtain ⟨x, v⟩ := z
      simp only [hp] at h ⊢
      cases hq : pList p k v with
      | inl f => rw [hq] at h; cases h
      | inr z2 =>
        obtain ⟨ys, v1⟩ := z2
        simp only [hq, pDone, Sum.inr.injEq, Prod.mk.injEq] at h
        obtain ⟨rfl, rfl⟩ := h
        rw [ih v v1 u2 ys y hq h1]
        rfl

theorem pList_fail {α : Type} {p : Pr α} : ∀ (k n : Nat) (u u1 : Rs) (xs : List α) (f : Int × Int), pList p k u = .inr (xs, u1) → p u1 = .inl f → k < n → pList p n u = .inl f := by
  intro k
  induction k with
  | zero =>
    intro n u u1 xs f h h1 hn
    simp only [pList, pDone, Sum.inr.injEq, Prod.mk.injEq] at h
    obtain ⟨rfl, rfl⟩ := h
    cases n with
    | zero => omega
    | succ n => simp [pList, pBind, h1]
  | succ k ih =>
    intro n u u1 xs f h h1 hn
    cases n with
    | zero => omega
    | succ n =>
      rw [pList] at h ⊢
      unfold pBind at h ⊢
      cases hp : p u with
      | inl f => rw [hp] at h; cases h
      | inr z =>
        obtain ⟨x, v⟩ := z
        simp only [hp] at h ⊢
        cases hq : pList p k v with
        | inl f => rw [hq] at h; cases h
        | inr z2 =>
          obtain ⟨ys, v1⟩ := z2
          simp only [hq, pDone, Sum.inr.injEq, Prod.mk.injEq] at h
          obtain ⟨rfl, rfl⟩ := h
          rw [ih n v v1 ys f hq h1 (by omega)]

/-- How far n elements are read: all up to here, or the first that was wrong. -/
def Far {α : Type} (p : Pr α) (n : Nat) (t0 : St) (xs : List α) (t1 : St) : Prop := match t0 with
  | .inl f => t1 = .inl f
  | .inr u => (∃ u1, t1 = .inr u1 ∧ pList p xs.length u = .inr (xs, u1)) ∨ ∃ f, t1 = .inl f ∧ pList p n u = .inl f

theorem far_start {α : Type} (p : Pr α) (n : Nat) (t0 : St) : Far p n t0 [] t0 := by
  cases t0 with
  | inl f => rfl
  | inr u => exact .inl ⟨u, rfl, rfl⟩

theorem far_step {α : Type} {p : Pr α} {n : Nat} {t0 t1 t2 : St} {xs : List α} {y : α} (h : Far p n t0 xs t1) (hf : isFine t1 = true) (hy : Out p t1 y t2) (hn : xs.length < n) : Far p n t0 (xs ++ [y]) t2 := by
  cases t1 with
  | inl f => cases hf
  | inr v =>
    cases t0 with
    | inl f => cases h
    | inr u =>
      rcases h with ⟨u1, hu, hl⟩ | ⟨f, hf, _⟩
      · have e := Sum.inr.inj hu
        subst e
        unfold Out at hy
        simp only at hy
        cases hp : p v with
        | inl f =>
          simp only [hp] at hy
          exact .inr ⟨f, hy, pList_fail _ n _ _ _ f hl hp hn⟩
        | inr z =>
          obtain ⟨y', u2⟩ := z
          simp only [hp] at hy
          obtain ⟨rfl, rfl⟩ := hy
          refine .inl ⟨u2, rfl, ?_⟩
          rw [List.length_append]
          exact pList_snoc _ _ _ _ _ _ hl hp
      · cases hf

/-- What reading so many came to, when it ended. -/
theorem out_rows {α : Type} {p : Pr α} {k most n at_ : Nat} {t t0 t1 : St} {xs : List α} (hc : Out (pU k) t n t0) (ha : ∀ u, t = .inr u → at_ = u.2)
    (h : (most < n ∧ t1 = tRefuse (at_ : Int) 4 t0) ∨ (¬ most < n ∧ Far p n t0 xs t1 ∧ (isFine t1 = true → xs.length = n))) : Out (pRows k most p) t xs t1 := by
  unfold Out at hc ⊢
  cases t with
  | inl f =>
    simp only at hc
    subst hc
    rcases h with ⟨_, rfl⟩ | ⟨_, h, _⟩
    · rfl
    · exact h
  | inr u =>
    have ha := ha u rfl
    simp only [pRows, pBind] at hc ⊢
    cases hp : pU k u with
    | inl f =>
      simp only [hp] at hc ⊢
      subst hc
      rcases h with ⟨_, rfl⟩ | ⟨_, h, _⟩
      · rfl
      · exact h
    | inr z =>
      obtain ⟨m, u'⟩ := z
      simp only [hp] at hc ⊢
      obtain ⟨rfl, rfl⟩ := hc
      rcases h with ⟨hm, rfl⟩ | ⟨hm, h, hl⟩
      · rw [if_pos hm, ha]
        rfl
      · rw [if_neg hm]
        rcases h with ⟨u1, rfl, h⟩ | ⟨f, rfl, h⟩
        · rw [hl rfl] at h
          simp [h]
        · simp only [h]

/-- A row that is grown is not what was wrong. -/
theorem Sc.row {w w' : World} {sb r d B : Nat} {t : St} (h : Sc w sb r d t) {e : TypeId} {k m n' cap cap' : Nat} {ao ao' : Option Addr} {xs ys : List Value} (hown : w.ownsRow B e k (.slice ao m cap) m xs) (hA : Appd w w' B e k ao ao' m n' cap' ys) (hB : sb < B ∧ r < B ∧ d < B) {u : Value} (hu : ∀ x, u ≠ .int .i64 x) (hc : ao ≠ none → xs[0]? = some u ∨ xs[1]? = some u ∨ xs[3]? = some u) : Sc w' sb r d t := by
  cases ao with
  | none => exact h.only0 hA.only
  | some a =>
    obtain ⟨q1, _, _, _, q5⟩ := RS.of_owns hown
    obtain ⟨b1, b2, b3⟩ := q5 a rfl
    have hcell : ∀ i v, xs[i]? = some v → w.cell? ⟨a.block, i, none⟩ = some v := by
      intro i v hv
      have := q1.cells i v hv
      rw [b3, Addr.add_lit, Nat.zero_add] at this
      exact this
    have ho : Only [a.block] w w' := hA.only
    refine h.other hu ?_ (by omega) ho
    rcases hc (by simp) with h | h | h
    · exact .inl (hcell 0 u h)
    · exact .inr (.inl (hcell 1 u h))
    · exact .inr (.inr (hcell 3 u h))

def sliceLen (v : Value) : Nat := match v with
  | .slice _ n _ => n
  | _ => 0

end Go.Proofs.YtildemmkhndhjaaGreatDoor
namespace Go.Proofs.YtildemmkhndhjaaGreatDoor
open Go.RowKit

theorem scs_length (l : List (List UInt8)) : (scs l).length = l.length := by
  induction l with
  | nil => rfl
  | cons s l ih =>
    have : scs (s :: l) = .string (str s) :: scs l := rfl
    rw [this, List.length_cons, List.length_cons, ih]

theorem scs_get (l : List (List UInt8)) (j : Nat) (h : j < l.length) : (scs l)[j]? = some (.string (str l[j])) := by
  have := (els_flat scC (fun _ => rfl) l).el j h
  have h2 := congrArg (fun c => c[0]?) this
  simpa [scC, List.getElem?_take, List.getElem?_drop, scs] using h2

theorem RS.str {w : World} {ao : Option Addr} {l : List (List UInt8)} {d : Nat} (h : RS w ao (scs l) d) {j : Nat} (hj : j < l.length) : ∃ off, ao = some ⟨d, off, none⟩ ∧ w.cell? ⟨d, off + j, none⟩ = some (.string (str l[j])) := by
  obtain ⟨off, ha, hc⟩ := h.at (j := j) (by rw [scs_length]; exact hj)
  exact ⟨off, ha, hc j _ (scs_get l j hj)⟩

set_option maxHeartbeats 1000000 in
theorem index_str {w : World} {ao : Option Addr} {l : List (List UInt8)} {d cap : Nat} (hS : RS w ao (scs l) d) (hl : l.length ≤ 9223372036854775807) (n : List UInt8) :
    Calls Tryz.prog 163 #[.slice ao l.length cap, .string (str n)] w fun e w' => ∃ k : Int, e = .returned (.int .i64 k) ∧ decide (0 ≤ k) = decide (n ∈ l) ∧ w' = w := by
  have HS := hid hS
  clear hS
  go_enter Tryz.func163, Tryz.ntmps163
  go_wp2
  go_loopw [8] (fun i wr => ∃ k : Nat, k ≤ l.length ∧ i = .int .i64 (k : Int) ∧ n ∉ l.take k ∧ w = wr) (fun i _ => l.length - (intOf i).toNat)
  case atStart => exact ⟨0, Nat.zero_le _, rfl, by simp, rfl⟩
  case round =>
    obtain ⟨k, hk, rfl, hn, rfl⟩ := hrel
    by_cases hlt : k < l.length
    · obtain ⟨off, rfl, hc⟩ := HS.out.str hlt
      have htk : l.take (k + 1) = l.take k ++ [l[k]] := List.take_succ_eq_append_getElem hlt
      have hmem : l[k] ∈ l := List.getElem_mem hlt
      generalize l[k] = x at *
      have t1 := str_toList n
      have t2 := str_toList x
      have HN := hid hn
      have HT := hid htk
      have HM := hid hmem
      clear hn htk hmem
      by_cases hq : n = x
      · subst hq
        go_wp2
        go_ret
        exact ⟨k, rfl, by rw [decide_eq_true HM.out]; simp, rfl⟩
      · have hq' : (n == x) = false := by simpa using hq
        go_wp2
        refine ⟨⟨k + 1, by omega, by go_num, ?_, trivial⟩, by simp [intOf]; omega⟩
        rw [HT.out]
        simp [HN.out, hq]
    · go_wp2
      go_ret
      rw [List.take_of_length_le (by omega)] at hn
      exact ⟨-1, rfl, by rw [decide_eq_false hn]; simp, rfl⟩

theorem contains_str {w : World} {ao : Option Addr} {l : List (List UInt8)} {d cap : Nat} (hS : RS w ao (scs l) d) (hl : l.length ≤ 9223372036854775807) (n : List UInt8) :
    Calls Tryz.prog 116 #[.slice ao l.length cap, .string (str n)] w fun e w' => e = .returned (.bool (decide (n ∈ l))) ∧ Only [] w w' := by
  have HI := hid (index_str (cap := cap) hS hl n)
  clear hS
  go_enter Tryz.func116, Tryz.ntmps116
  go_wp2_with (go_at_call 163; refine HI.out.mono ?_; rintro e w' ⟨k, rfl, hk, rfl⟩; replace hk := hid hk)
  go_ret
  exact ⟨by rw [← hk.out]; rfl, Only.refl _ _⟩

end Go.Proofs.YtildemmkhndhjaaGreatDoor
