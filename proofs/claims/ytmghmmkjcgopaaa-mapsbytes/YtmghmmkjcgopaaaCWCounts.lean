/-
  The contracts of a writer's counts, U1, U2, N8. All that is written is at most 1.5 times 2 to the power of 47 bytes.
-/
import Derived.Test.YtmghmmkjcgopaaaCWNum
namespace Go.Proofs.Ytmghmmkjcgopaaa
open Go.RowKit

/-- Where the numbers of a slice lie that is read. -/
def NX (k : IntKind) (w : World) (ao : Option Addr) (ns : List Int) (d : Nat) : Prop :=
  ns = [] ∨ ∃ off, ao = some ⟨d, off, none⟩ ∧ ∀ j (h : j < ns.length), w.cell? ⟨d, off + j, none⟩ = some (.int k ns[j])

theorem NX.only {k : IntKind} {w w' : World} {S : List Nat} {ao : Option Addr} {ns : List Int} {d : Nat} (h : NX k w ao ns d) (ho : Only S w w') (hn : ns ≠ [] → d ∉ S) : NX k w' ao ns d := by
  rcases h with h | ⟨off, ha, hc⟩
  · exact .inl h
  · by_cases hb : ns = []
    · exact .inl hb
    have hd := hn hb
    exact .inr ⟨off, ha, fun j hj => by rw [ho.cell (World.block_lt_of_cell? w _ (hc j hj)) hd]; exact hc j hj⟩

theorem NX.lt {k : IntKind} {w : World} {ao : Option Addr} {ns : List Int} {d : Nat} (h : NX k w ao ns d) (hn : ns ≠ []) : d < w.heap.size := by
  rcases h with h | ⟨off, _, hc⟩
  · exact absurd h hn
  · have h0 : 0 < ns.length := List.length_pos_iff.2 hn
    exact World.block_lt_of_cell? w _ (hc 0 h0)

/-- What U1, U2 do with one number. -/
def wOne (size : Nat) (s : List UInt8 × Int) (n : Int) : List UInt8 × Int := if s.2 = 0 then (if n < 0 ∨ (256 : Int) ^ size ≤ n then (s.1, 1) else (s.1 ++ toBE n.toNat size, 0)) else s
def wAll (size : Nat) (s : List UInt8 × Int) (l : List Int) : List UInt8 × Int := l.foldl (wOne size) s

theorem wAll_err (size : Nat) (s : List UInt8 × Int) (h : s.2 ≠ 0) (l : List Int) : wAll size s l = s := by
  induction l with
  | nil => rfl
  | cons n l ih =>
    have : wOne size s n = s := by simp [wOne, h]
    simp only [wAll, List.foldl_cons, this]
    exact ih

theorem wAll_take_succ (size : Nat) (s : List UInt8 × Int) (l : List Int) (k : Nat) (h : k < l.length) : wAll size s (l.take (k + 1)) = wOne size (wAll size s (l.take k)) l[k] := by
  rw [List.take_succ_eq_append_getElem h]
  simp only [wAll, List.foldl_append, List.foldl_cons, List.foldl_nil]

theorem wAll_split (size : Nat) (s : List UInt8 × Int) (l : List Int) (k : Nat) : wAll size s l = wAll size (wAll size s (l.take k)) (l.drop k) := by
  conv => lhs; rw [← List.take_append_drop k l]
  simp only [wAll, List.foldl_append]

theorem wOne_len (size : Nat) (s : List UInt8 × Int) (n : Int) : (wOne size s n).1.length ≤ s.1.length + size := by
  unfold wOne
  split
  · split
    · simp
    · simp [toBE_length]
  · simp

theorem wAll_len (size : Nat) (s : List UInt8 × Int) (l : List Int) : (wAll size s l).1.length ≤ s.1.length + size * l.length := by
  induction l generalizing s with
  | nil => simp [wAll]
  | cons n l ih =>
    have h1 := ih (wOne size s n)
    have h2 := wOne_len size s n
    simp only [wAll, List.foldl_cons, List.length_cons] at h1 ⊢
    rw [Nat.mul_succ]
    omega

theorem wOne_ok (size : Nat) (s : List UInt8 × Int) (n : Int) (h : ¬ (n < 0 ∨ (256 : Int) ^ size ≤ n)) : wOne size s n = wPut s (toBE n.toNat size) := by
  unfold wOne wPut
  rw [if_neg h]

/-- What a writer is when its error was set. -/
theorem WrE.failed {w : World} {B p g : Nat} {s : List UInt8 × Int} (h : WrE w B p g s) (x : Int) (w' : World) (hw : w.setCell ⟨p, 1, none⟩ (.int .i64 x) = w') : WTo w B p g w' (s.1, x) := by
  obtain ⟨ao, cap, h, rfl⟩ := h
  have ho : Only [p] w w' := by
    rw [← hw]
    exact (Only.refl [p] w).setCell (.inl (by simp)) _
  have hf : ∀ a, w'.frozen? a = w.frozen? a := fun a => by rw [← hw, frozen_setCell]
  refine ⟨dataOf ao p, ⟨ao, cap, { c0 := by rw [← hw, cell_setCell_ne _ _ (by simp)]; exact h.c0, c1 := by rw [← hw]; exact cell_setCell_same _ _ h.c1, c2 := by rw [← hw, cell_setCell_ne _ _ (by simp)]; exact h.c2, f0 := (hf _).trans h.f0, f1 := (hf _).trans h.f1, f2 := (hf _).trans h.f2, own := ownb_only h.own ho (fun k hk => ?_), ne := h.ne, ge := h.ge }, rfl⟩, .inl rfl, ho.mono (fun x hx => .inl (by simp at hx; simp [hx]))⟩
  cases ao with
  | none => simp [Value.ownBlock] at hk
  | some a => simp [Value.ownBlock] at hk; subst hk; simpa using h.ne a rfl

/-- fail, whatever the writer's error. -/
theorem wfail_any {w : World} {B p g : Nat} {s : List UInt8 × Int} (h : WrE w B p g s) (x : Int) :
    Calls Try.prog 43 #[.pointer (some ⟨p, 0, none⟩), .int .i64 x] w fun e w' => e = .returned (.tuple #[]) ∧ WTo w B p g w' (s.1, if s.2 = 0 then x else s.2) := by
  have h' := h
  obtain ⟨ao, cap, q, _⟩ := h'
  by_cases he : s.2 = 0
  · rw [if_pos he]
    refine (fail_new p x w (by rw [q.c1, he]) q.f1).mono ?_
    rintro e w' ⟨rfl, hw⟩
    exact ⟨rfl, h.failed x w' hw⟩
  · rw [if_neg he]
    refine (fail_old p x s.2 w (by simpa using he) q.c1).mono ?_
    rintro e w' ⟨rfl, rfl⟩
    exact ⟨rfl, WTo.refl h⟩

set_option maxHeartbeats 800000 in
set_option maxRecDepth 100000 in
theorem counts1 {w : World} {B p g : Nat} {s : List UInt8 × Int} (h : WrE w B p g s) {lao : Option Addr} {lcap d : Nat} {ns : List Int} (hb : NX .i64 w lao ns d) (hd : ns ≠ [] → d ∉ [p, g]) (hsz : s.1.length + 1 * ns.length ≤ 211106232532992) :
    Calls Try.prog 39 #[.pointer (some ⟨p, 0, none⟩), .int .i64 1, .slice lao ns.length lcap] w fun e w' => e = .returned (.tuple #[]) ∧ WTo w B p g w' (wAll 1 s ns) := by
  go_enter Try.func39, Try.ntmps39
  go_wp2
  go_loopw [10] (fun i wr => ∃ k : Nat, k ≤ ns.length ∧ i = .int .i64 (k : Int) ∧ WTo w B p g wr (wAll 1 s (ns.take k))) (fun i _ => ns.length - (intOf i).toNat)
  case atStart => exact ⟨0, by omega, rfl, by simpa [wAll] using WTo.refl h⟩
  case round =>
    obtain ⟨k, hk, rfl, g', hw, hg', ho⟩ := hrel
    by_cases hlt : k < ns.length
    · have hne : ns ≠ [] := by intro e; simp [e] at hlt
      have hb' := hb.only ho hd
      rcases hb' with hb' | ⟨off, rfl, hc⟩
      · exact absurd hb' hne
      have hck := hc k hlt
      have hsucc := wAll_take_succ 1 s ns k hlt
      have hll := wAll_len 1 s (ns.take k)
      have hll2 : (ns.take k).length ≤ k := List.length_take_le _ _
      have hsplit := wAll_split 1 s ns (k + 1)
      rw [hsucc] at hsplit
      generalize ns[k] = n at *
      generalize wAll 1 s (ns.take k) = t at *
      have Hsucc := hid hsucc
      have Hsplit := hid hsplit
      clear hc hsucc hsplit hb hd hne
      by_cases hbad : n < 0 ∨ (256 : Int) ^ 1 ≤ n
      · have hone : wOne 1 t n = (t.1, if t.2 = 0 then 1 else t.2) := by
          unfold wOne
          by_cases ht : t.2 = 0
          · rw [if_pos ht, if_pos hbad, if_pos ht]
          · rw [if_neg ht, if_neg ht]
        have hend : wAll 1 s ns = (t.1, if t.2 = 0 then 1 else t.2) := by
          rw [Hsplit.out, hone]
          apply wAll_err
          simp only
          split
          · decide
          · assumption
        have HE := hid hend
        have HF := hid (wfail_any hw 1)
        clear Hsucc Hsplit hone hend
        by_cases hneg : n < 0
        · clear hbad
          go_wp2_with (go_at_call 43; refine HF.out.mono ?_; rintro e w2 ⟨rfl, hto⟩)
          refine bodyPost_ret (results_none rfl _ _ _) rfl ?_
          exact ⟨rfl, by rw [HE.out]; exact wto_trans ho hg' hto⟩
        · have hbig : (256 : Int) ≤ n := hbad.resolve_left hneg
          clear hbad
          go_wp2_with (go_at_call 43; refine HF.out.mono ?_; rintro e w2 ⟨rfl, hto⟩)
          refine bodyPost_ret (results_none rfl _ _ _) rfl ?_
          exact ⟨rfl, by rw [HE.out]; exact wto_trans ho hg' hto⟩
      · have hone := wOne_ok 1 t n hbad
        rw [hone] at Hsucc
        have hneg : ¬ n < 0 := fun e => hbad (.inl e)
        have hbig : ¬ (256 : Int) ≤ n := fun e => hbad (.inr e)
        obtain ⟨m, rfl⟩ := Int.eq_ofNat_of_zero_le (by omega : 0 ≤ n)
        rw [Int.toNat_natCast] at Hsucc
        clear Hsplit hone hbad
        have hmb : m < 256 := by omega
        have HN := hid (wnumber_any hw m (by omega) 1 (by decide) 1 rfl (by omega))
        go_wp2_with (go_at_call 44; refine HN.out.mono ?_; rintro e w2 ⟨rfl, hto⟩)
        refine ⟨⟨k + 1, by omega, by go_num, ?_⟩, by simp [intOf]; omega⟩
        rw [Hsucc.out]
        exact wto_trans ho hg' hto
    · go_wp2
      go_end0
      refine ⟨rfl, g', ?_, hg', ho⟩
      rw [List.take_of_length_le (by omega)] at hw
      exact hw

set_option maxHeartbeats 800000 in
set_option maxRecDepth 100000 in
theorem counts2 {w : World} {B p g : Nat} {s : List UInt8 × Int} (h : WrE w B p g s) {lao : Option Addr} {lcap d : Nat} {ns : List Int} (hb : NX .i64 w lao ns d) (hd : ns ≠ [] → d ∉ [p, g]) (hsz : s.1.length + 2 * ns.length ≤ 211106232532992) :
    Calls Try.prog 39 #[.pointer (some ⟨p, 0, none⟩), .int .i64 2, .slice lao ns.length lcap] w fun e w' => e = .returned (.tuple #[]) ∧ WTo w B p g w' (wAll 2 s ns) := by
  go_enter Try.func39, Try.ntmps39
  go_wp2
  go_loopw [10] (fun i wr => ∃ k : Nat, k ≤ ns.length ∧ i = .int .i64 (k : Int) ∧ WTo w B p g wr (wAll 2 s (ns.take k))) (fun i _ => ns.length - (intOf i).toNat)
  case atStart => exact ⟨0, by omega, rfl, by simpa [wAll] using WTo.refl h⟩
  case round =>
    obtain ⟨k, hk, rfl, g', hw, hg', ho⟩ := hrel
    by_cases hlt : k < ns.length
    · have hne : ns ≠ [] := by intro e; simp [e] at hlt
      have hb' := hb.only ho hd
      rcases hb' with hb' | ⟨off, rfl, hc⟩
      · exact absurd hb' hne
      have hck := hc k hlt
      have hsucc := wAll_take_succ 2 s ns k hlt
      have hll := wAll_len 2 s (ns.take k)
      have hll2 : (ns.take k).length ≤ k := List.length_take_le _ _
      have hsplit := wAll_split 2 s ns (k + 1)
      rw [hsucc] at hsplit
      generalize ns[k] = n at *
      generalize wAll 2 s (ns.take k) = t at *
      have Hsucc := hid hsucc
      have Hsplit := hid hsplit
      clear hc hsucc hsplit hb hd hne
      by_cases hbad : n < 0 ∨ (256 : Int) ^ 2 ≤ n
      · have hone : wOne 2 t n = (t.1, if t.2 = 0 then 1 else t.2) := by
          unfold wOne
          by_cases ht : t.2 = 0
          · rw [if_pos ht, if_pos hbad, if_pos ht]
          · rw [if_neg ht, if_neg ht]
        have hend : wAll 2 s ns = (t.1, if t.2 = 0 then 1 else t.2) := by
          rw [Hsplit.out, hone]
          apply wAll_err
          simp only
          split
          · decide
          · assumption
        have HE := hid hend
        have HF := hid (wfail_any hw 1)
        clear Hsucc Hsplit hone hend
        by_cases hneg : n < 0
        · clear hbad
          go_wp2_with (go_at_call 43; refine HF.out.mono ?_; rintro e w2 ⟨rfl, hto⟩)
          refine bodyPost_ret (results_none rfl _ _ _) rfl ?_
          exact ⟨rfl, by rw [HE.out]; exact wto_trans ho hg' hto⟩
        · have hbig : (65536 : Int) ≤ n := hbad.resolve_left hneg
          clear hbad
          go_wp2_with (go_at_call 43; refine HF.out.mono ?_; rintro e w2 ⟨rfl, hto⟩)
          refine bodyPost_ret (results_none rfl _ _ _) rfl ?_
          exact ⟨rfl, by rw [HE.out]; exact wto_trans ho hg' hto⟩
      · have hone := wOne_ok 2 t n hbad
        rw [hone] at Hsucc
        have hneg : ¬ n < 0 := fun e => hbad (.inl e)
        have hbig : ¬ (65536 : Int) ≤ n := fun e => hbad (.inr e)
        obtain ⟨m, rfl⟩ := Int.eq_ofNat_of_zero_le (by omega : 0 ≤ n)
        rw [Int.toNat_natCast] at Hsucc
        clear Hsplit hone hbad
        have hmb : m < 65536 := by omega
        have HN := hid (wnumber_any hw m (by omega) 2 (by decide) 2 rfl (by omega))
        go_wp2_with (go_at_call 44; refine HN.out.mono ?_; rintro e w2 ⟨rfl, hto⟩)
        refine ⟨⟨k + 1, by omega, by go_num, ?_⟩, by simp [intOf]; omega⟩
        rw [Hsucc.out]
        exact wto_trans ho hg' hto
    · go_wp2
      go_end0
      refine ⟨rfl, g', ?_, hg', ho⟩
      rw [List.take_of_length_le (by omega)] at hw
      exact hw

end Go.Proofs.Ytmghmmkjcgopaaa
