/-
  What the proof leans on, part 3 of 28. The conditions stand in each theorem.
-/
import Derived.Test.YtildemmkhndhjaaGreatDoorB02
import Derived.BigQuiet
import Derived.Lib.ConvBytes
import Derived.Deep.RegionLaw
import Derived.Test.YtildemmkhndhjaaGreatDoorB01
namespace Go.Proofs.YtildemmkhndhjaaGreatDoor
open Go.RowKit

/-- Where the numbers of a slice lie that is read. -/
def NX (k : IntKind) (w : World) (ao : Option Addr) (ns : List Int) (d : Nat) : Prop :=
 ns = [] ∨ ∃ off, ao = some ⟨d, off, none⟩ ∧ ∀ j (h : j < ns.length), w.cell? ⟨d, off + j, none⟩ = some (.int k ns[j])

theorem NX.only {k : IntKind} {w w' : World} {S : List Nat} {ao : Option Addr} {ns : List Int} {d : Nat} (h : NX k w ao ns d) (ho : Only S w w') (hn : ns ≠ [] → d ∉ S) : NX k w' ao ns d := by
 rcases h with h | ⟨off, ha, hc⟩
 ·exact .inl h
 ·by_cases hb : ns = []
  ·exact .inl hb
  have hd := hn hb
  exact .inr ⟨off, ha, fun j hj => by rw [ho.cell (World.block_lt_of_cell? w _ (hc j hj)) hd]; exact hc j hj⟩

/-- What U1, U2 do with one number. -/
def wOne (size : Nat) (s : List UInt8 × Int) (n : Int) : List UInt8 × Int := if s.2 = 0 then (if n < 0 ∨ (256 : Int) ^ size ≤ n then (s.1, 1) else (s.1 ++ toBE n.toNat size, 0)) else s
def wAll (size : Nat) (s : List UInt8 × Int) (l : List Int) : List UInt8 × Int := l.foldl (wOne size) s

theorem wAll_err (size : Nat) (s : List UInt8 × Int) (h : s.2 ≠ 0) (l : List Int) : wAll size s l = s := by
 induction l with
 | nil => rfl
 | cons n l ih =>
  have : wOne size s n = s := by simp [wOne, h]
  simp only [wAll, List.foldl_cons, this]
  exact ih

theorem wAll_take_succ (size : Nat) (s : List UInt8 × Int) (l : List Int) (k : Nat) (h : k < l.length) : wAll size s (l.take (k + 1)) = wOne size (wAll size s (l.take k)) l[k] := by
 rw [List.take_succ_eq_append_getElem h]
 simp only [wAll, List.foldl_append, List.foldl_cons, List.foldl_nil]

theorem wAll_split (size : Nat) (s : List UInt8 × Int) (l : List Int) (k : Nat) : wAll size s l = wAll size (wAll size s (l.take k)) (l.drop k) := by
 conv => lhs; rw [← List.take_append_drop k l]
 simp only [wAll, List.foldl_append]

theorem wOne_len (size : Nat) (s : List UInt8 × Int) (n : Int) : (wOne size s n).1.length ≤ s.1.length + size := by
 unfold wOne
 split
 ·split
  ·simp
  ·simp [toBE_length]
 ·simp

theorem wAll_len (size : Nat) (s : List UInt8 × Int) (l : List Int) : (wAll size s l).1.length ≤ s.1.length + size * l.length := by
 induction l generalizing s with
 | nil => simp [wAll]
 | cons n l ih =>
  have h1 := ih (wOne size s n)
  have h2 := wOne_len size s n
  simp only [wAll, List.foldl_cons, List.length_cons] at h1 ⊢
  rw [Nat.mul_succ]
  omega

theorem wOne_ok (size : Nat) (s : List UInt8 × Int) (n : Int) (h : ¬ (n < 0 ∨ (256 : Int) ^ size ≤ n)) : wOne size s n = wPut s (toBE n.toNat size) := by
 unfold wOne wPut
 rw [if_neg h]

/-- What a writer is when its error was set. -/
theorem WrE.failed {w : World} {B p g : Nat} {s : List UInt8 × Int} (h : WrE w B p g s) (x : Int) (w' : World) (hw : w.setCell ⟨p, 1, none⟩ (.int .i64 x) = w') : WTo w B p g w' (s.1, x) := by
 obtain ⟨ao, cap, h, rfl⟩ := h
 have ho : Only [p] w w' := by
  rw [← hw]
  exact (Only.refl [p] w).setCell (.inl (by simp)) _
 have hf : ∀ a, w'.frozen? a = w.frozen? a := fun a => by rw [← hw, frozen_setCell]
 refine ⟨dataOf ao p, ⟨ao, cap, { c0 := by rw [← hw, cell_setCell_ne _ _ (by simp)]; exact h.c0, c1 := by rw [← hw]; exact cell_setCell_same _ _ h.c1, c2 := by rw [← hw, cell_setCell_ne _ _ (by simp)]; exact h.c2, f0 := (hf _).trans h.f0, f1 := (hf _).trans h.f1, f2 := (hf _).trans h.f2, own := ownb_only h.own ho (fun k hk => ?_), ne := h.ne, ge := h.ge }, rfl⟩, .inl rfl, ho.mono (fun x hx => .inl (by simp at hx; simp [hx]))⟩
 cases ao with
 | none => simp [Value.ownBlock] at hk
 | some a => simp [Value.ownBlock] at hk; subst hk; simpa using h.ne a rfl

/-- fail, whatever the writer's error. -/
theorem wfail_any {w : World} {B p g : Nat} {s : List UInt8 × Int} (h : WrE w B p g s) (x : Int) :
  Calls Tryz.prog 135 #[.pointer (some ⟨p, 0, none⟩), .int .i64 x] w fun e w' => e = .returned (.tuple #[]) ∧ WTo w B p g w' (s.1, if s.2 = 0 then x else s.2) := by
 have h' := h
 obtain ⟨ao, cap, q, _⟩ := h'
 by_cases he : s.2 = 0
 ·rw [if_pos he]
  refine (fail_new p x w (by rw [q.c1, he]) q.f1).mono ?_
  rintro e w' ⟨rfl, hw⟩
  exact ⟨rfl, h.failed x w' hw⟩
 ·rw [if_neg he]
  refine (fail_old p x s.2 w (by simpa using he) q.c1).mono ?_
  rintro e w' ⟨rfl, rfl⟩
  exact ⟨rfl, WTo.refl h⟩

set_option maxHeartbeats 800000 in
set_option maxRecDepth 100000 in
theorem counts1 {w : World} {B p g : Nat} {s : List UInt8 × Int} (h : WrE w B p g s) {lao : Option Addr} {lcap d : Nat} {ns : List Int} (hb : NX .i64 w lao ns d) (hd : ns ≠ [] → d ∉ [p, g]) (hsz : s.1.length + 1 * ns.length ≤ 211106232532992) :
  Calls Tryz.prog 128 #[.pointer (some ⟨p, 0, none⟩), .int .i64 1, .slice lao ns.length lcap] w fun e w' => e = .returned (.tuple #[]) ∧ WTo w B p g w' (wAll 1 s ns) := by
 go_enter Tryz.func128, Tryz.ntmps128
 go_wp2
 go_loopw [10] (fun i wr => ∃ k : Nat, k ≤ ns.length ∧ i = .int .i64 (k : Int) ∧ WTo w B p g wr (wAll 1 s (ns.take k))) (fun i _ => ns.length - (intOf i).toNat)
 case atStart => exact ⟨0, by omega, rfl, by simpa [wAll] using WTo.refl h⟩
 case round =>
  obtain ⟨k, hk, rfl, g', hw, hg', ho⟩ := hrel
  by_cases hlt : k < ns.length
  ·have hne : ns ≠ [] := by intro e; simp [e] at hlt
   have hb' := hb.only ho hd
   rcases hb' with hb' | ⟨off, rfl, hc⟩
   ·exact absurd hb' hne
   have hck := hc k hlt
   have hsucc := wAll_take_succ 1 s ns k hlt
   have hll := wAll_len 1 s (ns.take k)
   have hll2 : (ns.take k).length ≤ k := List.length_take_le _ _
   have hsplit := wAll_split 1 s ns (k + 1)
   rw [hsucc] at hsplit
   generalize ns[k] = n at *
   generalize wAll 1 s (ns.take k) = t at *
   have Hsucc := hid hsucc
   have Hsplit := hid hsplit
   clear hc hsucc hsplit hb hd hne
   by_cases hbad : n < 0 ∨ (256 : Int) ^ 1 ≤ n
   ·have hone : wOne 1 t n = (t.1, if t.2 = 0 then 1 else t.2) := by
     unfold wOne
     by_cases ht : t.2 = 0
     ·rw [if_pos ht, if_pos hbad, if_pos ht]
     ·rw [if_neg ht, if_neg ht]
    have hend : wAll 1 s ns = (t.1, if t.2 = 0 then 1 else t.2) := by
     rw [Hsplit.out, hone]
     apply wAll_err
     simp only
     split
     ·decide
     ·assumption
    have HE := hid hend
    have HF := hid (wfail_any hw 1)
    clear Hsucc Hsplit hone hend
    by_cases hneg : n < 0
    ·clear hbad
     go_wp2_with (go_at_call 135; refine HF.out.mono ?_; rintro e w2 ⟨rfl, hto⟩)
     refine bodyPost_ret (results_none rfl _ _ _) rfl ?_
     exact ⟨rfl, by rw [HE.out]; exact wto_trans ho hg' hto⟩
    ·have hbig : (256 : Int) ≤ n := hbad.resolve_left hneg
     clear hbad
     go_wp2_with (go_at_call 135; refine HF.out.mono ?_; rintro e w2 ⟨rfl, hto⟩)
     refine bodyPost_ret (results_none rfl _ _ _) rfl ?_
     exact ⟨rfl, by rw [HE.out]; exact wto_trans ho hg' hto⟩
   ·have hone := wOne_ok 1 t n hbad
    rw [hone] at Hsucc
    have hneg : ¬ n < 0 := fun e => hbad (.inl e)
    have hbig : ¬ (256 : Int) ≤ n := fun e => hbad (.inr e)
    obtain ⟨m, rfl⟩ := Int.eq_ofNat_of_zero_le (by omega : 0 ≤ n)
    rw [Int.toNat_natCast] at Hsucc
    clear Hsplit hone hbad
    have hmb : m < 256 := by omega
    have HN := hid (wnumber_any hw m (by omega) 1 (by decide) 1 rfl (by omega))
    go_wp2_with (go_at_call 173; refine HN.out.mono ?_; rintro e w2 ⟨rfl, hto⟩)
    refine ⟨⟨k + 1, by omega, by go_num, ?_⟩, by simp [intOf]; omega⟩
    rw [Hsucc.out]
    exact wto_trans ho hg' hto
  ·go_wp2
   go_end0
   refine ⟨rfl, g', ?_, hg', ho⟩
   rw [List.take_of_length_le (by omega)] at hw
   exact hw

set_option maxHeartbeats 800000 in
set_option maxRecDepth 100000 in
theorem counts2 {w : World} {B p g : Nat} {s : List UInt8 × Int} (h : WrE w B p g s) {lao : Option Addr} {lcap d : Nat} {ns : List Int} (hb : NX .i64 w lao ns d) (hd : ns ≠ [] → d ∉ [p, g]) (hsz : s.1.length + 2 * ns.length ≤ 211106232532992) :
  Calls Tryz.prog 128 #[.pointer (some ⟨p, 0, none⟩), .int .i64 2, .slice lao ns.length lcap] w fun e w' => e = .returned (.tuple #[]) ∧ WTo w B p g w' (wAll 2 s ns) := by
 go_enter Tryz.func128, Tryz.ntmps128
 go_wp2
 go_loopw [10] (fun i wr => ∃ k : Nat, k ≤ ns.length ∧ i = .int .i64 (k : Int) ∧ WTo w B p g wr (wAll 2 s (ns.take k))) (fun i _ => ns.length - (intOf i).toNat)
 case atStart => exact ⟨0, by omega, rfl, by simpa [wAll] using WTo.refl h⟩
 case round =>
  obtain ⟨k, hk, rfl, g', hw, hg', ho⟩ := hrel
  by_cases hlt : k < ns.length
  ·have hne : ns ≠ [] := by intro e; simp [e] at hlt
   have hb' := hb.only ho hd
   rcases hb' with hb' | ⟨off, rfl, hc⟩
   ·exact absurd hb' hne
   have hck := hc k hlt
   have hsucc := wAll_take_succ 2 s ns k hlt
   have hll := wAll_len 2 s (ns.take k)
   have hll2 : (ns.take k).length ≤ k := List.length_take_le _ _
   have hsplit := wAll_split 2 s ns (k + 1)
   rw [hsucc] at hsplit
   generalize ns[k] = n at *
   generalize wAll 2 s (ns.take k) = t at *
   have Hsucc := hid hsucc
   have Hsplit := hid hsplit
   clear hc hsucc hsplit hb hd hne
   by_cases hbad : n < 0 ∨ (256 : Int) ^ 2 ≤ n
   ·have hone : wOne 2 t n = (t.1, if t.2 = 0 then 1 else t.2) := by
     unfold wOne
     by_cases ht : t.2 = 0
     ·rw [if_pos ht, if_pos hbad, if_pos ht]
     ·rw [if_neg ht, if_neg ht]
    have hend : wAll 2 s ns = (t.1, if t.2 = 0 then 1 else t.2) := by
     rw [Hsplit.out, hone]
     apply wAll_err
     simp only
     split
     ·decide
     ·assumption
    have HE := hid hend
    have HF := hid (wfail_any hw 1)
    clear Hsucc Hsplit hone hend
    by_cases hneg : n < 0
    ·clear hbad
     go_wp2_with (go_at_call 135; refine HF.out.mono ?_; rintro e w2 ⟨rfl, hto⟩)
     refine bodyPost_ret (results_none rfl _ _ _) rfl ?_
     exact ⟨rfl, by rw [HE.out]; exact wto_trans ho hg' hto⟩
    ·have hbig : (65536 : Int) ≤ n := hbad.resolve_left hneg
     clear hbad
     go_wp2_with (go_at_call 135; refine HF.out.mono ?_; rintro e w2 ⟨rfl, hto⟩)
     refine bodyPost_ret (results_none rfl _ _ _) rfl ?_
     exact ⟨rfl, by rw [HE.out]; exact wto_trans ho hg' hto⟩
   ·have hone := wOne_ok 2 t n hbad
    rw [hone] at Hsucc
    have hneg : ¬ n < 0 := fun e => hbad (.inl e)
    have hbig : ¬ (65536 : Int) ≤ n := fun e => hbad (.inr e)
    obtain ⟨m, rfl⟩ := Int.eq_ofNat_of_zero_le (by omega : 0 ≤ n)
    rw [Int.toNat_natCast] at Hsucc
    clear Hsplit hone hbad
    have hmb : m < 65536 := by omega
    have HN := hid (wnumber_any hw m (by omega) 2 (by decide) 2 rfl (by omega))
    go_wp2_with (go_at_call 173; refine HN.out.mono ?_; rintro e w2 ⟨rfl, hto⟩)
    refine ⟨⟨k + 1, by omega, by go_num, ?_⟩, by simp [intOf]; omega⟩
    rw [Hsucc.out]
    exact wto_trans ho hg' hto
  ·go_wp2
   go_end0
   refine ⟨rfl, g', ?_, hg', ho⟩
   rw [List.take_of_length_le (by omega)] at hw
   exact hw

theorem wu1_any {w : World} {B p g : Nat} {s : List UInt8 × Int} (h : WrE w B p g s) {lao : Option Addr} {lcap d : Nat} {ns : List Int} (hb : NX .i64 w lao ns d) (hd : ns ≠ [] → d ∉ [p, g]) (hsz : s.1.length + 1 * ns.length ≤ 211106232532992) :
  Calls Tryz.prog 61 #[.pointer (some ⟨p, 0, none⟩), .slice lao ns.length lcap] w fun e w' => e = .returned (.tuple #[]) ∧ WTo w B p g w' (wAll 1 s ns) := by
 have HC := hid (counts1 h hb hd hsz (lcap := lcap))
 go_enter Tryz.func61, Tryz.ntmps61
 go_wp2_with (go_at_call 128; refine HC.out.mono ?_; rintro e w2 ⟨rfl, hto⟩)
 go_end0
 exact ⟨rfl, hto⟩

theorem wu2_any {w : World} {B p g : Nat} {s : List UInt8 × Int} (h : WrE w B p g s) {lao : Option Addr} {lcap d : Nat} {ns : List Int} (hb : NX .i64 w lao ns d) (hd : ns ≠ [] → d ∉ [p, g]) (hsz : s.1.length + 2 * ns.length ≤ 211106232532992) :
  Calls Tryz.prog 59 #[.pointer (some ⟨p, 0, none⟩), .slice lao ns.length lcap] w fun e w' => e = .returned (.tuple #[]) ∧ WTo w B p g w' (wAll 2 s ns) := by
 have HC := hid (counts2 h hb hd hsz (lcap := lcap))
 go_enter Tryz.func59, Tryz.ntmps59
 go_wp2_with (go_at_call 128; refine HC.out.mono ?_; rintro e w2 ⟨rfl, hto⟩)
 go_end0
 exact ⟨rfl, hto⟩

theorem wbytes_any {w : World} {B p g : Nat} {s : List UInt8 × Int} (h : WrE w B p g s) {lao : Option Addr} {lcap d : Nat} {ls : List UInt8} (hb : BS w lao ls d) (hl : lao = none → lcap = 0) (hsz : s.1.length + ls.length ≤ 211106232532992) :
  Calls Tryz.prog 58 #[.pointer (some ⟨p, 0, none⟩), .slice lao ls.length lcap] w fun e w' => e = .returned (.tuple #[]) ∧ WTo w B p g w' (wPut s ls) := by
 have HC := hid (put_any h hb hl hsz)
 go_enter Tryz.func58, Tryz.ntmps58
 go_wp2_with (go_at_call 127; refine HC.out.mono ?_; rintro e w2 ⟨rfl, hto⟩)
 go_end0
 exact ⟨rfl, hto⟩

theorem wlen_any {w : World} {B p g : Nat} {s : List UInt8 × Int} (h : WrE w B p g s) :
  Calls Tryz.prog 26 #[.pointer (some ⟨p, 0, none⟩)] w fun e w' => e = .returned (.int .i64 (s.1.length : Int)) ∧ w = w' := by
 obtain ⟨ao, cap, ⟨c0, c1, c2, f0, f1, f2, own, ne, ge⟩, _⟩ := h
 go_enter Tryz.func26, Tryz.ntmps26
 go_wp2
 go_ret
 exact ⟨rfl, rfl⟩

/-- What Done answers. -/
def wDone (s : List UInt8 × Int) : List UInt8 := if s.2 = 0 then s.1 else []

set_option maxHeartbeats 400000 in
theorem wdone_any {w : World} {B p g : Nat} {s : List UInt8 × Int} (h : WrE w B p g s) (hsz : s.1.length ≤ 211106232532992) :
  Calls Tryz.prog 27 #[.pointer (some ⟨p, 0, none⟩)] w fun e w' => ∃ ao cap, e = .returned (.tuple #[.slice ao (wDone s).length cap, .int .i64 s.2]) ∧ w'.ownsRow w.heap.size 5 1 (.slice ao (wDone s).length cap) (wDone s).length (bcs (wDone s)) ∧ Only [] w w' := by
 obtain ⟨ao, cap, ⟨c0, c1, c2, f0, f1, f2, own, ne, ge⟩, _⟩ := h
 obtain ⟨hbs, hc, hm, hn, _⟩ := BS.of_owns own
 by_cases he : s.2 = 0
 ·have e : wDone s = s.1 := by simp [wDone, he]
  rw [e, he]
  rw [he] at c1
  clear he e
  have HC := hid (clone_any hbs hn hsz)
  go_enter Tryz.func27, Tryz.ntmps27
  go_wp2_with (first | (go_at_call 63; refine (fine_any p 0 _ (by assumption)).mono ?_; rintro e w' ⟨rfl, rfl⟩) | (go_at_call 64; refine HC.out.mono ?_; rintro e w' ⟨ao', cap', rfl, hown, ho⟩))
  go_ret2
  exact ⟨ao', cap', rfl, hown, ho⟩
 ·have e : wDone s = [] := by simp [wDone, he]
  rw [e]
  have he' : (s.2 == 0) = false := by simpa using he
  clear he e
  go_enter Tryz.func27, Tryz.ntmps27
  go_wp2_with (go_at_call 63; refine (fine_any p s.2 _ (by assumption)).mono ?_; rintro e w' ⟨rfl, rfl⟩)
  go_quiet (fail)
  go_wp2
  go_ret2
  exact ⟨none, 0, rfl, World.ownsRow_nil _ _ _ _, ⟨rfl, rfl, rfl, Nat.le_refl _, fun _ _ _ => rfl⟩⟩

theorem newWriter_any (w : World) (B : Nat) (hB : B ≤ w.heap.size) :
  Calls Tryz.prog 24 #[] w fun e w' => e = .returned (.pointer (some ⟨w.heap.size, 0, none⟩)) ∧ WrE w' B w.heap.size w.heap.size ([], 0) ∧ Only [] w w' := by
 go_enter Tryz.func24, Tryz.ntmps24
 go_wp2
 go_ret
 refine ⟨rfl, ⟨none, 0, { c0 := ?_, c1 := ?_, c2 := ?_, f0 := frozen_new _ _ _ _, f1 := frozen_new _ _ _ _, f2 := frozen_new _ _ _ _, own := World.ownsRow_nil _ _ _ _, ne := (fun a ha => by cases ha), ge := hB }, rfl⟩, (Only.refl [] w).alloc _⟩
 ·rw [cell_new]; rfl
 ·rw [cell_new]; rfl
 ·rw [cell_new]; rfl

/-- A number with a sign as one without. -/
def toU64 (n : Int) : Nat := (n % 18446744073709551616).toNat
def wN8 (s : List UInt8 × Int) (l : List Int) : List UInt8 × Int := wPut s (l.flatMap fun n => toBE (toU64 n) 8)

theorem wN8_take_succ (s : List UInt8 × Int) (l : List Int) (k : Nat) (h : k < l.length) : wN8 s (l.take (k + 1)) = wPut (wN8 s (l.take k)) (toBE (toU64 l[k]) 8) := by
 unfold wN8
 rw [List.take_succ_eq_append_getElem h, wPut_wPut]
 simp only [List.flatMap_append, List.flatMap_cons, List.flatMap_nil, List.append_nil]

theorem wN8_len (s : List UInt8 × Int) (l : List Int) : (wN8 s l).1.length ≤ s.1.length + 8 * l.length := by
 have h1 := wPut_len s (l.flatMap fun n => toBE (toU64 n) 8)
 have h2 : (l.flatMap fun n => toBE (toU64 n) 8).length = 8 * l.length := by
  induction l with
  | nil => rfl
  | cons n l ih =>
   rw [List.flatMap_cons, List.length_append, toBE_length, List.length_cons]
   have := ih (wPut_len s _)
   omega
 unfold wN8
 omega

set_option maxHeartbeats 400000 in
theorem wn8_any {w : World} {B p g : Nat} {s : List UInt8 × Int} (h : WrE w B p g s) {lao : Option Addr} {lcap d : Nat} {ns : List Int} (hb : NX .i64 w lao ns d) (hd : ns ≠ [] → d ∉ [p, g]) (hsz : s.1.length + 8 * ns.length ≤ 211106232532992) :
  Calls Tryz.prog 130 #[.pointer (some ⟨p, 0, none⟩), .slice lao ns.length lcap] w fun e w' => e = .returned (.tuple #[]) ∧ WTo w B p g w' (wN8 s ns) := by
 go_enter Tryz.func130, Tryz.ntmps130
 go_wp2
 go_loopw [8] (fun i wr => ∃ k : Nat, k ≤ ns.length ∧ i = .int .i64 (k : Int) ∧ WTo w B p g wr (wN8 s (ns.take k))) (fun i _ => ns.length - (intOf i).toNat)
 case atStart => exact ⟨0, by omega, rfl, by simpa [wN8, wPut_nil] using WTo.refl h⟩
 case round =>
  obtain ⟨k, hk, rfl, g', hw, hg', ho⟩ := hrel
  by_cases hlt : k < ns.length
  ·have hne : ns ≠ [] := by intro e; simp [e] at hlt
   have hb' := hb.only ho hd
   rcases hb' with hb' | ⟨off, rfl, hc⟩
   ·exact absurd hb' hne
   have hck := hc k hlt
   have Hsucc := hid (wN8_take_succ s ns k hlt)
   have hll := wN8_len s (ns.take k)
   have hll2 : (ns.take k).length ≤ k := List.length_take_le _ _
   generalize ns[k] = n at *
   generalize wN8 s (ns.take k) = t at *
   clear hc hb hd hne
   have HN := hid (wnumber_any hw (toU64 n) (by unfold toU64; omega) 8 (by decide) 8 rfl (by omega))
   have hu : IntKind.u64.wrap n = (toU64 n : Int) := by rw [IntKind.wrap_u64]; unfold toU64; omega
   go_wp2_with (go_at_call 173; refine HN.out.mono ?_; rintro e w2 ⟨rfl, hto⟩)
   refine ⟨⟨k + 1, by omega, by go_num, ?_⟩, by simp [intOf]; omega⟩
   rw [Hsucc.out]
   exact wto_trans ho hg' hto
  ·go_wp2
   go_end0
   refine ⟨rfl, g', ?_, hg', ho⟩
   rw [List.take_of_length_le (by omega)] at hw
   exact hw

/-- Where the texts of a slice lie that is read. -/
def SX (w : World) (ao : Option Addr) (ss : List ByteArray) (d : Nat) : Prop :=
 ss = [] ∨ ∃ off, ao = some ⟨d, off, none⟩ ∧ ∀ j (h : j < ss.length), w.cell? ⟨d, off + j, none⟩ = some (.string ss[j])

theorem SX.only {w w' : World} {S : List Nat} {ao : Option Addr} {ns : List ByteArray} {d : Nat} (h : SX w ao ns d) (ho : Only S w w') (hn : ns ≠ [] → d ∉ S) : SX w' ao ns d := by
 rcases h with h | ⟨off, ha, hc⟩
 ·exact .inl h
 ·by_cases hb : ns = []
  ·exact .inl hb
  have hd := hn hb
  exact .inr ⟨off, ha, fun j hj => by rw [ho.cell (World.block_lt_of_cell? w _ (hc j hj)) hd]; exact hc j hj⟩

/-- What Text does with one text. -/
def wTx1 (s : List UInt8 × Int) (b : ByteArray) : List UInt8 × Int := if s.2 = 0 then (if 255 < b.size then (s.1, 5) else (s.1 ++ (UInt8.ofNat b.size :: b.data.toList), 0)) else s
def wTx (s : List UInt8 × Int) (l : List ByteArray) : List UInt8 × Int := l.foldl wTx1 s

theorem wTx_err (s : List UInt8 × Int) (h : s.2 ≠ 0) (l : List ByteArray) : wTx s l = s := by
 induction l with
 | nil => rfl
 | cons n l ih =>
  have : wTx1 s n = s := by simp [wTx1, h]
  simp only [wTx, List.foldl_cons, this]
  exact ih

theorem wTx_take_succ (s : List UInt8 × Int) (l : List ByteArray) (k : Nat) (h : k < l.length) : wTx s (l.take (k + 1)) = wTx1 (wTx s (l.take k)) l[k] := by
 rw [List.take_succ_eq_append_getElem h]
 simp only [wTx, List.foldl_append, List.foldl_cons, List.foldl_nil]

theorem wTx_split (s : List UInt8 × Int) (l : List ByteArray) (k : Nat) : wTx s l = wTx (wTx s (l.take k)) (l.drop k) := by
 conv => lhs; rw [← List.take_append_drop k l]
 simp only [wTx, List.foldl_append]

theorem wTx1_len (s : List UInt8 × Int) (b : ByteArray) : (wTx1 s b).1.length ≤ s.1.length + 256 := by
 unfold wTx1
 split
 ·split
  ·simp
  ·have : b.data.toList.length = b.size := rfl
   rw [List.length_append, List.length_cons, this]
   omega
 ·simp

theorem wTx_len (s : List UInt8 × Int) (l : List ByteArray) : (wTx s l).1.length ≤ s.1.length + 256 * l.length := by
 induction l generalizing s with
 | nil => simp [wTx]
 | cons n l ih =>
  have h1 := ih (wTx1 s n)
  have h2 := wTx1_len s n
  simp only [wTx, List.foldl_cons, List.length_cons] at h1 ⊢
  omega

theorem wTx1_ok (s : List UInt8 × Int) (b : ByteArray) (h : ¬ 255 < b.size) : wTx1 s b = wPut (wPut s [UInt8.ofNat b.size]) b.data.toList := by
 rw [wPut_wPut]
 unfold wTx1 wPut
 rw [if_neg h]
 rfl

/-- A text turned into bytes. -/
theorem bytes_world (w : World) (b : ByteArray) : Only [] w (Lib.bytesWorld w 5 b) ∧ BS (Lib.bytesWorld w 5 b) (some ⟨w.heap.size, 0, none⟩) b.data.toList w.heap.size := by
 refine ⟨⟨rfl, rfl, rfl, by rw [Lib.bytesWorld_size]; omega, fun k hk _ => Lib.bytesWorld_at_old w _ b k hk⟩, .inr ⟨0, rfl, fun j hj => ?_⟩⟩
 have e : b.data.toList.getD j 0 = b.data.toList[j] := by rw [List.getD, List.getElem?_eq_getElem hj]; rfl
 rw [Nat.zero_add, Lib.bytesWorld_cell w _ b j hj, e]

set_option maxHeartbeats 800000 in
set_option maxRecDepth 100000 in
theorem wtext_any {w : World} {B p g : Nat} {s : List UInt8 × Int} (h : WrE w B p g s) {lao : Option Addr} {lcap d : Nat} {ns : List ByteArray} (hb : SX w lao ns d) (hd : ns ≠ [] → d ∉ [p, g]) (hsz : s.1.length + 256 * ns.length ≤ 211106232532992) (hlen : ∀ b ∈ ns, b.size ≤ 9223372036854775807) :
  Calls Tryz.prog 129 #[.pointer (some ⟨p, 0, none⟩), .slice lao ns.length lcap] w fun e w' => e = .returned (.tuple #[]) ∧ WTo w B p g w' (wTx s ns) := by
 go_enter Tryz.func129, Tryz.ntmps129
 go_wp2
 go_loopw [8] (fun i wr => ∃ k : Nat, k ≤ ns.length ∧ i = .int .i64 (k : Int) ∧ WTo w B p g wr (wTx s (ns.take k))) (fun i _ => ns.length - (intOf i).toNat)
 case atStart => exact ⟨0, by omega, rfl, by simpa [wTx] using WTo.refl h⟩
 case round =>
  obtain ⟨k, hk, rfl, g', hw, hg', ho⟩ := hrel
  by_cases hlt : k < ns.length
  ·have hne : ns ≠ [] := by intro e; simp [e] at hlt
   have hb' := hb.only ho hd
   rcases hb' with hb' | ⟨off, rfl, hc⟩
   ·exact absurd hb' hne
   have hck := hc k hlt
   have hsucc := wTx_take_succ s ns k hlt
   have hll := wTx_len s (ns.take k)
   have hll2 : (ns.take k).length ≤ k := List.length_take_le _ _
   have hsplit := wTx_split s ns (k + 1)
   have hbl := hlen ns[k] (List.getElem_mem hlt)
   rw [hsucc] at hsplit
   generalize ns[k] = n at *
   generalize wTx s (ns.take k) = t at *
   have Hsucc := hid hsucc
   have Hsplit := hid hsplit
   clear hc hsucc hsplit hb hd hne hlen
   by_cases hbad : 255 < n.size
   ·have hone : wTx1 t n = (t.1, if t.2 = 0 then 5 else t.2) := by
     unfold wTx1
     by_cases ht : t.2 = 0
     ·rw [if_pos ht, if_pos hbad, if_pos ht]
     ·rw [if_neg ht, if_neg ht]
    have hend : wTx s ns = (t.1, if t.2 = 0 then 5 else t.2) := by
     rw [Hsplit.out, hone]
     apply wTx_err
     simp only
     split
     ·decide
     ·assumption
    have HE := hid hend
    have HF := hid (wfail_any hw 5)
    clear Hsucc Hsplit hone hend
    have hbig : (255 : Int) < (n.size : Int) := by omega
    go_wp2_with (go_at_call 135; refine HF.out.mono ?_; rintro e w2 ⟨rfl, hto⟩)
    refine bodyPost_ret (results_none rfl _ _ _) rfl ?_
    exact ⟨rfl, by rw [HE.out]; exact wto_trans ho hg' hto⟩
   ·have hone := wTx1_ok t n hbad
    rw [hone] at Hsucc
    clear Hsplit hone
    have hsm : ¬ (255 : Int) < (n.size : Int) := by omega
    have hw' := hid (hw.only ((Only.refl [] wr).alloc (.cells #[.int .u8 (n.size : Int)] 5)) (by simp) (by simp))
    have HB := hid (bs_one wr (UInt8.ofNat n.size) (n.size : Int) (by rw [UInt8.toNat_ofNat']; omega))
    have HP := hid (put_any hw'.out HB.out (lcap := 1) (by simp) (by simp only [List.length_singleton]; omega))
    have kc := fun w => Lib.run_convert_string_bytes (P := Tryz.prog) w 9 38 5 n Tryz.underlying9 Tryz.underlying38 Tryz.underlying5
    go_wp2_with fail
    refine HP.out.mono ?_
    rintro e w2 ⟨rfl, g2, hw2, hg2, ho2⟩
    obtain ⟨ob, hbs⟩ := bytes_world w2 n
    have hl3 := wPut_len t [UInt8.ofNat n.size]
    have hl4 : n.data.toList.length = n.size := rfl
    have HP2 := hid (put_any (hw2.only ob (by simp) (by simp)) hbs (lcap := grownCap w2 n.size 0 5) (by simp) (by rw [hl4]; simp only [List.length_singleton] at hl3; omega))
    rw [hl4] at HP2
    clear hl4
    go_wp2_with fail
    refine HP2.out.mono ?_
    rintro e w3 ⟨rfl, hto⟩
    go_wp2
    refine ⟨⟨k + 1, by omega, by go_num, ?_⟩, by simp [intOf]; omega⟩
    rw [Hsucc.out]
    refine wto_trans ((ho.alloc _).trans (ho2.trans ob (by simp)) (fun x hx => ?_)) ?_ hto
    ·simp at hx ⊢
     omega
    ·have := (ho.alloc (.cells #[.int .u8 (n.size : Int)] 5)).size
     omega
  ·go_wp2
   go_end0
   refine ⟨rfl, g', ?_, hg', ho⟩
   rw [List.take_of_length_le (by omega)] at hw
   exact hw

/-- The second writer in block y. -/
structure XW (w : World) (B y : Nat) (ao : Option Addr) (cap : Nat) (out : List UInt8) (err : Int) : Prop where
  c0 : w.cell? ⟨y, 0, none⟩ = some (.slice ao out.length cap)
  c1 : w.cell? ⟨y, 1, none⟩ = some (.int .i64 err)
  f0 : w.frozen? ⟨y, 0, none⟩ = false
  f1 : w.frozen? ⟨y, 1, none⟩ = false
  own : w.ownsRow B 5 1 (.slice ao out.length cap) out.length (bcs out)
  ne : ∀ a, ao = some a → a.block ≠ y
  ge : B ≤ y

/-- The second writer, its bytes in block g (y, if it has none). -/
def XWE (w : World) (B y g : Nat) (s : List UInt8 × Int) : Prop := ∃ ao cap, XW w B y ao cap s.1 s.2 ∧ dataOf ao y = g

theorem XW.lt {w : World} {B y : Nat} {ao : Option Addr} {cap : Nat} {out : List UInt8} {err : Int} (h : XW w B y ao cap out err) : y < w.heap.size := World.block_lt_of_cell? w _ h.c0

theorem XWE.lt {w : World} {B y g : Nat} {s : List UInt8 × Int} (h : XWE w B y g s) : y < w.heap.size ∧ g < w.heap.size ∧ B ≤ y ∧ B ≤ g := by
  obtain ⟨ao, cap, h, rfl⟩ := h
  have hp := h.lt
  refine ⟨hp, ?_, h.ge, ?_⟩
  · cases ao with
    | none => exact hp
    | some a => exact (h.own.lt a.block rfl).2
  · cases ao with
    | none => exact h.ge
    | some a => exact (h.own.lt a.block rfl).1

theorem XWE.only {w w' : World} {S : List Nat} {B y g : Nat} {s : List UInt8 × Int} (h : XWE w B y g s) (ho : Only S w w') (hp : y ∉ S) (hg : g ∉ S) : XWE w' B y g s := by
  obtain ⟨ao, cap, h, rfl⟩ := h
  have hl := h.lt
  refine ⟨ao, cap, { c0 := (ho.cell (p := ⟨y, 0, none⟩) hl hp).trans h.c0, c1 := (ho.cell (p := ⟨y, 1, none⟩) hl hp).trans h.c1, f0 := (ho.frozen (p := ⟨y, 0, none⟩) hl hp).trans h.f0, f1 := (ho.frozen (p := ⟨y, 1, none⟩) hl hp).trans h.f1,
                     own := ownb_only h.own ho (fun k hk => ?_), ne := h.ne, ge := h.ge }, rfl⟩
  cases ao with
  | none => simp [Value.ownBlock] at hk
  | some a => simp [Value.ownBlock] at hk; subst hk; exact hg

def XTo (w : World) (B y g : Nat) (w' : World) (s' : List UInt8 × Int) : Prop := ∃ g', XWE w' B y g' s' ∧ (g' = g ∨ w.heap.size ≤ g') ∧ Only [y, g] w w'

theorem XTo.refl {w : World} {B y g : Nat} {s : List UInt8 × Int} (h : XWE w B y g s) : XTo w B y g w s := ⟨g, h, .inl rfl, Only.refl _ _⟩

theorem xto_trans {w w1 w2 : World} {B y g g1 : Nat} {s2 : List UInt8 × Int} (ho : Only [y, g] w w1) (hg : g1 = g ∨ w.heap.size ≤ g1) (h : XTo w1 B y g1 w2 s2) : XTo w B y g w2 s2 := by
  obtain ⟨g2, h2, h3, h4⟩ := h
  refine ⟨g2, h2, ?_, ho.trans h4 (fun x hx => ?_)⟩
  · have := ho.size
    omega
  · simp at hx ⊢
    omega

/-- What the second writer is when l was appended. -/
theorem XW.appended {w w1 : World} {B y : Nat} {ao ao' : Option Addr} {cap cap' : Nat} {out l : List UInt8} {err : Int} (h : XW w B y ao cap out err) (hown : w1.ownsRow B 5 1 (.slice ao' (out.length + l.length) cap') (out.length + l.length) (bcs out ++ bcs l))
    (hg : w.grownBy w1 (Value.ownBlock (.slice ao out.length cap))) (hao : ∀ a, ao' = some a → (∃ a', ao = some a' ∧ a'.block = a.block) ∨ w.heap.size ≤ a.block) (hnn : ao' = none → ao = none) {w' : World}
    (hw : w1.setCell ⟨y, 0, none⟩ (.slice ao' (out.length + l.length) cap') = w') : XTo w B y (dataOf ao y) w' (out ++ l, err) := by
  have hl := h.lt
  have o1 : Only [dataOf ao y] w w1 := (Only.of_grown hg).mono (fun x hx => by
    cases ao with
    | none => simp [Value.ownBlock] at hx
    | some a => simp [Value.ownBlock] at hx; subst hx; exact .inl (by simp [dataOf]))
  have hblk : w1.heap[y]? = w.heap[y]? := by
    apply hg.block y hl
    cases ao with
    | none => simp [Value.ownBlock]
    | some a => simp [Value.ownBlock]; exact fun e => h.ne a rfl e.symm
  have k0 : w1.cell? ⟨y, 0, none⟩ = some (.slice ao out.length cap) := (World.cell?_of_block hblk).trans h.c0
  have k1 : w1.cell? ⟨y, 1, none⟩ = some (.int .i64 err) := (World.cell?_of_block hblk).trans h.c1
  have kf : ∀ j, w'.frozen? ⟨y, j, none⟩ = w.frozen? ⟨y, j, none⟩ := fun j => by rw [← hw, frozen_setCell]; exact World.frozen?_of_block hblk
  have o2 : Only [y] w1 w' := by
    rw [← hw]
    exact (Only.refl [y] w1).setCell (.inl (by simp)) _
  have hne : ∀ a, ao' = some a → a.block ≠ y := by
    intro a ha e
    rcases hao a ha with ⟨a', h1, h2⟩ | h1
    · exact h.ne a' h1 (by omega)
    · omega
  have hlen : (out ++ l).length = out.length + l.length := List.length_append
  refine ⟨dataOf ao' y, ⟨ao', cap', { c0 := ?_, c1 := ?_, f0 := (kf 0).trans h.f0, f1 := (kf 1).trans h.f1, own := ?_, ne := hne, ge := h.ge }, rfl⟩, ?_, ?_⟩
  · rw [← hw, hlen]
    exact cell_setCell_same _ _ k0
  · rw [← hw, cell_setCell_ne _ _ (by simp)]; exact k1
  · rw [hlen, bcs_append]
    exact ownb_only hown o2 (fun k hk => by
      cases ao' with
      | none => simp [Value.ownBlock] at hk
      | some a => simp [Value.ownBlock] at hk; subst hk; simpa using hne a rfl)
  · cases ao' with
    | none =>
      cases ao with
      | none => exact .inl rfl
      | some a => cases hnn rfl
    | some a =>
      rcases hao a rfl with ⟨a', rfl, h2⟩ | h1
      · exact .inl (by simp [dataOf, h2])
      · exact .inr h1
  · exact (o1.mono (fun x hx => .inl (by simp at hx; simp [hx]))).trans o2 (fun x hx => .inl (by simp at hx; simp [hx]))

/-- What the second writer is when its error was set. -/
theorem XWE.failed {w : World} {B y g : Nat} {s : List UInt8 × Int} (h : XWE w B y g s) (e : Int) : XTo w B y g (w.setCell ⟨y, 1, none⟩ (.int .i64 e)) (s.1, e) := by
  obtain ⟨ao, cap, h, rfl⟩ := h
  have ho : Only [y] w (w.setCell ⟨y, 1, none⟩ (.int .i64 e)) := (Only.refl [y] w).setCell (.inl (by simp)) _
  refine ⟨dataOf ao y, ⟨ao, cap, { c0 := by rw [cell_setCell_ne _ _ (by simp)]; exact h.c0, c1 := cell_setCell_same _ _ h.c1, f0 := (frozen_setCell _ _ _ _).trans h.f0, f1 := (frozen_setCell _ _ _ _).trans h.f1, own := ownb_only h.own ho (fun k hk => ?_), ne := h.ne, ge := h.ge }, rfl⟩, .inl rfl, ho.mono (fun x hx => .inl (by simp at hx; simp [hx]))⟩
  cases ao with
  | none => simp [Value.ownBlock] at hk
  | some a => simp [Value.ownBlock] at hk; subst hk; simpa using h.ne a rfl

/-- append, as a step of a region that draws its order. -/
theorem step_append_bytes {w : World} {ops : Array Oper} {o : Oper} {a : Act} {K : Act → World → Prop} {Q : Exit → Act → World → Prop} {E : Prop} (hg : o.guard = none) (s x : Operand)
    (hop : o.op = .call { callee := .builtin .append, args := #[s, x], argTypes := #[38, 38] })
    {B : Nat} {ao lao : Option Addr} {n cap lcap d : Nat} {xs : List Value} {ls : List UInt8} (hs : a.eval s = .slice ao n cap) (hx : a.eval x = .slice lao ls.length lcap) (hown : w.ownsRow B 5 1 (.slice ao n cap) n xs) (hb : BS w lao ls d) (hl : lao = none → lcap = 0)
    (hsz : n + ls.length ≤ 211106232532992) (hB : B ≤ w.heap.size)
    (h : ∀ ao' cap' w', w'.ownsRow B 5 1 (.slice ao' (n + ls.length) cap') (n + ls.length) (xs ++ bcs ls) → w.grownBy w' (Value.ownBlock (.slice ao n cap)) → (∀ a, ao' = some a → (∃ a', ao = some a' ∧ a'.block = a.block) ∨ w.heap.size ≤ a.block) → (ao' = none → ao = none) →
      K (a.put o.dst (.slice ao' (n + ls.length) cap')) w') : if Region.wanted o (yielded ops a.tmps) = true then Oper.wp Tryz.prog o a w K Q else E := by
  have hw : Region.wanted o (yielded ops a.tmps) = true := by simp [Region.wanted, hg]
  rw [if_pos hw]
  obtain ⟨ao', cap', w', hr, h1, h2, h3, h4⟩ := append_runC o.type hown hb hl hsz hB
  unfold Oper.wp execOp
  simp only [hop, resolve, invoke, builtin, Sem.run_bind, Sem.run_pure, Result.andThen_ok, List.map_toArray, List.map_cons, List.map_nil, hs, hx, hr]
  exact h ao' cap' w' h1 h2 h3 h4

theorem kept_cell {w w1 : World} {B y : Nat} {ao : Option Addr} {cap : Nat} {out : List UInt8} {err : Int} (h : XW w B y ao cap out err) (hg : w.grownBy w1 (Value.ownBlock (.slice ao out.length cap))) : w1.cell? ⟨y, 0, none⟩ = some (.slice ao out.length cap) ∧ w1.frozen? ⟨y, 0, none⟩ = false := by
  have hblk : w1.heap[y]? = w.heap[y]? := by
    apply hg.block y h.lt
    cases ao with
    | none => simp [Value.ownBlock]
    | some a => simp [Value.ownBlock]; exact fun e => h.ne a rfl e.symm
  exact ⟨(World.cell?_of_block hblk).trans h.c0, (World.frozen?_of_block hblk).trans h.f0⟩

theorem shr_at (x k : Nat) (h : 0 < k) (h8 : k ≤ 8) (w : World) : (Op.shift .shr .u64 (x : Int) .i64 (IntKind.i64.wrap (8 * ((k : Int) - 1)))).run Tryz.prog w = .ok (.int .u64 ((x / 256 ^ (k - 1) : Nat) : Int)) w := by
  have e : IntKind.i64.wrap (8 * ((k : Int) - 1)) = ((8 * (k - 1) : Nat) : Int) := by rw [IntKind.wrap_i64]; omega
  have e2 : min (8 * (k - 1)) IntKind.u64.bits = 8 * (k - 1) := by
    have : IntKind.u64.bits = 64 := rfl
    omega
  have e3 : (2 : Nat) ^ (8 * (k - 1)) = 256 ^ (k - 1) := by
    rw [show (256 : Nat) = 2 ^ 8 by decide, ← Nat.pow_mul]
  have e4 : Int.fdiv (x : Int) (2 ^ (8 * (k - 1))) = ((x / 256 ^ (k - 1) : Nat) : Int) := by
    rw [← e3, Int.fdiv_eq_ediv_of_nonneg _ (Int.le_of_lt (Int.pow_pos (by decide)))]
    simp
  rw [e]
  unfold Op.shift
  rw [if_neg (by omega)]
  simp only [Int.toNat_natCast, e2, e4, Sem.run_pure]

set_option maxHeartbeats 1000000 in
theorem xput_ok {w : World} {B y g : Nat} {out : List UInt8} (h : XWE w B y g (out, 0)) (x : Nat) (_hx : x < 18446744073709551616) (m : Nat) (hm : m ≤ 8) (mi : Int) (hmi : mi = (m : Int)) (hsz : out.length + m ≤ 211106232532992) :
    Calls Tryz.prog 148 #[.pointer (some ⟨y, 0, none⟩), .int .u64 (x : Int), .int .i64 mi] w fun e w' => e = .returned (.tuple #[]) ∧ XTo w B y g w' (out ++ toBE x m, 0) := by
  subst hmi
  have h' := h
  obtain ⟨ao0, cap0, q0, _⟩ := h'
  have q1 := q0.c1
  go_enter Tryz.func148, Tryz.ntmps148
  go_wp2
  go_loopw [6] (fun i wr => ∃ k : Nat, k ≤ m ∧ i = .int .i64 ((k : Int) - 1) ∧ XTo w B y g wr (out ++ (toBE x m).take (m - k), 0)) (fun i _ => (intOf i + 1).toNat)
  case atStart => exact ⟨m, by omega, by go_num, by simpa using XTo.refl h⟩
  case round =>
    obtain ⟨k, hk, rfl, g', hw, hg', ho⟩ := hrel
    by_cases hlt : 0 < k
    · have hl2 : ((toBE x m).take (m - k)).length ≤ m - k := List.length_take_le _ _
      have HTK := hid (toBE_take x m k hlt hk)
      have hlen : (out ++ (toBE x m).take (m - k)).length ≤ out.length + (m - k) := by rw [List.length_append]; omega
      have hwl := hw.lt
      obtain ⟨ao, cap, hw, hgd⟩ := hw
      simp only at hw
      generalize hC : out ++ (toBE x m).take (m - k) = C at *
      have HC := hid hC
      clear hC
      have c0 := hw.c0
      have f0 := hw.f0
      have g1 : (0 : Int) ≤ (k : Int) - 1 := by omega
      go_wp2
      have hsh := shr_at x k hlt (by omega)
      have hV : IntKind.u8.wrap ((x : Int) / 256 ^ (k - 1)) = ((UInt8.ofNat (x / 256 ^ (k - 1))).toNat : Int) := by
        have e : ((x : Int) / 256 ^ (k - 1)) = ((x / 256 ^ (k - 1) : Nat) : Int) := by simp
        rw [e, IntKind.wrap_u8, UInt8.toNat_ofNat']
        omega
      have oa := ((Only.refl [] wr).alloc (.cells #[.int .u8 (IntKind.u8.wrap ((x : Int) / 256 ^ (k - 1)))] 5)).drew
      have hb := (bs_one wr (UInt8.ofNat (x / 256 ^ (k - 1))) _ hV).only ((Only.refl [] _).drew) (by simp)
      obtain ⟨ao', cap', hwd, hgd'⟩ : XWE _ B y g' (C, 0) := (show XWE wr B y g' (C, 0) from ⟨ao, cap, hw, hgd⟩).only oa (by simp) (by simp)
      simp only at hwd
      have hsame : Value.slice ao C.length cap = Value.slice ao' C.length cap' := by
        have q := (oa.cell (p := ⟨y, 0, none⟩) (by simpa using hw.lt) (by simp)).trans c0
        have q2 := hwd.c0
        rw [q] at q2
        exact Option.some.inj q2
      obtain ⟨rfl, _, rfl⟩ := Value.slice.inj hsame
      have HWD := hid hwd
      have HV := hid hV
      have OA := hid oa
      have HBB := hid hb
      clear hV oa hb hwd hsame hgd'
      go_region_law (refine step_append_bytes rfl (.tmp 22) (.tmp 28) rfl rfl rfl HWD.out.own HBB.out (by simp) (by simp; omega) (by simp; omega) ?_; intro ao3 cap3 w3 hown3 hgr3 hao3 hnn3; obtain ⟨hc3, hf3⟩ := kept_cell HWD.out hgr3)
      all_goals
        have hto := HWD.out.appended hown3 hgr3 hao3 hnn3 rfl
        have ee : C ++ [UInt8.ofNat (x / 256 ^ (k - 1))] = out ++ (toBE x m).take (m - (k - 1)) := by rw [← HC.out, List.append_assoc, HTK.out]
        rw [hgd, ee] at hto
        clear ee
        go_wp2
        exact ⟨⟨k - 1, by omega, by congr 1; omega, xto_trans (ho.next OA.out (by simp)) hg' hto⟩, by simp [intOf]; omega⟩
    · have : k = 0 := by omega
      subst this
      go_wp2
      go_end0
      refine ⟨rfl, g', ?_, hg', ho⟩
      rw [List.take_of_length_le (by rw [toBE_length]; omega)] at hw
      exact hw

theorem xput_err {w : World} {B y g : Nat} {s : List UInt8 × Int} (h : XWE w B y g s) (he : (s.2 != 0) = true) (x : Nat) (mi : Int) :
    Calls Tryz.prog 148 #[.pointer (some ⟨y, 0, none⟩), .int .u64 (x : Int), .int .i64 mi] w fun e w' => e = .returned (.tuple #[]) ∧ w = w' := by
  obtain ⟨ao, cap, ⟨c0, c1, f0, f1, own, ne, ge⟩, _⟩ := h
  go_enter Tryz.func148, Tryz.ntmps148
  go_wp2
  refine bodyPost_ret (results_none rfl _ _ _) rfl ?_
  exact ⟨rfl, rfl⟩

/-- Whatever the second writer: put. -/
theorem xput_any {w : World} {B y g : Nat} {s : List UInt8 × Int} (h : XWE w B y g s) (x : Nat) (hx : x < 18446744073709551616) (m : Nat) (hm : m ≤ 8) (mi : Int) (hmi : mi = (m : Int)) (hsz : s.1.length + m ≤ 211106232532992) :
    Calls Tryz.prog 148 #[.pointer (some ⟨y, 0, none⟩), .int .u64 (x : Int), .int .i64 mi] w fun e w' => e = .returned (.tuple #[]) ∧ XTo w B y g w' (wPut s (toBE x m)) := by
  obtain ⟨out, err⟩ := s
  by_cases he : err = 0
  · subst he
    have e : wPut (out, 0) (toBE x m) = (out ++ toBE x m, 0) := by simp [wPut]
    rw [e]
    exact xput_ok h x hx m hm mi hmi hsz
  · have e : wPut (out, err) (toBE x m) = (out, err) := by simp [wPut, he]
    rw [e]
    refine (xput_err h (by simpa using he) x mi).mono ?_
    rintro e w' ⟨rfl, rfl⟩
    exact ⟨rfl, XTo.refl h⟩

set_option maxHeartbeats 400000 in
theorem xbytesw_any {w : World} {B y g : Nat} {s : List UInt8 × Int} (h : XWE w B y g s) {lao : Option Addr} {lcap d : Nat} {ls : List UInt8} (hb : BS w lao ls d) (hl : lao = none → lcap = 0) (hsz : s.1.length + ls.length ≤ 211106232532992) :
    Calls Tryz.prog 87 #[.pointer (some ⟨y, 0, none⟩), .slice lao ls.length lcap] w fun e w' => e = .returned (.tuple #[]) ∧ XTo w B y g w' (wPut s ls) := by
  have HL := hid hl
  clear hl
  obtain ⟨out, err⟩ := s
  simp only at hsz
  by_cases he : err = 0
  · subst he
    have e : wPut (out, 0) ls = (out ++ ls, 0) := by simp [wPut]
    rw [e]
    clear e
    obtain ⟨ao, cap, h, rfl⟩ := h
    simp only at h
    have H := hid h
    have hyl := h.lt
    obtain ⟨c0, c1, f0, f1, own, ne, ge⟩ := h
    go_enter Tryz.func87, Tryz.ntmps87
    go_wp2_with (at_builtin; refine wpList_append_bytes rfl (.tmp 13) (.tmp 14) rfl rfl rfl own hb HL.out (by omega) (by omega) ?_)
    intro ao' cap' w1 hown hgr hao hnn
    obtain ⟨hc3, hf3⟩ := kept_cell H.out hgr
    go_wp2
    go_end0
    exact ⟨rfl, H.out.appended hown hgr hao hnn rfl⟩
  · have e : wPut (out, err) ls = (out, err) := by simp [wPut, he]
    rw [e]
    have he' : (err == 0) = false := by simpa using he
    clear he e
    have h' := h
    obtain ⟨ao, cap, ⟨c0, c1, f0, f1, own, ne, ge⟩, _⟩ := h'
    go_enter Tryz.func87, Tryz.ntmps87
    go_wp2
    go_end0
    exact ⟨rfl, XTo.refl h⟩

theorem xbytesw_err {w : World} {B y g : Nat} {s : List UInt8 × Int} (h : XWE w B y g s) (he : s.2 ≠ 0) {lao : Option Addr} {n lcap : Nat} :
    Calls Tryz.prog 87 #[.pointer (some ⟨y, 0, none⟩), .slice lao n lcap] w fun e w' => e = .returned (.tuple #[]) ∧ w = w' := by
  have he' : (s.2 == 0) = false := by simpa using he
  clear he
  obtain ⟨ao, cap, ⟨c0, c1, f0, f1, own, ne, ge⟩, _⟩ := h
  go_enter Tryz.func87, Tryz.ntmps87
  go_wp2
  go_end0
  exact ⟨rfl, rfl⟩

theorem xn8w_any {w : World} {B y g : Nat} {s : List UInt8 × Int} (h : XWE w B y g s) (n : Int) (hsz : s.1.length + 8 ≤ 211106232532992) :
    Calls Tryz.prog 147 #[.pointer (some ⟨y, 0, none⟩), .int .i64 n] w fun e w' => e = .returned (.tuple #[]) ∧ XTo w B y g w' (wN8 s [n]) := by
  have hu : IntKind.u64.wrap n = (toU64 n : Int) := by rw [IntKind.wrap_u64]; unfold toU64; omega
  have HN := xput_any h (toU64 n) (by unfold toU64; omega) 8 (by decide) 8 rfl hsz
  have e : wN8 s [n] = wPut s (toBE (toU64 n) 8) := by simp [wN8]
  rw [e]
  have HN := hid HN
  clear e
  go_enter Tryz.func147, Tryz.ntmps147
  go_wp2_with fail
  refine HN.out.mono ?_
  rintro e w' ⟨rfl, hto⟩
  go_wp2
  go_end0
  exact ⟨rfl, hto⟩

set_option maxHeartbeats 1000000 in
theorem xuns1 {w : World} {B y g : Nat} {s : List UInt8 × Int} (h : XWE w B y g s) (v : Int) (hsz : s.1.length + 1 ≤ 211106232532992) :
  Calls Tryz.prog 146 #[.pointer (some ⟨y, 0, none⟩), .int .i64 v, .int .i64 1] w fun e w' => e = .returned (.tuple #[]) ∧ XTo w B y g w' (wOne 1 s v) := by
 obtain ⟨out, err⟩ := s
 simp only at hsz
 have h' := h
 obtain ⟨ao, cap, ⟨c0, c1, f0, f1, own, ne, ge⟩, _⟩ := h'
 simp only at c1 c0
 by_cases he : err = 0
 ·subst he
  by_cases hbad : v < 0 ∨ (256 : Int) ^ 1 ≤ v
  ·have e : wOne 1 (out, 0) v = (out, 1) := by
    unfold wOne
    rw [if_pos rfl, if_pos hbad]
   rw [e]
   clear e
   have hu : IntKind.u64.wrap v = (toU64 v : Int) := by rw [IntKind.wrap_u64]; unfold toU64; omega
   obtain ⟨g1, hx1, hg1, ho1⟩ := h.failed 1
   have HP := hid (xput_err hx1 (by simp) (toU64 v) 1)
   have HO := hid ho1
   clear ho1
   by_cases hneg : v < 0
   ·clear hbad
    go_enter Tryz.func146, Tryz.ntmps146
    go_wp2_with fail
    refine HP.out.mono ?_
    rintro e w' ⟨rfl, rfl⟩
    go_wp2
    go_end0
    exact ⟨rfl, g1, hx1, hg1, HO.out⟩
   ·have hbig : (256 : Int) ≤ v := hbad.resolve_left hneg
    clear hbad
    go_enter Tryz.func146, Tryz.ntmps146
    go_wp2_with fail
    refine HP.out.mono ?_
    rintro e w' ⟨rfl, rfl⟩
    go_wp2
    go_end0
    exact ⟨rfl, g1, hx1, hg1, HO.out⟩
  ·have e : wOne 1 (out, 0) v = (out ++ toBE v.toNat 1, 0) := by
    unfold wOne
    rw [if_pos rfl, if_neg hbad]
   rw [e]
   clear e
   have hneg : ¬ v < 0 := fun e => hbad (.inl e)
   have hbig : ¬ (256 : Int) ≤ v := fun e => hbad (.inr e)
   obtain ⟨k, rfl⟩ := Int.eq_ofNat_of_zero_le (by omega : 0 ≤ v)
   have hk : k < 256 := by omega
   have HP := xput_ok h k (by omega) 1 (by decide) 1 rfl hsz
   rw [Int.toNat_natCast]
   have HP := hid HP
   clear hbad
   go_enter Tryz.func146, Tryz.ntmps146
   go_wp2_with fail
   refine HP.out.mono ?_
   rintro e w' ⟨rfl, hto⟩
   go_wp2
   go_end0
   exact ⟨rfl, hto⟩
 ·have e : wOne 1 (out, err) v = (out, err) := by
   unfold wOne
   rw [if_neg he]
  rw [e]
  clear e
  have hu : IntKind.u64.wrap v = (toU64 v : Int) := by rw [IntKind.wrap_u64]; unfold toU64; omega
  have HP := hid (xput_err h (by simpa using he) (toU64 v) 1)
  have he' : (err == 0) = false := by simpa using he
  clear he
  go_enter Tryz.func146, Tryz.ntmps146
  go_wp2_with fail
  refine HP.out.mono ?_
  rintro e w' ⟨rfl, rfl⟩
  go_wp2
  go_end0
  exact ⟨rfl, XTo.refl h⟩

theorem xwu1_any {w : World} {B y g : Nat} {s : List UInt8 × Int} (h : XWE w B y g s) (v : Int) (hsz : s.1.length + 1 ≤ 211106232532992) :
  Calls Tryz.prog 90 #[.pointer (some ⟨y, 0, none⟩), .int .i64 v] w fun e w' => e = .returned (.tuple #[]) ∧ XTo w B y g w' (wOne 1 s v) := by
 have HP := hid (xuns1 h v hsz)
 go_enter Tryz.func90, Tryz.ntmps90
 go_wp2_with fail
 refine HP.out.mono ?_
 rintro e w' ⟨rfl, hto⟩
 go_wp2
 go_end0
 exact ⟨rfl, hto⟩

set_option maxHeartbeats 1000000 in
theorem xuns2 {w : World} {B y g : Nat} {s : List UInt8 × Int} (h : XWE w B y g s) (v : Int) (hsz : s.1.length + 2 ≤ 211106232532992) :
  Calls Tryz.prog 146 #[.pointer (some ⟨y, 0, none⟩), .int .i64 v, .int .i64 2] w fun e w' => e = .returned (.tuple #[]) ∧ XTo w B y g w' (wOne 2 s v) := by
 obtain ⟨out, err⟩ := s
 simp only at hsz
 have h' := h
 obtain ⟨ao, cap, ⟨c0, c1, f0, f1, own, ne, ge⟩, _⟩ := h'
 simp only at c1 c0
 by_cases he : err = 0
 ·subst he
  by_cases hbad : v < 0 ∨ (256 : Int) ^ 2 ≤ v
  ·have e : wOne 2 (out, 0) v = (out, 1) := by
    unfold wOne
    rw [if_pos rfl, if_pos hbad]
   rw [e]
   clear e
   have hu : IntKind.u64.wrap v = (toU64 v : Int) := by rw [IntKind.wrap_u64]; unfold toU64; omega
   obtain ⟨g1, hx1, hg1, ho1⟩ := h.failed 1
   have HP := hid (xput_err hx1 (by simp) (toU64 v) 2)
   have HO := hid ho1
   clear ho1
   by_cases hneg : v < 0
   ·clear hbad
    go_enter Tryz.func146, Tryz.ntmps146
    go_wp2_with fail
    refine HP.out.mono ?_
    rintro e w' ⟨rfl, rfl⟩
    go_wp2
    go_end0
    exact ⟨rfl, g1, hx1, hg1, HO.out⟩
   ·have hbig : (65536 : Int) ≤ v := hbad.resolve_left hneg
    clear hbad
    go_enter Tryz.func146, Tryz.ntmps146
    go_wp2_with fail
    refine HP.out.mono ?_
    rintro e w' ⟨rfl, rfl⟩
    go_wp2
    go_end0
    exact ⟨rfl, g1, hx1, hg1, HO.out⟩
  ·have e : wOne 2 (out, 0) v = (out ++ toBE v.toNat 2, 0) := by
    unfold wOne
    rw [if_pos rfl, if_neg hbad]
   rw [e]
   clear e
   have hneg : ¬ v < 0 := fun e => hbad (.inl e)
   have hbig : ¬ (65536 : Int) ≤ v := fun e => hbad (.inr e)
   obtain ⟨k, rfl⟩ := Int.eq_ofNat_of_zero_le (by omega : 0 ≤ v)
   have hk : k < 65536 := by omega
   have HP := xput_ok h k (by omega) 2 (by decide) 2 rfl hsz
   rw [Int.toNat_natCast]
   have HP := hid HP
   clear hbad
   go_enter Tryz.func146, Tryz.ntmps146
   go_wp2_with fail
   refine HP.out.mono ?_
   rintro e w' ⟨rfl, hto⟩
   go_wp2
   go_end0
   exact ⟨rfl, hto⟩
 ·have e : wOne 2 (out, err) v = (out, err) := by
   unfold wOne
   rw [if_neg he]
  rw [e]
  clear e
  have hu : IntKind.u64.wrap v = (toU64 v : Int) := by rw [IntKind.wrap_u64]; unfold toU64; omega
  have HP := hid (xput_err h (by simpa using he) (toU64 v) 2)
  have he' : (err == 0) = false := by simpa using he
  clear he
  go_enter Tryz.func146, Tryz.ntmps146
  go_wp2_with fail
  refine HP.out.mono ?_
  rintro e w' ⟨rfl, rfl⟩
  go_wp2
  go_end0
  exact ⟨rfl, XTo.refl h⟩

theorem xwu2_any {w : World} {B y g : Nat} {s : List UInt8 × Int} (h : XWE w B y g s) (v : Int) (hsz : s.1.length + 2 ≤ 211106232532992) :
  Calls Tryz.prog 88 #[.pointer (some ⟨y, 0, none⟩), .int .i64 v] w fun e w' => e = .returned (.tuple #[]) ∧ XTo w B y g w' (wOne 2 s v) := by
 have HP := hid (xuns2 h v hsz)
 go_enter Tryz.func88, Tryz.ntmps88
 go_wp2_with fail
 refine HP.out.mono ?_
 rintro e w' ⟨rfl, hto⟩
 go_wp2
 go_end0
 exact ⟨rfl, hto⟩

set_option maxHeartbeats 1000000 in
theorem xtextw_any {w : World} {B y g : Nat} {s : List UInt8 × Int} (h : XWE w B y g s) (b : ByteArray) (hb : b.size ≤ 9223372036854775807) (hsz : s.1.length + 256 ≤ 211106232532992) :
  Calls Tryz.prog 91 #[.pointer (some ⟨y, 0, none⟩), .string b] w fun e w' => e = .returned (.tuple #[]) ∧ XTo w B y g w' (wTx1 s b) := by
 obtain ⟨out, err⟩ := s
 simp only at hsz
 have h' := h
 obtain ⟨ao, cap, ⟨c0, c1, f0, f1, own, ne, ge⟩, _⟩ := h'
 simp only at c1 c0
 have kc := fun w => Lib.run_convert_string_bytes (P := Tryz.prog) w 9 38 5 b Tryz.underlying9 Tryz.underlying38 Tryz.underlying5
 have hl4 : b.data.toList.length = b.size := rfl
 -- from a state in which the length was put: the bytes
 have tail : ∀ (w1 : World) (g1 : Nat) (t : List UInt8 × Int), XWE w1 B y g1 t → (t.1.length + b.size ≤ 211106232532992 ∨ t.2 ≠ 0) → Calls Tryz.prog 87 #[.pointer (some ⟨y, 0, none⟩), .slice (some ⟨w1.heap.size, 0, none⟩) b.size (grownCap w1 b.size 0 5)] (Lib.bytesWorld w1 5 b) fun e w' => e = .returned (.tuple #[]) ∧ XTo w1 B y g1 w' (wPut t b.data.toList) := by
  intro w1 g1 t ht hs
  obtain ⟨ob, hbs⟩ := bytes_world w1 b
  have ht' := ht.only ob (by simp) (by simp)
  rcases hs with hs | hs
  ·have q := xbytesw_any ht' hbs (lcap := grownCap w1 b.size 0 5) (by simp) (by rw [hl4]; exact hs)
   rw [hl4] at q
   refine q.mono ?_
   rintro e w' ⟨rfl, hto⟩
   exact ⟨rfl, xto_trans (ob.mono (by simp)) (.inl rfl) hto⟩
  ·have q := xbytesw_err ht' hs (lao := some ⟨w1.heap.size, 0, none⟩) (n := b.size) (lcap := grownCap w1 b.size 0 5)
   refine q.mono ?_
   rintro e w' ⟨rfl, rfl⟩
   have e : wPut t b.data.toList = t := by simp [wPut, hs]
   rw [e]
   exact ⟨rfl, xto_trans (ob.mono (by simp)) (.inl rfl) (XTo.refl ht')⟩
 have HT := hid tail
 clear tail hl4
 by_cases he : err = 0
 ·subst he
  by_cases hbad : 255 < b.size
  ·have e : wTx1 (out, 0) b = (out, 5) := by
    unfold wTx1
    rw [if_pos rfl, if_pos hbad]
   rw [e]
   clear e
   have hbig : (255 : Int) < (b.size : Int) := by omega
   obtain ⟨g1, hx1, hg1, ho1⟩ := h.failed 5
   have HP := hid (xput_err hx1 (by simp) b.size 1)
   have HQ := HT.out _ g1 _ hx1 (.inr (by simp))
   have e2 : wPut (out, 5) b.data.toList = (out, 5) := by simp [wPut]
   rw [e2] at HQ
   have e3 : (w.setCell ⟨y, 1, none⟩ (.int .i64 5)).heap.size = w.heap.size := by simp [World.setCell]
   rw [e3] at HQ
   have HQ := hid HQ
   have HO := hid ho1
   clear ho1 hbad e2 e3
   go_enter Tryz.func91, Tryz.ntmps91
   go_wp2_with fail
   refine HP.out.mono ?_
   rintro e w' ⟨rfl, rfl⟩
   go_wp2_with fail
   refine HQ.out.mono ?_
   rintro e w' ⟨rfl, hto⟩
   go_wp2
   go_end0
   exact ⟨rfl, xto_trans HO.out hg1 hto⟩
  ·have e : wTx1 (out, 0) b = wPut (wPut (out, 0) [UInt8.ofNat b.size]) b.data.toList := wTx1_ok (out, 0) b hbad
   rw [e]
   clear e
   have hsm : ¬ (255 : Int) < (b.size : Int) := by omega
   have HP := xput_any h b.size (by omega) 1 (by decide) 1 rfl (by show out.length + 1 ≤ _; omega)
   have e1 : toBE b.size 1 = [UInt8.ofNat b.size] := by simp [toBE]
   have hlw := wPut_len (out, 0) [UInt8.ofNat b.size]
   rw [e1] at HP
   have HP := hid HP
   clear e1
   go_enter Tryz.func91, Tryz.ntmps91
   go_wp2_with fail
   refine HP.out.mono ?_
   rintro e w1 ⟨rfl, g1, hx1, hg1, ho1⟩
   have HQ := hid (HT.out w1 g1 _ hx1 (.inl (by simp only [List.length_singleton] at hlw; omega)))
   go_wp2_with fail
   refine HQ.out.mono ?_
   rintro e w' ⟨rfl, hto⟩
   go_wp2
   go_end0
   exact ⟨rfl, xto_trans ho1 hg1 hto⟩
 ·have e : wTx1 (out, err) b = (out, err) := by
   unfold wTx1
   rw [if_neg he]
  rw [e]
  clear e
  have HP := hid (xput_err h (by simpa using he) (b.size % 18446744073709551616) 1)
  have HQ := HT.out w g _ h (.inr he)
  have e2 : wPut (out, err) b.data.toList = (out, err) := by simp [wPut, he]
  rw [e2] at HQ
  have HQ := hid HQ
  have he' : (err == 0) = false := by simpa using he
  have hu : IntKind.u64.wrap (b.size : Int) = ((b.size % 18446744073709551616 : Nat) : Int) := by rw [IntKind.wrap_u64]; omega
  clear he e2
  have e5 : b.size % 18446744073709551616 = b.size := by omega
  rw [e5] at HP
  clear hu e5
  go_enter Tryz.func91, Tryz.ntmps91
  go_wp2_with fail
  refine HP.out.mono ?_
  rintro e w' ⟨rfl, rfl⟩
  go_wp2_with fail
  refine HQ.out.mono ?_
  rintro e w' ⟨rfl, hto⟩
  go_wp2
  go_end0
  exact ⟨rfl, hto⟩

theorem rowI_plain {op : Int} (h0 : 0 ≤ op) (h1 : op ≤ 45) (h2 : ¬ (op = 3)) (h3 : ¬ (op = 4)) (h4 : ¬ (op = 1)) (h5 : op < 19 ∨ 24 < op) (h6 : op < 25 ∨ 30 < op) (h7 : op < 36 ∨ 41 < op) : rowI op = 1 := by
 unfold rowI
 repeat' split
 all_goals omega

set_option maxHeartbeats 800000 in
set_option maxRecDepth 100000 in
theorem row_any (op : Int) (w : World) : Calls Tryz.prog 192 #[.int .i64 op] w fun e w' => e = .returned (.int .i64 (rowI op)) ∧ w' = w := by
 by_cases hs : op = 3 ∨ op = 4 ∨ op = 1 ∨ op = 19 ∨ op = 20 ∨ op = 21 ∨ op = 22 ∨ op = 23 ∨ op = 24 ∨ op = 25 ∨ op = 26 ∨ op = 27 ∨ op = 28 ∨ op = 29 ∨ op = 30 ∨ op = 36 ∨ op = 37 ∨ op = 38 ∨ op = 39 ∨ op = 40 ∨ op = 41
 ·rcases hs with rfl | rfl | rfl | rfl | rfl | rfl | rfl | rfl | rfl | rfl | rfl | rfl | rfl | rfl | rfl | rfl | rfl | rfl | rfl | rfl | rfl
  all_goals
   go_enter Tryz.func192, Tryz.ntmps192
   go_wp2
   go_ret
   exact ⟨rfl, rfl⟩
 ·simp only [not_or] at hs
  obtain ⟨n3, n4, n1, n19, n20, n21, n22, n23, n24, n25, n26, n27, n28, n29, n30, n36, n37, n38, n39, n40, n41⟩ := hs
  by_cases h0 : op < 0
  ·have e1 : rowI op = 0 := by unfold rowI; rw [if_pos (by omega)]
   rw [e1]
   clear e1
   go_enter Tryz.func192, Tryz.ntmps192
   go_wp2
   go_ret
   exact ⟨rfl, rfl⟩
  ·by_cases h1 : 45 < op
   ·have e1 : rowI op = 0 := by unfold rowI; rw [if_pos (by omega)]
    rw [e1]
    clear e1
    go_enter Tryz.func192, Tryz.ntmps192
    go_wp2
    go_ret
    exact ⟨rfl, rfl⟩
   ·have e1 : rowI op = 1 := rowI_plain (by omega) (by omega) n3 n4 n1 (by omega) (by omega) (by omega)
    rw [e1]
    clear e1
    go_enter Tryz.func192, Tryz.ntmps192
    go_wp2
    go_ret
    exact ⟨rfl, rfl⟩

set_option maxHeartbeats 400000 in
set_option maxRecDepth 100000 in
theorem size_any (op : Int) (w : World) : Calls Tryz.prog 210 #[.int .i64 op] w fun e w' => e = .returned (.int .i64 (sizeN op : Int)) ∧ w' = w := by
 have HR := row_any op w
 have hc := row_cases op
 generalize rowI op = r at *
 generalize sizeN op = s at *
 replace HR := hid HR
 rcases hc with ⟨rfl, rfl⟩ | ⟨rfl, rfl⟩ | ⟨rfl, rfl⟩ | ⟨h3, h8, rfl⟩
 ·go_enter Tryz.func210, Tryz.ntmps210
  go_wp2_with (go_at_call 192; refine HR.out.mono ?_; rintro e w' ⟨rfl, rfl⟩)
  go_ret
  exact ⟨rfl, rfl⟩
 ·go_enter Tryz.func210, Tryz.ntmps210
  go_wp2_with (go_at_call 192; refine HR.out.mono ?_; rintro e w' ⟨rfl, rfl⟩)
  go_ret
  exact ⟨rfl, rfl⟩
 ·go_enter Tryz.func210, Tryz.ntmps210
  go_wp2_with (go_at_call 192; refine HR.out.mono ?_; rintro e w' ⟨rfl, rfl⟩)
  go_ret
  exact ⟨rfl, rfl⟩
 ·rcases (by omega : r = 3 ∨ r = 4 ∨ r = 5 ∨ r = 6 ∨ r = 7 ∨ r = 8) with rfl | rfl | rfl | rfl | rfl | rfl
  all_goals
   go_enter Tryz.func210, Tryz.ntmps210
   go_wp2_with (go_at_call 192; refine HR.out.mono ?_; rintro e w' ⟨rfl, rfl⟩)
   go_ret
   exact ⟨rfl, rfl⟩

def jumpsI (op : Int) : Bool := decide (19 ≤ op) && decide (op ≤ 24)

theorem rjumps_any (op : Int) (w : World) : Calls Tryz.prog 218 #[.int .i64 op] w fun e w' => e = .returned (.bool (jumpsI op)) ∧ w' = w := by
 by_cases h1 : 19 ≤ op <;> by_cases h2 : op ≤ 24
 all_goals
  go_enter Tryz.func218, Tryz.ntmps218
  go_wp2
  go_ret
  refine ⟨?_, rfl⟩
  simp [jumpsI, *]

set_option maxHeartbeats 400000 in
set_option maxRecDepth 100000 in
theorem rsize_any (op : Int) (w : World) : Calls Tryz.prog 235 #[.int .i64 op] w fun e w' => e = .returned (.int .i64 (sizeN op : Int)) ∧ w' = w := by
 have HJ := rjumps_any op w
 by_cases h0 : op < 0
 ·have e1 : sizeN op = 0 := by unfold sizeN; rw [if_pos (by omega)]
  rw [e1]
  clear e1 HJ
  go_enter Tryz.func235, Tryz.ntmps235
  go_wp2
  go_ret
  exact ⟨rfl, rfl⟩
 by_cases h45 : 45 < op
 ·have e1 : sizeN op = 0 := by unfold sizeN; rw [if_pos (by omega)]
  rw [e1]
  clear e1 HJ
  go_enter Tryz.func235, Tryz.ntmps235
  go_wp2
  go_ret
  exact ⟨rfl, rfl⟩
 by_cases h3 : op = 3
 ·subst h3
  clear HJ
  go_enter Tryz.func235, Tryz.ntmps235
  go_wp2
  go_ret
  exact ⟨rfl, rfl⟩
 by_cases h4 : op = 4
 ·subst h4
  clear HJ
  go_enter Tryz.func235, Tryz.ntmps235
  go_wp2
  go_ret
  exact ⟨rfl, rfl⟩
 by_cases h1 : op = 1
 ·subst h1
  clear HJ
  go_enter Tryz.func235, Tryz.ntmps235
  go_wp2
  go_ret
  exact ⟨rfl, rfl⟩
 have b3 : (op == 3) = false := by simpa using h3
 have b4 : (op == 4) = false := by simpa using h4
 have b1 : (op == 1) = false := by simpa using h1
 by_cases hj : 19 ≤ op ∧ op ≤ 24
 ·have e1 : sizeN op = 3 := by unfold sizeN; rw [if_neg (by omega), if_neg (by omega), if_pos (by omega)]
  have e2 : jumpsI op = true := by simp [jumpsI, hj.1, hj.2]
  rw [e1]
  rw [e2] at HJ
  replace HJ := hid HJ
  clear e1 e2 hj
  go_enter Tryz.func235, Tryz.ntmps235
  go_wp2_with (go_at_call 218; refine HJ.out.mono ?_; rintro e w' ⟨rfl, rfl⟩)
  go_ret
  exact ⟨rfl, rfl⟩
 have e2 : jumpsI op = false := by
  unfold jumpsI
  by_cases h : 19 ≤ op
  ·have : ¬ (op ≤ 24) := fun q => hj ⟨h, q⟩
   simp [this]
  ·simp [h]
 rw [e2] at HJ
 replace HJ := hid HJ
 clear e2
 by_cases h25 : 25 ≤ op
 ·by_cases h30 : op ≤ 30
  ·have e1 : sizeN op = 3 := by unfold sizeN; rw [if_neg (by omega), if_neg (by omega), if_pos (by omega)]
   rw [e1]
   clear e1 hj
   go_enter Tryz.func235, Tryz.ntmps235
   go_wp2_with (go_at_call 218; refine HJ.out.mono ?_; rintro e w' ⟨rfl, rfl⟩)
   go_ret
   exact ⟨rfl, rfl⟩
  ·by_cases h36 : 36 ≤ op
   ·by_cases h41 : op ≤ 41
    ·have e1 : sizeN op = 3 := by unfold sizeN; rw [if_neg (by omega), if_neg (by omega), if_pos (by omega)]
     rw [e1]
     clear e1 hj
     go_enter Tryz.func235, Tryz.ntmps235
     go_wp2_with (go_at_call 218; refine HJ.out.mono ?_; rintro e w' ⟨rfl, rfl⟩)
     go_ret
     exact ⟨rfl, rfl⟩
    ·have e1 : sizeN op = 1 := by unfold sizeN; rw [if_neg (by omega), if_neg (by omega), if_neg (by omega)]
     rw [e1]
     clear e1 hj
     go_enter Tryz.func235, Tryz.ntmps235
     go_wp2_with (go_at_call 218; refine HJ.out.mono ?_; rintro e w' ⟨rfl, rfl⟩)
     go_ret
     exact ⟨rfl, rfl⟩
   ·have e1 : sizeN op = 1 := by unfold sizeN; rw [if_neg (by omega), if_neg (by omega), if_neg (by omega)]
    rw [e1]
    clear e1 hj
    go_enter Tryz.func235, Tryz.ntmps235
    go_wp2_with (go_at_call 218; refine HJ.out.mono ?_; rintro e w' ⟨rfl, rfl⟩)
    go_ret
    exact ⟨rfl, rfl⟩
 ·have e1 : sizeN op = 1 := by unfold sizeN; rw [if_neg (by omega), if_neg (by omega), if_neg (by omega)]
  have h36 : ¬ (36 ≤ op) := by omega
  rw [e1]
  clear e1 hj
  go_enter Tryz.func235, Tryz.ntmps235
  go_wp2_with (go_at_call 218; refine HJ.out.mono ?_; rintro e w' ⟨rfl, rfl⟩)
  go_ret
  exact ⟨rfl, rfl⟩

end Go.Proofs.YtildemmkhndhjaaGreatDoor
