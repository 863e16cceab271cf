/-
  The contracts of a writer's U1, U2, N8, Bytes, Len, Done, and of NewWriter. All that is written is at most 1.5 times 2 to the power of 47 bytes.
-/
import Derived.Test.YtmghmmkjcgopaaaCWCounts
import Derived.BigQuiet
namespace Go.Proofs.Ytmghmmkjcgopaaa
open Go.RowKit

theorem wu1_any {w : World} {B p g : Nat} {s : List UInt8 × Int} (h : WrE w B p g s) {lao : Option Addr} {lcap d : Nat} {ns : List Int} (hb : NX .i64 w lao ns d) (hd : ns ≠ [] → d ∉ [p, g]) (hsz : s.1.length + 1 * ns.length ≤ 211106232532992) :
    Calls Try.prog 33 #[.pointer (some ⟨p, 0, none⟩), .slice lao ns.length lcap] w fun e w' => e = .returned (.tuple #[]) ∧ WTo w B p g w' (wAll 1 s ns) := by
  have HC := hid (counts1 h hb hd hsz (lcap := lcap))
  go_enter Try.func33, Try.ntmps33
  go_wp2_with (go_at_call 39; refine HC.out.mono ?_; rintro e w2 ⟨rfl, hto⟩)
  go_end0
  exact ⟨rfl, hto⟩

theorem wu2_any {w : World} {B p g : Nat} {s : List UInt8 × Int} (h : WrE w B p g s) {lao : Option Addr} {lcap d : Nat} {ns : List Int} (hb : NX .i64 w lao ns d) (hd : ns ≠ [] → d ∉ [p, g]) (hsz : s.1.length + 2 * ns.length ≤ 211106232532992) :
    Calls Try.prog 32 #[.pointer (some ⟨p, 0, none⟩), .slice lao ns.length lcap] w fun e w' => e = .returned (.tuple #[]) ∧ WTo w B p g w' (wAll 2 s ns) := by
  have HC := hid (counts2 h hb hd hsz (lcap := lcap))
  go_enter Try.func32, Try.ntmps32
  go_wp2_with (go_at_call 39; refine HC.out.mono ?_; rintro e w2 ⟨rfl, hto⟩)
  go_end0
  exact ⟨rfl, hto⟩

theorem wbytes_any {w : World} {B p g : Nat} {s : List UInt8 × Int} (h : WrE w B p g s) {lao : Option Addr} {lcap d : Nat} {ls : List UInt8} (hb : BS w lao ls d) (hl : lao = none → lcap = 0) (hsz : s.1.length + ls.length ≤ 211106232532992) :
    Calls Try.prog 40 #[.pointer (some ⟨p, 0, none⟩), .slice lao ls.length lcap] w fun e w' => e = .returned (.tuple #[]) ∧ WTo w B p g w' (wPut s ls) := by
  have HC := hid (put_any h hb hl hsz)
  go_enter Try.func40, Try.ntmps40
  go_wp2_with (go_at_call 45; refine HC.out.mono ?_; rintro e w2 ⟨rfl, hto⟩)
  go_end0
  exact ⟨rfl, hto⟩

/-- What Done answers. -/
def wDone (s : List UInt8 × Int) : List UInt8 := if s.2 = 0 then s.1 else []

set_option maxHeartbeats 400000 in
theorem wdone_any {w : World} {B p g : Nat} {s : List UInt8 × Int} (h : WrE w B p g s) (hsz : s.1.length ≤ 211106232532992) :
    Calls Try.prog 20 #[.pointer (some ⟨p, 0, none⟩)] w fun e w' => ∃ ao cap, e = .returned (.tuple #[.slice ao (wDone s).length cap, .int .i64 s.2]) ∧ w'.ownsRow w.heap.size 5 1 (.slice ao (wDone s).length cap) (wDone s).length (bcs (wDone s)) ∧ Only [] w w' := by
  obtain ⟨ao, cap, ⟨c0, c1, c2, f0, f1, f2, own, ne, ge⟩, _⟩ := h
  obtain ⟨hbs, hc, hm, hn, _⟩ := BS.of_owns own
  by_cases he : s.2 = 0
  · have e : wDone s = s.1 := by simp [wDone, he]
    rw [e, he]
    rw [he] at c1
    clear he e
    have HC := hid (clone_any hbs hn hsz)
    go_enter Try.func20, Try.ntmps20
    go_wp2_with (first | (go_at_call 36; refine (fine_any p 0 _ (by assumption)).mono ?_; rintro e w' ⟨rfl, rfl⟩) | (go_at_call 24; refine HC.out.mono ?_; rintro e w' ⟨ao', cap', rfl, hown, ho⟩))
    go_ret2
    exact ⟨ao', cap', rfl, hown, ho⟩
  · have e : wDone s = [] := by simp [wDone, he]
    rw [e]
    have he' : (s.2 == 0) = false := by simpa using he
    clear he e
    go_enter Try.func20, Try.ntmps20
    go_wp2_with (go_at_call 36; refine (fine_any p s.2 _ (by assumption)).mono ?_; rintro e w' ⟨rfl, rfl⟩)
    go_quiet (fail)
    go_wp2
    go_ret2
    exact ⟨none, 0, rfl, World.ownsRow_nil _ _ _ _, ⟨rfl, rfl, rfl, Nat.le_refl _, fun _ _ _ => rfl⟩⟩

theorem newWriter_any (w : World) (B : Nat) (hB : B ≤ w.heap.size) :
    Calls Try.prog 18 #[] w fun e w' => e = .returned (.pointer (some ⟨w.heap.size, 0, none⟩)) ∧ WrE w' B w.heap.size w.heap.size ([], 0) ∧ Only [] w w' := by
  go_enter Try.func18, Try.ntmps18
  go_wp2
  go_ret
  refine ⟨rfl, ⟨none, 0, { c0 := ?_, c1 := ?_, c2 := ?_, f0 := frozen_new _ _ _ _, f1 := frozen_new _ _ _ _, f2 := frozen_new _ _ _ _, own := World.ownsRow_nil _ _ _ _, ne := (fun a ha => by cases ha), ge := hB }, rfl⟩, (Only.refl [] w).alloc _⟩
  · rw [cell_new]; rfl
  · rw [cell_new]; rfl
  · rw [cell_new]; rfl

/-- A number with a sign as one without. -/
def toU64 (n : Int) : Nat := (n % 18446744073709551616).toNat
def wN8 (s : List UInt8 × Int) (l : List Int) : List UInt8 × Int := wPut s (l.flatMap fun n => toBE (toU64 n) 8)

theorem wN8_take_succ (s : List UInt8 × Int) (l : List Int) (k : Nat) (h : k < l.length) : wN8 s (l.take (k + 1)) = wPut (wN8 s (l.take k)) (toBE (toU64 l[k]) 8) := by
  unfold wN8
  rw [List.take_succ_eq_append_getElem h, wPut_wPut]
  simp only [List.flatMap_append, List.flatMap_cons, List.flatMap_nil, List.append_nil]

theorem wN8_len (s : List UInt8 × Int) (l : List Int) : (wN8 s l).1.length ≤ s.1.length + 8 * l.length := by
  have h1 := wPut_len s (l.flatMap fun n => toBE (toU64 n) 8)
  have h2 : (l.flatMap fun n => toBE (toU64 n) 8).length = 8 * l.length := by
    induction l with
    | nil => rfl
    | cons n l ih =>
      rw [List.flatMap_cons, List.length_append, toBE_length, List.length_cons]
      have := ih (wPut_len s _)
      omega
  unfold wN8
  omega

end Go.Proofs.Ytmghmmkjcgopaaa