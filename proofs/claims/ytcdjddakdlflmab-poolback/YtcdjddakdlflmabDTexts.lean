/-
  The contracts of texts and TypeText: types as text. The texts together are at most 2 to the power of 40 bytes.
-/
import Derived.Test.YtcdjddakdlflmabDBuild
import Derived.Test.YtcdjddakdlflmabDShelf
import Derived.Test.YtcdjddakdlflmabDRow
import Derived.Lib.Repeat
namespace Go.Proofs.Ytcdjddakdlflmab
open Go.RowKit

/-- A right type's text. -/
def tyText (t : Ty) : List UInt8 := List.replicate t.1.toNat 91 ++ (if t.2 = [] then [73] else 76 :: (t.2 ++ [59]))
def tyTexts : List Ty → List UInt8
  | [] => []
  | t :: l => tyText t ++ tyTexts l

theorem tyTexts_append (a b : List Ty) : tyTexts (a ++ b) = tyTexts a ++ tyTexts b := by
  induction a with
  | nil => rfl
  | cons t l ih => simp [tyTexts, ih]

/-- A type that a text may be made of. -/
def Fit (t : Ty) : Prop := 0 ≤ t.1 ∧ t.1 ≤ 8 ∧ t.2.length ≤ 32

theorem fit_len {t : Ty} (h : Fit t) : (tyText t).length ≤ 42 := by
  obtain ⟨h1, h2, h3⟩ := h
  unfold tyText
  split
  · simp
    omega
  · simp
    omega

theorem fits_len (l : List Ty) (h : ∀ t ∈ l, Fit t) : (tyTexts l).length ≤ 42 * l.length := by
  induction l with
  | nil => simp [tyTexts]
  | cons t l ih =>
    have h1 := fit_len (h t (by simp))
    have h2 := ih fun x hx => h x (by simp [hx])
    simp [tyTexts]
    omega

theorem repeat_one (c : UInt8) (n : Nat) : Lib.repeatL [c] n = List.replicate n c := by
  induction n with
  | zero => rfl
  | succ n ih => simp [Lib.repeatL, ih, List.replicate_succ]

theorem below_only {w w' : World} (h : Below w.heap.size w w') : Only [] w w' := ⟨h.os, h.tape, h.output, h.size, fun k hk _ => h.block k hk⟩

theorem bu_below {B b : Nat} {l : List UInt8} {w w' : World} (h : Bu B b l w) (hb : Below w.heap.size w w') : Bu B b l w' := by
  have hg : w.grownBy w' none := ⟨hb.os, hb.tape, hb.output, hb.size, fun k hk _ => hb.block k hk⟩
  rcases h with ⟨h1, v, h2, h3, h4⟩ | ⟨h1, v, h2, h3, h4⟩
  · exact .inl ⟨h1, v, by rw [hb.block b (Array.getElem?_eq_some_iff.1 h2).1]; exact h2, h3.kept hg (by cases hv : v.ownBlock <;> simp), h4⟩
  · exact .inr ⟨h1, v, by rw [hb.block b (Array.getElem?_eq_some_iff.1 h2).1]; exact h2, h3.kept hg (by cases hv : v.ownBlock <;> simp), h4⟩

theorem run_cat (x y : List UInt8) (h : x.length + y.length ≤ 9223372036854775807) (w : World) : (Op.stringOp .add (str x) (str y)).run Try.prog w = .ok (.string (str (x ++ y))) w := by
  rw [run_string_add_sum w _ _ (by rw [str_size, str_size]; exact h)]
  simp [str, ByteArray.mk_append_mk]

theorem rep_any (n : Nat) (hn : n ≤ 8) (w : World) : Calls Try.prog 59 #[.string ⟨#[91]⟩, .int .i64 (n : Int)] w fun e w' => e = .returned (.string (str (List.replicate n 91))) ∧ Below w.heap.size w w' := by
  refine (Try.strings_Repeat ⟨#[91]⟩ n w (by omega) (by rw [show (⟨#[91]⟩ : ByteArray).size = 1 from rfl]; omega)).mono ?_
  rintro e w' ⟨rfl, hb⟩
  refine ⟨?_, hb⟩
  rw [show (⟨#[91]⟩ : ByteArray).data.toList = [91] from rfl, repeat_one]
  rfl

set_option maxHeartbeats 400000 in
set_option maxRecDepth 100000 in
theorem texts_any {w : World} {ao : Option Addr} {l : List Ty} {d cap : Nat} (hT : TS w ao l d) (hF : ∀ t ∈ l, Fit t) (hl : l.length ≤ 1000000) :
    Calls Try.prog 51 #[.slice ao l.length cap] w fun e w' => e = .returned (.string (str (tyTexts l))) ∧ Only [] w w' := by
  have hB0 : Bu w.heap.size w.heap.size [] (w.alloc (.cells #[.pointer none, .slice none 0 0] 102)) := Lib.IsBuilderF.of (Lib.fresh_isBuilder _ _ w)
  have hb0 : Below w.heap.size w (w.alloc (.cells #[.pointer none, .slice none 0 0] 102)) := (Below.refl _ w).alloc (Nat.le_refl _) _
  go_enter Try.func51, Try.ntmps51
  go_wp2
  go_loopw [8] (fun i wr => ∃ k : Nat, k ≤ l.length ∧ i = .int .i64 (k : Int) ∧ Bu w.heap.size w.heap.size (tyTexts (l.take k)) wr ∧ Below w.heap.size w wr) (fun i _ => l.length - (intOf i).toNat)
  case atStart => exact ⟨0, by omega, rfl, hB0, hb0⟩
  case round =>
    obtain ⟨k, hk, rfl, hBu, hbl⟩ := hrel
    by_cases hlt : k < l.length
    · have g2 : ((k : Int) < (l.length : Int)) := by omega
      have hne : l ≠ [] := by intro e; simp [e] at hlt
      rcases hT.only (below_only hbl) (by simp) with h | ⟨off, rfl, hc⟩
      · exact absurd h hne
      have hft := hF l[k] (List.getElem_mem hlt)
      obtain ⟨c0, c1⟩ := hc k hlt
      clear hc
      have htk : tyTexts (l.take (k + 1)) = tyTexts (l.take k) ++ tyText l[k] := by
        rw [List.take_succ_eq_append_getElem hlt, tyTexts_append]
        simp [tyTexts]
      have hlen := fits_len (l.take k) fun t ht => hF t (List.mem_of_mem_take ht)
      have hlen2 : (l.take k).length ≤ 1000000 := by simp; omega
      generalize l[k] = t at *
      obtain ⟨td, nm⟩ := t
      obtain ⟨f1, f2, f3⟩ := hft
      obtain ⟨dn, rfl⟩ : ∃ dn : Nat, td = (dn : Int) := ⟨td.toNat, by simp at f1; omega⟩
      simp only [] at f1 f2 f3 c0 c1
      have hszr := hbl.size
      have hA : Below wr.heap.size wr (wr.alloc (.cells #[.int .i64 (dn : Int), .string (str nm)] 31)) := (Below.refl _ wr).alloc (Nat.le_refl _) _
      have hobj : (wr.alloc (.cells #[.int .i64 (dn : Int), .string (str nm)] 31)).heap[wr.heap.size]? = some (.cells #[.int .i64 (dn : Int), .string (str nm)] 31 (0, 0)) := Go.heap_alloc_new wr _
      have hszA : (wr.alloc (.cells #[.int .i64 (dn : Int), .string (str nm)] 31)).heap.size = wr.heap.size + 1 := by simp
      have HR := hid (rep_any dn (by omega) (wr.alloc (.cells #[.int .i64 (dn : Int), .string (str nm)] 31)))
      have htn := str_toList nm
      go_wp2_with fail
      refine HR.out.mono ?_
      rintro e w2 ⟨rfl, hb2⟩
      have hBu2 := bu_below (bu_below hBu hA) hb2
      have hsz2 := hb2.size
      rw [hszA] at hsz2
      have hobj2 : w2.heap[wr.heap.size]? = some (.cells #[.int .i64 (dn : Int), .string (str nm)] 31 (0, 0)) := by
        rw [hb2.block _ (by rw [hszA]; omega)]
        exact hobj
      have HW := hid (write_any hBu2 (List.replicate dn 91) (by simp; omega) (by omega))
      go_wp2_with fail
      refine HW.out.mono ?_
      rintro e w3 ⟨rfl, hat3, hb3, hk3⟩
      have hbt := hBu2
      have hneb : some wr.heap.size ≠ some w.heap.size := by
        have := hb0.size
        rcases hBu with q | q
        · have := q.lt
          simp
          omega
        · have := q.lt
          simp
          omega
      have hobj3 := hk3 _ _ hobj2 hneb (by intro c fz h; cases h)
      have y1 : w3.cell? ⟨wr.heap.size, 1, none⟩ = some (.string (str nm)) := by rw [Lib.cell_of_heap hobj3]; rfl
      have hsz3 := hb3.size
      have hbl3 : Below w.heap.size w w3 := ((hbl.alloc hszr _).trans ((hb2.mono (by rw [hszA]; omega)))).trans hb3
      have hl3 : (tyTexts (l.take k) ++ List.replicate dn 91).length ≤ 42000008 := by simp; omega
      by_cases hz : nm = []
      · subst hz
        have HB := writeByte_any (.inr hat3) 73 (by omega) (by omega)
        rw [show ((73 : UInt8).toNat : Int) = 73 from rfl] at HB
        have HB := hid HB
        go_wp2_with (go_at_call 60; refine HB.out.mono ?_; rintro e w4 ⟨rfl, hat4, hb4, hk4⟩)
        refine ⟨⟨k + 1, by omega, by go_num, ?_, hbl3.trans hb4⟩, by simp [intOf]; omega⟩
        rw [htk]
        have e1 : tyTexts (l.take k) ++ tyText ((dn : Int), []) = tyTexts (l.take k) ++ List.replicate dn 91 ++ [73] := by simp [tyText]
        rw [e1]
        exact .inr hat4
      · have hzi : nm.isEmpty = false := by simpa using hz
        have k1 : ∀ w, (Op.stringOp .add ⟨#[76]⟩ (str nm)).run Try.prog w = .ok (.string (str (76 :: nm))) w := fun w => run_cat [76] nm (by simp; omega) w
        have k2 : ∀ w, (Op.stringOp .add (str (76 :: nm)) ⟨#[59]⟩).run Try.prog w = .ok (.string (str (76 :: (nm ++ [59])))) w := fun w => run_cat (76 :: nm) [59] (by simp; omega) w
        have HB := hid (write_any (.inr hat3) (76 :: (nm ++ [59])) (by simp at hl3 ⊢; omega) (by omega))
        go_wp2_with (go_at_call 58; refine HB.out.mono ?_; rintro e w4 ⟨rfl, hat4, hb4, hk4⟩)
        refine ⟨⟨k + 1, by omega, by go_num, ?_, hbl3.trans hb4⟩, by simp [intOf]; omega⟩
        rw [htk]
        have e1 : tyTexts (l.take k) ++ tyText ((dn : Int), nm) = tyTexts (l.take k) ++ List.replicate dn 91 ++ (76 :: (nm ++ [59])) := by simp [tyText, hz]
        rw [e1]
        exact .inr hat4
    · have g2 : ¬ ((k : Int) < (l.length : Int)) := by omega
      obtain rfl : k = l.length := by omega
      rw [List.take_of_length_le (Nat.le_refl _)] at hBu
      have HS := Try.Builder_String_any_k _ _ _ _ hBu hbl.size
      have HS := hid HS
      go_wp2_with (go_at_call 61; refine HS.out.mono ?_; rintro e w2 ⟨rfl, _, hb2, _⟩)
      go_ret
      exact ⟨rfl, below_only (hbl.trans hb2)⟩

end Go.Proofs.Ytcdjddakdlflmab
