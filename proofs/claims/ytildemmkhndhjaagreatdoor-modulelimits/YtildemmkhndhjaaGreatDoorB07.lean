/-
  What the proof leans on, part 7 of 23. The conditions stand in each theorem.
-/
import Derived.Test.YtildemmkhndhjaaGreatDoorB06
import Derived.Test.YtildemmkhndhjaaGreatDoorB02
import Derived.Lib.Repeat
import Derived.Test.YtildemmkhndhjaaGreatDoorB03
import Derived.Laws.AppendOwnNone
namespace Go.Proofs.YtildemmkhndhjaaGreatDoor
open Go.RowKit

/-- A right type's text. -/
def tyText (t : Ty) : List UInt8 := List.replicate t.1.toNat 91 ++ (if t.2 = [] then [73] else 76 :: (t.2 ++ [59]))
def tyTexts : List Ty → List UInt8
  | [] => []
  | t :: l => tyText t ++ tyTexts l

theorem tyTexts_append (a b : List Ty) : tyTexts (a ++ b) = tyTexts a ++ tyTexts b := by
  induction a with
  | nil => rfl
  | cons t l ih => simp [tyTexts, ih]

/-- A type that a text may be made of. -/
def Fit (t : Ty) : Prop := 0 ≤ t.1 ∧ t.1 ≤ 8 ∧ t.2.length ≤ 32

theorem fit_len {t : Ty} (h : Fit t) : (tyText t).length ≤ 42 := by
  obtain ⟨h1, h2, h3⟩ := h
  unfold tyText
  split
  · simp
    omega
  · simp
    omega

theorem fits_len (l : List Ty) (h : ∀ t ∈ l, Fit t) : (tyTexts l).length ≤ 42 * l.length := by
  induction l with
  | nil => simp [tyTexts]
  | cons t l ih =>
    have h1 := fit_len (h t (by simp))
    have h2 := ih fun x hx => h x (by simp [hx])
    simp [tyTexts]
    omega

theorem repeat_one (c : UInt8) (n : Nat) : Lib.repeatL [c] n = List.replicate n c := by
  induction n with
  | zero => rfl
  | succ n ih => simp [Lib.repeatL, ih, List.replicate_succ]

theorem below_only {w w' : World} (h : Below w.heap.size w w') : Only [] w w' := ⟨h.os, h.tape, h.output, h.size, fun k hk _ => h.block k hk⟩

theorem bu_below {B b : Nat} {l : List UInt8} {w w' : World} (h : Bu B b l w) (hb : Below w.heap.size w w') : Bu B b l w' := by
  have hg : w.grownBy w' none := ⟨hb.os, hb.tape, hb.output, hb.size, fun k hk _ => hb.block k hk⟩
  rcases h with ⟨h1, v, h2, h3, h4⟩ | ⟨h1, v, h2, h3, h4⟩
  · exact .inl ⟨h1, v, by rw [hb.block b (Array.getElem?_eq_some_iff.1 h2).1]; exact h2, h3.kept hg (by cases hv : v.ownBlock <;> simp), h4⟩
  · exact .inr ⟨h1, v, by rw [hb.block b (Array.getElem?_eq_some_iff.1 h2).1]; exact h2, h3.kept hg (by cases hv : v.ownBlock <;> simp), h4⟩

theorem run_cat (x y : List UInt8) (h : x.length + y.length ≤ 9223372036854775807) (w : World) : (Op.stringOp .add (str x) (str y)).run Tryz.prog w = .ok (.string (str (x ++ y))) w := by
  rw [run_string_add_sum w _ _ (by rw [str_size, str_size]; exact h)]
  simp [str, ByteArray.mk_append_mk]

theorem rep_any (n : Nat) (hn : n ≤ 8) (w : World) : Calls Tryz.prog 188 #[.string ⟨#[91]⟩, .int .i64 (n : Int)] w fun e w' => e = .returned (.string (str (List.replicate n 91))) ∧ Below w.heap.size w w' := by
  refine (Tryz.strings_Repeat ⟨#[91]⟩ n w (by omega) (by rw [show (⟨#[91]⟩ : ByteArray).size = 1 from rfl]; omega)).mono ?_
  rintro e w' ⟨rfl, hb⟩
  refine ⟨?_, hb⟩
  rw [show (⟨#[91]⟩ : ByteArray).data.toList = [91] from rfl, repeat_one]
  rfl

set_option maxHeartbeats 400000 in
set_option maxRecDepth 100000 in
theorem texts_any {w : World} {ao : Option Addr} {l : List Ty} {d cap : Nat} (hT : TS w ao l d) (hF : ∀ t ∈ l, Fit t) (hl : l.length ≤ 1000000) :
    Calls Tryz.prog 166 #[.slice ao l.length cap] w fun e w' => e = .returned (.string (str (tyTexts l))) ∧ Only [] w w' := by
  have hB0 : Bu w.heap.size w.heap.size [] (w.alloc (.cells #[.pointer none, .slice none 0 0] 270)) := Lib.IsBuilderF.of (Lib.fresh_isBuilder _ _ w)
  have hb0 : Below w.heap.size w (w.alloc (.cells #[.pointer none, .slice none 0 0] 270)) := (Below.refl _ w).alloc (Nat.le_refl _) _
  go_enter Tryz.func166, Tryz.ntmps166
  go_wp2
  go_loopw [8] (fun i wr => ∃ k : Nat, k ≤ l.length ∧ i = .int .i64 (k : Int) ∧ Bu w.heap.size w.heap.size (tyTexts (l.take k)) wr ∧ Below w.heap.size w wr) (fun i _ => l.length - (intOf i).toNat)
  case atStart => exact ⟨0, by omega, rfl, hB0, hb0⟩
  case round =>
    obtain ⟨k, hk, rfl, hBu, hbl⟩ := hrel
    by_cases hlt : k < l.length
    · have g2 : ((k : Int) < (l.length : Int)) := by omega
      have hne : l ≠ [] := by intro e; simp [e] at hlt
      rcases hT.only (below_only hbl) (by simp) with h | ⟨off, rfl, hc⟩
      · exact absurd h hne
      have hft := hF l[k] (List.getElem_mem hlt)
      obtain ⟨c0, c1⟩ := hc k hlt
      clear hc
      have htk : tyTexts (l.take (k + 1)) = tyTexts (l.take k) ++ tyText l[k] := by
        rw [List.take_succ_eq_append_getElem hlt, tyTexts_append]
        simp [tyTexts]
      have hlen := fits_len (l.take k) fun t ht => hF t (List.mem_of_mem_take ht)
      have hlen2 : (l.take k).length ≤ 1000000 := by simp; omega
      generalize l[k] = t at *
      obtain ⟨td, nm⟩ := t
      obtain ⟨f1, f2, f3⟩ := hft
      obtain ⟨dn, rfl⟩ : ∃ dn : Nat, td = (dn : Int) := ⟨td.toNat, by simp at f1; omega⟩
      simp only [] at f1 f2 f3 c0 c1
      have hszr := hbl.size
      have hA : Below wr.heap.size wr (wr.alloc (.cells #[.int .i64 (dn : Int), .string (str nm)] 35)) := (Below.refl _ wr).alloc (Nat.le_refl _) _
      have hobj : (wr.alloc (.cells #[.int .i64 (dn : Int), .string (str nm)] 35)).heap[wr.heap.size]? = some (.cells #[.int .i64 (dn : Int), .string (str nm)] 35 (0, 0)) := Go.heap_alloc_new wr _
      have hszA : (wr.alloc (.cells #[.int .i64 (dn : Int), .string (str nm)] 35)).heap.size = wr.heap.size + 1 := by simp
      have HR := hid (rep_any dn (by omega) (wr.alloc (.cells #[.int .i64 (dn : Int), .string (str nm)] 35)))
      have htn := str_toList nm
      go_wp2_with fail
      refine HR.out.mono ?_
      rintro e w2 ⟨rfl, hb2⟩
      have hBu2 := bu_below (bu_below hBu hA) hb2
      have hsz2 := hb2.size
      rw [hszA] at hsz2
      have hobj2 : w2.heap[wr.heap.size]? = some (.cells #[.int .i64 (dn : Int), .string (str nm)] 35 (0, 0)) := by
        rw [hb2.block _ (by rw [hszA]; omega)]
        exact hobj
      have HW := hid (write_any hBu2 (List.replicate dn 91) (by simp; omega) (by omega))
      go_wp2_with fail
      refine HW.out.mono ?_
      rintro e w3 ⟨rfl, hat3, hb3, hk3⟩
      have hbt := hBu2
      have hneb : some wr.heap.size ≠ some w.heap.size := by
        have := hb0.size
        rcases hBu with q | q
        · have := q.lt
          simp
          omega
        · have := q.lt
          simp
          omega
      have hobj3 := hk3 _ _ hobj2 hneb (by intro c fz h; cases h)
      have y1 : w3.cell? ⟨wr.heap.size, 1, none⟩ = some (.string (str nm)) := by rw [Lib.cell_of_heap hobj3]; rfl
      have hsz3 := hb3.size
      have hbl3 : Below w.heap.size w w3 := ((hbl.alloc hszr _).trans ((hb2.mono (by rw [hszA]; omega)))).trans hb3
      have hl3 : (tyTexts (l.take k) ++ List.replicate dn 91).length ≤ 42000008 := by simp; omega
      by_cases hz : nm = []
      · subst hz
        have HB := writeByte_any (.inr hat3) 73 (by omega) (by omega)
        rw [show ((73 : UInt8).toNat : Int) = 73 from rfl] at HB
        have HB := hid HB
        go_wp2_with (go_at_call 189; refine HB.out.mono ?_; rintro e w4 ⟨rfl, hat4, hb4, hk4⟩)
        refine ⟨⟨k + 1, by omega, by go_num, ?_, hbl3.trans hb4⟩, by simp [intOf]; omega⟩
        rw [htk]
        have e1 : tyTexts (l.take k) ++ tyText ((dn : Int), []) = tyTexts (l.take k) ++ List.replicate dn 91 ++ [73] := by simp [tyText]
        rw [e1]
        exact .inr hat4
      · have hzi : nm.isEmpty = false := by simpa using hz
        have k1 : ∀ w, (Op.stringOp .add ⟨#[76]⟩ (str nm)).run Tryz.prog w = .ok (.string (str (76 :: nm))) w := fun w => run_cat [76] nm (by simp; omega) w
        have k2 : ∀ w, (Op.stringOp .add (str (76 :: nm)) ⟨#[59]⟩).run Tryz.prog w = .ok (.string (str (76 :: (nm ++ [59])))) w := fun w => run_cat (76 :: nm) [59] (by simp; omega) w
        have HB := hid (write_any (.inr hat3) (76 :: (nm ++ [59])) (by simp at hl3 ⊢; omega) (by omega))
        go_wp2_with (go_at_call 187; refine HB.out.mono ?_; rintro e w4 ⟨rfl, hat4, hb4, hk4⟩)
        refine ⟨⟨k + 1, by omega, by go_num, ?_, hbl3.trans hb4⟩, by simp [intOf]; omega⟩
        rw [htk]
        have e1 : tyTexts (l.take k) ++ tyText ((dn : Int), nm) = tyTexts (l.take k) ++ List.replicate dn 91 ++ (76 :: (nm ++ [59])) := by simp [tyText, hz]
        rw [e1]
        exact .inr hat4
    · have g2 : ¬ ((k : Int) < (l.length : Int)) := by omega
      obtain rfl : k = l.length := by omega
      rw [List.take_of_length_le (Nat.le_refl _)] at hBu
      have HS := Tryz.Builder_String_any_k _ _ _ _ hBu hbl.size
      have HS := hid HS
      go_wp2_with (go_at_call 190; refine HS.out.mono ?_; rintro e w2 ⟨rfl, _, hb2, _⟩)
      go_ret
      exact ⟨rfl, below_only (hbl.trans hb2)⟩

end Go.Proofs.YtildemmkhndhjaaGreatDoor
namespace Go.Proofs.YtildemmkhndhjaaGreatDoor
open Go.RowKit

/-- A type's text, if it is one. -/
def ttR (t : Ty) : List UInt8 := if tyCheck t = 0 then tyText t else []

theorem name_len {n : List UInt8} (h : nameOK n = true) : n.length ≤ 32 := by
  unfold nameOK at h
  simp at h
  omega

theorem check_fit {t : Ty} (h : tyCheck t = 0) : Fit t := by
  obtain ⟨d, n⟩ := t
  obtain ⟨h1, h2⟩ := check_bounds h
  refine ⟨h1, h2, ?_⟩
  simp only [tyCheck] at h
  split at h
  · omega
  · split at h
    · omega
    · rename_i h4
      by_cases hz : n = []
      · subst hz
        simp
      · have : nameOK n = true := by
          cases hn : nameOK n with
          | true => rfl
          | false => exact absurd ⟨hz, hn⟩ h4
        exact name_len this

/-- A block that holds one type is a row of one type. -/
theorem ts_one (w : World) (t : Ty) (u : TypeId) : TS (w.alloc (.cells #[.int .i64 t.1, .string (str t.2)] u)) (some ⟨w.heap.size, 0, none⟩) [t] w.heap.size := by
  refine .inr ⟨0, rfl, fun j hj => ?_⟩
  have : j = 0 := by simp at hj; omega
  subst this
  exact ⟨by rw [cell_new]; rfl, by rw [cell_new]; rfl⟩

set_option maxHeartbeats 400000 in
set_option maxRecDepth 100000 in
theorem typeText_any (t : Ty) (hl : t.2.length ≤ 9223372036854775807) (w : World) : Calls Tryz.prog 174 #[tyV t] w fun e w' => e = .returned (.tuple #[.string (str (ttR t)), .int .i64 (tyCheck t)]) ∧ Only [] w w' := by
  obtain ⟨d, n⟩ := t
  have ho := (Only.refl [] w).alloc (.cells #[.int .i64 d, .string (str n)] 35)
  have HC := hid (check_any (d, n) hl (w.alloc (.cells #[.int .i64 d, .string (str n)] 35)))
  by_cases h : tyCheck (d, n) = 0
  · have hf := check_fit h
    have e1 : ttR (d, n) = tyText (d, n) := by simp [ttR, h]
    rw [e1, h]
    rw [h] at HC
    simp only [tyV] at HC ⊢
    go_enter Tryz.func174, Tryz.ntmps174
    go_wp2_with fail
    refine HC.out.mono ?_
    rintro e w1 ⟨rfl, ho1⟩
    have c0 : w1.cell? ⟨w.heap.size, 0, none⟩ = some (.int .i64 d) := by rw [ho1.cell (by simp) (by simp), cell_new]; rfl
    have c1 : w1.cell? ⟨w.heap.size, 1, none⟩ = some (.string (str n)) := by rw [ho1.cell (by simp) (by simp), cell_new]; rfl
    have HT := texts_any (cap := 1) (ts_one w1 (d, n) 35) (by intro t ht; simp at ht; subst ht; exact hf) (by simp)
    simp only [tyTexts, List.append_nil, List.length_cons, List.length_nil] at HT
    have HT := hid HT
    go_wp2_with fail
    refine HT.out.mono ?_
    rintro e w2 ⟨rfl, ho2⟩
    go_wp2
    go_ret2
    exact ⟨rfl, ((ho.next ho1 (by simp)).alloc _).next ho2 (by simp)⟩
  · have hne : ¬ (tyCheck (d, n) = 0) := h
    have e1 : ttR (d, n) = [] := by simp [ttR, h]
    rw [e1]
    generalize tyCheck (d, n) = e at *
    simp only [tyV] at HC ⊢
    go_enter Tryz.func174, Tryz.ntmps174
    go_wp2_with fail
    refine HC.out.mono ?_
    rintro e w1 ⟨rfl, ho1⟩
    go_wp2
    go_ret2
    exact ⟨rfl, ho.next ho1 (by simp)⟩

end Go.Proofs.YtildemmkhndhjaaGreatDoor
namespace Go.Proofs.YtildemmkhndhjaaGreatDoor
open Go.RowKit

/-- The first thing that is wrong with types in a row. -/
def checkAll : List Ty → Int
  | [] => 0
  | t :: l => if tyCheck t = 0 then checkAll l else tyCheck t

/-- What is wrong with a signature. -/
def sigCheck (l : List Ty) (void : Bool) (t : Ty) : Int := if 16 < l.length then 4 else if checkAll l = 0 then (if void = true ∧ t ≠ (0, []) then 1 else tyCheck t) else checkAll l

theorem checkAll_ok (l : List Ty) : checkAll l = 0 ↔ ∀ t ∈ l, tyCheck t = 0 := by
  induction l with
  | nil => simp [checkAll]
  | cons t l ih =>
    unfold checkAll
    split
    · rename_i h
      simp [ih, h]
    · rename_i h
      simp [h]

theorem checkAll_at (l : List Ty) (k : Nat) (hk : k < l.length) (h0 : ∀ j (hj : j < k), tyCheck (l[j]'(by omega)) = 0) (h1 : tyCheck l[k] ≠ 0) : checkAll l = tyCheck l[k] := by
  induction l generalizing k with
  | nil => simp at hk
  | cons t l ih =>
    cases k with
    | zero =>
      simp at h1 ⊢
      simp [checkAll, h1]
    | succ k =>
      have := h0 0 (by omega)
      simp at this
      rw [checkAll, if_pos this]
      simpa using ih k (by simpa using hk) (fun j hj => by simpa using h0 (j + 1) (by omega)) (by simpa using h1)

set_option maxHeartbeats 400000 in
set_option maxRecDepth 100000 in
theorem checkSig_any {w : World} {ao : Option Addr} {l : List Ty} {d cap : Nat} (hT : TS w ao l d) (hl : l.length ≤ 9223372036854775807) (hA : ∀ t ∈ l, t.2.length ≤ 9223372036854775807) (void : Bool) (t : Ty) (ht : t.2.length ≤ 9223372036854775807) :
    Calls Tryz.prog 165 #[sigV (.slice ao l.length cap) void t] w fun e w' => e = .returned (.int .i64 (sigCheck l void t)) ∧ Only [] w w' := by
  obtain ⟨td, tn⟩ := t
  simp only [sigV]
  by_cases h16 : 16 < l.length
  · have g1 : (16 < (l.length : Int)) := by omega
    have e1 : sigCheck l void (td, tn) = 4 := by simp [sigCheck, h16]
    rw [e1]
    go_enter Tryz.func165, Tryz.ntmps165
    go_wp2
    go_ret
    exact ⟨rfl, (Only.refl [] w).alloc _⟩
  · have g1 : ¬ (16 < (l.length : Int)) := by omega
    go_enter Tryz.func165, Tryz.ntmps165
    go_wp2
    go_loopw [13] (fun i wr => ∃ k : Nat, k ≤ l.length ∧ i = .int .i64 (k : Int) ∧ (∀ j (hj : j < l.length), j < k → tyCheck l[j] = 0) ∧ Only [] (w.alloc (.cells #[.slice ao l.length cap, .bool void, .int .i64 td, .string (str tn)] 37)) wr) (fun i _ => l.length - (intOf i).toNat)
    case atStart => exact ⟨0, by omega, rfl, fun j _ h => by omega, Only.refl _ _⟩
    case round =>
      obtain ⟨k, hk, rfl, hok, hor⟩ := hrel
      have ho0 := (Only.refl [] w).alloc (.cells #[.slice ao l.length cap, .bool void, .int .i64 td, .string (str tn)] 37)
      have hon := ho0.next hor (by simp)
      have c1 : wr.cell? ⟨w.heap.size, 1, none⟩ = some (.bool void) := by rw [hor.cell (by simp) (by simp), cell_new]; rfl
      have c2 : wr.cell? ⟨w.heap.size, 2, none⟩ = some (.int .i64 td) := by rw [hor.cell (by simp) (by simp), cell_new]; rfl
      have c3 : wr.cell? ⟨w.heap.size, 3, none⟩ = some (.string (str tn)) := by rw [hor.cell (by simp) (by simp), cell_new]; rfl
      by_cases hlt : k < l.length
      · have g2 : ((k : Int) < (l.length : Int)) := by omega
        have hne : l ≠ [] := by intro e; simp [e] at hlt
        rcases hT.only hon (by simp) with h | ⟨off, rfl, hc⟩
        · exact absurd h hne
        obtain ⟨y0, y1⟩ := hc k hlt
        clear hc
        have hat := fun (h : tyCheck l[k] ≠ 0) => checkAll_at l k hlt (fun j hj => hok j (by omega) hj) h
        have hnx : tyCheck l[k] = 0 → ∀ j (hj : j < l.length), j < k + 1 → tyCheck l[j] = 0 := by
          intro h0 j hj hjk
          by_cases e : j = k
          · subst e
            exact h0
          · exact hok j hj (by omega)
        have hln := hA l[k] (List.getElem_mem hlt)
        generalize l[k] = t at *
        obtain ⟨d0, nm⟩ := t
        clear hok
        have HC := check_any (d0, nm) hln (wr.alloc (.cells #[.int .i64 d0, .string (str nm)] 35))
        by_cases hz : tyCheck (d0, nm) = 0
        · rw [hz] at HC
          simp only [tyV] at HC y0 y1
          have HC := hid HC
          have hnx := hid (hnx hz)
          clear hat hz
          go_wp2_with (go_at_call 117; refine HC.out.mono ?_; rintro e w2 ⟨rfl, ho2⟩)
          exact ⟨⟨k + 1, by omega, by go_num, hnx.out, (hor.alloc _).next ho2 (by simp)⟩, by simp [intOf]; omega⟩
        · have hat := hat hz
          have e1 : Hid (sigCheck l void (td, tn) = tyCheck (d0, nm)) := by
            unfold Hid sigCheck
            rw [if_neg h16, hat, if_neg hz]
          clear hat hnx
          generalize tyCheck (d0, nm) = c at *
          simp only [tyV] at HC y0 y1
          have HC := hid HC
          go_wp2_with (go_at_call 117; refine HC.out.mono ?_; rintro e w2 ⟨rfl, ho2⟩)
          go_ret
          exact ⟨by rw [e1.out]; rfl, (hon.alloc _).next ho2 (by simp)⟩
      · have g2 : ¬ ((k : Int) < (l.length : Int)) := by omega
        obtain rfl : k = l.length := by omega
        have hall : checkAll l = 0 := (checkAll_ok l).2 fun t ht => by
          obtain ⟨j, hj, rfl⟩ := List.getElem_of_mem ht
          exact hok j hj hj
        clear hok
        have hq := neq_type (td, tn) (0, [])
        rw [ty_zero] at hq
        simp only [tyV] at hq
        have HC := check_any (td, tn) ht wr
        simp only [tyV] at HC
        have HC := hid HC
        by_cases hz : (td, tn) = (((0 : Int), []) : Ty)
        · have e1 : Hid (sigCheck l void (td, tn) = tyCheck (td, tn)) := by
            unfold Hid sigCheck
            rw [if_neg h16, if_pos hall, if_neg (by simp [hz])]
          simp only [hz, decide_true, Bool.not_true] at hq
          clear hz hall
          cases void
          · go_wp2_with (go_at_call 117; refine HC.out.mono ?_; rintro e w2 ⟨rfl, ho2⟩)
            go_ret
            exact ⟨by rw [e1.out]; rfl, hon.next ho2 (by simp)⟩
          · go_wp2_with (go_at_call 117; refine HC.out.mono ?_; rintro e w2 ⟨rfl, ho2⟩)
            go_ret
            exact ⟨by rw [e1.out]; rfl, hon.next ho2 (by simp)⟩
        · have e1 : Hid (sigCheck l void (td, tn) = if void = true then 1 else tyCheck (td, tn)) := by
            unfold Hid sigCheck
            rw [if_neg h16, if_pos hall]
            simp [hz]
          simp only [hz, decide_false, Bool.not_false] at hq
          clear hz hall
          cases void
          · go_wp2_with (go_at_call 117; refine HC.out.mono ?_; rintro e w2 ⟨rfl, ho2⟩)
            go_ret
            exact ⟨by rw [e1.out]; simp, hon.next ho2 (by simp)⟩
          · go_wp2
            go_ret
            exact ⟨by rw [e1.out]; simp, hon⟩

end Go.Proofs.YtildemmkhndhjaaGreatDoor
namespace Go.Proofs.YtildemmkhndhjaaGreatDoor
open Go.RowKit

/-- A right signature's text. -/
def sigText (l : List Ty) (void : Bool) (t : Ty) : List UInt8 := 40 :: (tyTexts l ++ 41 :: (if void = true then [86] else tyText t))
def stR (l : List Ty) (void : Bool) (t : Ty) : List UInt8 := if sigCheck l void t = 0 then sigText l void t else []

theorem sigCheck_ok {l : List Ty} {void : Bool} {t : Ty} (h : sigCheck l void t = 0) : l.length ≤ 16 ∧ (∀ x ∈ l, tyCheck x = 0) ∧ tyCheck t = 0 ∧ (void = true → t = (0, [])) := by
  unfold sigCheck at h
  split at h
  · omega
  · split at h
    · rename_i h1 h2
      split at h
      · omega
      · rename_i h3
        refine ⟨by omega, (checkAll_ok l).1 h2, h, fun hv => ?_⟩
        by_cases e : t = (0, [])
        · exact e
        · exact absurd ⟨hv, e⟩ h3
    · contradiction

set_option maxHeartbeats 400000 in
set_option maxRecDepth 100000 in
theorem sigText_any {w : World} {ao : Option Addr} {l : List Ty} {d cap : Nat} (hT : TS w ao l d) (hl : l.length ≤ 9223372036854775807) (hA : ∀ t ∈ l, t.2.length ≤ 9223372036854775807) (void : Bool) (t : Ty) (ht : t.2.length ≤ 9223372036854775807) :
    Calls Tryz.prog 120 #[sigV (.slice ao l.length cap) void t] w fun e w' => e = .returned (.tuple #[.string (str (stR l void t)), .int .i64 (sigCheck l void t)]) ∧ Only [] w w' := by
  have ho := (Only.refl [] w).alloc (.cells #[.slice ao l.length cap, .bool void, .int .i64 t.1, .string (str t.2)] 37)
  have HC := hid (checkSig_any (cap := cap) (hT.only ho (by simp)) hl hA void t ht)
  by_cases h : sigCheck l void t = 0
  · obtain ⟨h1, h2, h3, h4⟩ := sigCheck_ok h
    have e1 : stR l void t = sigText l void t := by simp [stR, h]
    have hlen := fits_len l fun x hx => check_fit (h2 x hx)
    have hlt := fit_len (check_fit h3)
    have hft := check_fit h3
    rw [e1, h]
    rw [h] at HC
    clear e1 h h3
    obtain ⟨td, tn⟩ := t
    cases void with
    | true =>
      clear h4
      simp only [sigV] at HC ⊢
      have e2 : Hid (sigText l true (td, tn) = 40 :: (tyTexts l ++ [41, 86])) := by simp [Hid, sigText]
      go_enter Tryz.func120, Tryz.ntmps120
      go_wp2_with fail
      refine HC.out.mono ?_
      rintro e w1 ⟨rfl, ho1⟩
      have c0 : w1.cell? ⟨w.heap.size, 0, none⟩ = some (.slice ao l.length cap) := by rw [ho1.cell (by simp) (by simp), cell_new]; rfl
      have c1 : w1.cell? ⟨w.heap.size, 1, none⟩ = some (.bool true) := by rw [ho1.cell (by simp) (by simp), cell_new]; rfl
      have o1 := ho.next ho1 (by simp)
      have HT := hid (texts_any (cap := cap) (hT.only o1 (by simp)) (fun x hx => check_fit (h2 x hx)) (by omega))
      go_wp2_with fail
      refine HT.out.mono ?_
      rintro e w2 ⟨rfl, ho2⟩
      generalize tyTexts l = u at *
      have k1 : ∀ w, (Op.stringOp .add ⟨#[40]⟩ (str u)).run Tryz.prog w = .ok (.string (str (40 :: u))) w := fun w => run_cat [40] u (by simp; omega) w
      have k2 : ∀ w, (Op.stringOp .add (str (40 :: u)) ⟨#[41]⟩).run Tryz.prog w = .ok (.string (str (40 :: (u ++ [41])))) w := fun w => run_cat (40 :: u) [41] (by simp; omega) w
      have k3 : ∀ w, (Op.stringOp .add (str (40 :: (u ++ [41]))) ⟨#[86]⟩).run Tryz.prog w = .ok (.string (str (40 :: (u ++ [41, 86])))) w := fun w => by
        have := run_cat (40 :: (u ++ [41])) [86] (by simp; omega) w
        simp only [List.cons_append, List.append_assoc, List.nil_append] at this
        exact this
      go_wp2
      go_ret2
      exact ⟨by rw [e2.out]; rfl, o1.next ho2 (by simp)⟩
    | false =>
      clear h4
      simp only [sigV] at HC ⊢
      have e2 : Hid (sigText l false (td, tn) = 40 :: (tyTexts l ++ 41 :: tyText (td, tn))) := by simp [Hid, sigText]
      go_enter Tryz.func120, Tryz.ntmps120
      go_wp2_with fail
      refine HC.out.mono ?_
      rintro e w1 ⟨rfl, ho1⟩
      have c0 : w1.cell? ⟨w.heap.size, 0, none⟩ = some (.slice ao l.length cap) := by rw [ho1.cell (by simp) (by simp), cell_new]; rfl
      have c1 : w1.cell? ⟨w.heap.size, 1, none⟩ = some (.bool false) := by rw [ho1.cell (by simp) (by simp), cell_new]; rfl
      have c2 : w1.cell? ⟨w.heap.size, 2, none⟩ = some (.int .i64 td) := by rw [ho1.cell (by simp) (by simp), cell_new]; rfl
      have c3 : w1.cell? ⟨w.heap.size, 3, none⟩ = some (.string (str tn)) := by rw [ho1.cell (by simp) (by simp), cell_new]; rfl
      have o1 := ho.next ho1 (by simp)
      have HR := texts_any (cap := 1) (ts_one w1 (td, tn) 35) (by intro t ht; simp at ht; subst ht; exact hft) (by simp)
      simp only [tyTexts, List.append_nil, List.length_cons, List.length_nil] at HR
      have HR := hid HR
      go_wp2_with fail
      refine HR.out.mono ?_
      rintro e w2 ⟨rfl, ho2⟩
      have o2 := (o1.alloc (.cells #[.int .i64 td, .string (str tn)] 35)).next ho2 (by simp)
      have c0 : w2.cell? ⟨w.heap.size, 0, none⟩ = some (.slice ao l.length cap) := by rw [ho2.cell (by have := World.block_lt_of_cell? _ _ c0; simp at this ⊢; omega) (by simp)]; exact cell_alloc _ c0
      clear c1 c2 c3
      have HT := hid (texts_any (cap := cap) (hT.only o2 (by simp)) (fun x hx => check_fit (h2 x hx)) (by omega))
      go_wp2_with fail
      refine HT.out.mono ?_
      rintro e w3 ⟨rfl, ho3⟩
      generalize tyTexts l = u at *
      generalize tyText (td, tn) = v at *
      have k1 : ∀ w, (Op.stringOp .add ⟨#[40]⟩ (str u)).run Tryz.prog w = .ok (.string (str (40 :: u))) w := fun w => run_cat [40] u (by simp; omega) w
      have k2 : ∀ w, (Op.stringOp .add (str (40 :: u)) ⟨#[41]⟩).run Tryz.prog w = .ok (.string (str (40 :: (u ++ [41])))) w := fun w => run_cat (40 :: u) [41] (by simp; omega) w
      have k3 : ∀ w, (Op.stringOp .add (str (40 :: (u ++ [41]))) (str v)).run Tryz.prog w = .ok (.string (str (40 :: (u ++ 41 :: v)))) w := fun w => by
        have := run_cat (40 :: (u ++ [41])) v (by simp; omega) w
        simp only [List.cons_append, List.append_assoc, List.nil_append] at this
        exact this
      go_wp2
      go_ret2
      exact ⟨by rw [e2.out]; rfl, o2.next ho3 (by simp)⟩
  · have e1 : stR l void t = [] := by simp [stR, h]
    rw [e1]
    obtain ⟨td, tn⟩ := t
    generalize sigCheck l void (td, tn) = c at *
    simp only [sigV] at HC ⊢
    go_enter Tryz.func120, Tryz.ntmps120
    go_wp2_with fail
    refine HC.out.mono ?_
    rintro e w1 ⟨rfl, ho1⟩
    go_wp2
    go_ret2
    exact ⟨rfl, ho.next ho1 (by simp)⟩

end Go.Proofs.YtildemmkhndhjaaGreatDoor
namespace Go.Proofs.YtildemmkhndhjaaGreatDoor
open Go.RowKit

/-- How much room an append asks for that grows. -/
theorem grow_le (need : Nat) : ∀ (k old : Nat), old ≤ need + need / 4 + 192 → Builtin.growBy need k old ≤ need + need / 4 + 192 := by
  intro k
  induction k with
  | zero =>
    intro old h
    exact h
  | succ k ih =>
    intro old h
    simp only [Builtin.growBy]
    split
    · exact h
    · exact ih _ (by omega)

theorem cap_fits {need old : Nat} (h : old < need) (hn : need ≤ 4398046511104) : Builtin.nextslicecap need old * 24 ≤ 281474976710656 := by
  have := grow_le need 4 old (by omega)
  unfold Builtin.nextslicecap
  split
  · omega
  · split
    · omega
    · omega

theorem info_typeT : ∃ i0, Tryz.prog.info? 35 = some i0 ∧ i0.zero = some (.agg #[.int .i64 0, .string ⟨#[]⟩]) ∧ i0.size = 2 ∧ i0.bytes = 24 := by
  have h := infoT
  cases hi : Tryz.prog.info? 35 with
  | none => rw [hi] at h; cases h
  | some i =>
    rw [hi] at h
    simp at h
    exact ⟨i, rfl, h.1, h.2.1, h.2.2⟩

/-- A new row that an append has made. -/
theorem own_fresh (w : World) (l : List Ty) (cap : Nat) (hc : l.length ≤ cap) (hm : cap ≤ maxLen) :
    (w.drew.alloc (.cells ((tcs l).toArray ++ Builtin.zeroCells (Value.agg #[.int .i64 0, .string ⟨#[]⟩]).cells (cap - l.length)) 35)).ownsRow w.heap.size 35 2 (.slice (some ⟨w.heap.size, 0, none⟩) l.length cap) l.length (tcs l) ∧
    w.grownBy (w.drew.alloc (.cells ((tcs l).toArray ++ Builtin.zeroCells (Value.agg #[.int .i64 0, .string ⟨#[]⟩]).cells (cap - l.length)) 35)) none := by
  refine ⟨⟨by rw [tcs_length], .inr ⟨w.heap.size, cap, _, rfl, Nat.le_refl _, Go.heap_alloc_new w.drew _, hc, hm, ?_, ?_⟩⟩, ⟨rfl, rfl, rfl, by simp, fun k hk _ => Below.heap_alloc w.drew _ k hk⟩⟩
  · rw [Array.size_append, size_zeroCells]
    have : (Value.agg #[.int .i64 0, .string ⟨#[]⟩]).cells.size = 2 := rfl
    rw [this]
    simp [tcs_length]
    omega
  · simp only [Array.toList_append]
    rw [← tcs_length]
    exact List.take_left

/-- append(out, l...), out the call's own. -/
theorem append_run {w : World} {B : Nat} {ao lao : Option Addr} {cap lcap d : Nat} {m l : List Ty} (ty : TypeId) (hown : Own w B (.slice ao m.length cap) m) (hb : TS w lao l d) (hl : lao = none → lcap = 0)
    (hsz : m.length + l.length ≤ 4398046511104) (hB : B ≤ w.heap.size) :
    ∃ ao' cap' w', (Builtin.append_ #[33, 33] ty #[.slice ao m.length cap, .slice lao l.length lcap]).run Tryz.prog w = .ok (.slice ao' (m ++ l).length cap') w' ∧ Own w' B (.slice ao' (m ++ l).length cap') (m ++ l) ∧
      w.grownBy w' (Value.ownBlock (.slice ao m.length cap)) ∧ (∀ a, ao' = some a → (∃ a', ao = some a' ∧ a'.block = a.block) ∨ w.heap.size ≤ a.block) ∧ (ao' = none → ao = none) := by
  obtain ⟨i0, hi, hz0, hz1, hz2⟩ := info_typeT
  have hmax : m.length + l.length ≤ maxLen := by unfold maxLen; omega
  have hml : (m ++ l).length = m.length + l.length := by simp
  cases lao with
  | none =>
    have := hb.none_nil
    subst this
    have := hl rfl
    subst this
    refine ⟨ao, cap, w, ?_, by simpa using hown, ⟨rfl, rfl, rfl, Nat.le_refl _, fun _ _ _ => rfl⟩, fun a ha => .inl ⟨a, ha, rfl⟩, fun h => h⟩
    rw [List.append_nil]
    exact run_append_owned_none (P := Tryz.prog) (w := w) B 33 ty 35 i0 2 Tryz.underlying33 hi _ m.length (tcs m) hown
  | some a =>
    have hlen : (tcs l).length = l.length * 2 := tcs_length l
    rcases hown.2 with ⟨hv, h0⟩ | ⟨g, cap', cur, hv, hbg, hg, hnc, hcm, hcs, htake⟩
    · have hm0 : m = [] := List.eq_nil_of_length_eq_zero h0
      subst hm0
      simp at hv
      obtain ⟨rfl, rfl⟩ := hv
      by_cases hm : l.length = 0
      · obtain ⟨v', w', hr, ho, hgr, hiff⟩ := run_append_own (P := Tryz.prog) w B 33 ty 35 i0 (.agg #[.int .i64 0, .string ⟨#[]⟩]) 2 24 Tryz.underlying33 hi hz0 hz1 hz2 rfl (by decide) _ _ _ hown a l.length lcap (tcs l) hlen hb.cells (tcs_one l) (by simpa using hmax) (by simp at hsz ⊢; omega) hB
        have := hiff.2 ⟨rfl, hm⟩
        subst this
        have hl0 : l = [] := List.eq_nil_of_length_eq_zero hm
        subst hl0
        exact ⟨none, 0, w', hr, ho, hgr, (fun a ha => by cases ha), fun _ => rfl⟩
      · have hr := run_append_nil (P := Tryz.prog) w 33 ty 35 i0 (.agg #[.int .i64 0, .string ⟨#[]⟩]) Tryz.underlying33 hi hz0 a l.length lcap (tcs l) (by rw [hz1]; exact hlen) hb.cells (by omega) (by omega) (by rw [hz2]; omega)
        obtain ⟨q1, q2⟩ := own_fresh w l (grownCap w l.length 0 35) (grownCap_ge _ _ _ _) (grownCap_le_maxLen _ _ _ _ (by simpa using hmax))
        rw [List.nil_append]
        exact ⟨_, _, _, hr, own_mono q1 hB, ⟨q2.os, q2.tape, q2.output, q2.size, fun k hk _ => q2.block k hk (by simp)⟩, fun b hb' => .inr (by simp at hb'; rw [← hb']; exact Nat.le_refl _), fun h => by cases h⟩
    · simp at hv
      obtain ⟨rfl, rfl⟩ := hv
      by_cases hroom : m.length + l.length ≤ cap
      · obtain ⟨w', hr, ho, hgr⟩ := run_append_fits (P := Tryz.prog) w B 33 ty 35 i0 2 Tryz.underlying33 hi hz1 g m.length cap (tcs m) hown a l.length lcap (tcs l) hlen hb.cells (tcs_one l) hroom
        rw [← tcs_append, ← hml] at ho
        rw [← hml] at hr
        exact ⟨some ⟨g, 0, none⟩, cap, w', hr, ho, hgr, fun a ha => .inl ⟨_, rfl, by simp at ha; rw [← ha]⟩, fun h => by cases h⟩
      · have hr := run_append_grow (P := Tryz.prog) w 33 ty 35 i0 (.agg #[.int .i64 0, .string ⟨#[]⟩]) Tryz.underlying33 hi hz0 ⟨g, 0, none⟩ m.length cap (tcs m) (by rw [hz1]; exact hown.1) (hown.cells (g := g) rfl) a l.length lcap (tcs l) (by rw [hz1]; exact hlen) hb.cells (by omega) (by omega) (by rw [hz2]; exact cap_fits (by omega) hsz)
        obtain ⟨q1, q2⟩ := own_fresh w (m ++ l) (grownCap w (m.length + l.length) cap 35) (by rw [hml]; exact grownCap_ge _ _ _ _) (grownCap_le_maxLen _ _ _ _ hmax)
        have e : (tcs (m ++ l)).toArray = (tcs m).toArray ++ (tcs l).toArray := by simp [tcs_append]
        replace q1 := own_mono q1 hB
        rw [e, hml] at q2 q1
        rw [hml]
        exact ⟨_, _, _, hr, q1, ⟨q2.os, q2.tape, q2.output, q2.size, fun k hk _ => q2.block k hk (by simp)⟩, fun b hb' => .inr (by simp at hb'; rw [← hb']; exact Nat.le_refl _), fun h => by cases h⟩

/-- The same, for the walk. -/
theorem wpList_append_types {w : World} {ops : Array Oper} {rest : List Oper} {o : Oper} {a : Act} {Q : Exit → Act → World → Prop} (hgd : o.guard = none) (s x : Operand)
    (ho : o.op = .call { callee := .builtin .append, args := #[s, x], argTypes := #[33, 33] })
    {B : Nat} {ao lao : Option Addr} {cap lcap d : Nat} {m l : List Ty} (hs : a.eval s = .slice ao m.length cap) (hx : a.eval x = .slice lao l.length lcap) (hown : Own w B (.slice ao m.length cap) m) (hb : TS w lao l d) (hl : lao = none → lcap = 0)
    (hsz : m.length + l.length ≤ 4398046511104) (hB : B ≤ w.heap.size)
    (h : ∀ ao' cap' w', Own w' B (.slice ao' (m ++ l).length cap') (m ++ l) → w.grownBy w' (Value.ownBlock (.slice ao m.length cap)) → (∀ a, ao' = some a → (∃ a', ao = some a' ∧ a'.block = a.block) ∨ w.heap.size ≤ a.block) → (ao' = none → ao = none) →
      wpList Tryz.prog ops Q rest (a.put o.dst (.slice ao' (m ++ l).length cap')) w') : wpList Tryz.prog ops Q (o :: rest) a w := by
  refine wpList_plain hgd fun K hK => ?_
  obtain ⟨ao', cap', w', hr, h1, h2, h3, h4⟩ := append_run o.type hown hb hl hsz hB
  unfold Oper.wp execOp
  simp only [ho, resolve, invoke, builtin, Sem.run_bind, Sem.run_pure, Result.andThen_ok, List.map_toArray, List.map_cons, List.map_nil, hs, hx, hr]
  exact hK _ _ (h ao' cap' w' h1 h2 h3 h4)

end Go.Proofs.YtildemmkhndhjaaGreatDoor
namespace Go.Proofs.YtildemmkhndhjaaGreatDoor
open Go.RowKit

/-- Are two signatures the same? -/
def sameR (a b : List Ty × Bool × Ty) : Bool := decide (a = b)

theorem sig_new (w : World) (v : Value) (void : Bool) (d : Int) (n : List UInt8) : SigAt (w.alloc (.cells #[v, .bool void, .int .i64 d, .string (str n)] 37)) w.heap.size v void (d, n) :=
  ⟨by rw [cell_new]; rfl, by rw [cell_new]; rfl, by rw [cell_new]; rfl, by rw [cell_new]; rfl, frozen_new _ _ _ _, frozen_new _ _ _ _, frozen_new _ _ _ _, frozen_new _ _ _ _⟩

/-- A text that is a type's of no dimensions, named so. -/
structure One (s nm : List UInt8) : Prop where
  read : ∀ n r, n ≤ 8 → firstP n (s ++ r) = some (((n : Int), nm), r)
  many : ∀ n r, 8 < n → firstP n (s ++ r) = none
  ne : hasOne s 41 = false
  pos : 0 < s.length
  len : s.length ≤ 34

theorem one_number : One [73] [] := by
  refine ⟨fun n r h => ?_, fun n r h => ?_, rfl, by simp, by simp⟩
  · simp [firstP]
    omega
  · simp [firstP, h]

theorem sign_semi {c : UInt8} (h : sign c = true) : (c != 59) = true := by
  rw [bne_iff_ne]
  intro e
  subst e
  revert h
  decide

theorem one_class (n : List UInt8) (h : nameOK n = true) : One (76 :: (n ++ [59])) n := by
  have ha : n.all sign = true := by
    unfold nameOK at h
    simp only [Bool.and_eq_true] at h
    exact h.2
  have hl : n.length ≤ 32 := by
    unfold nameOK at h
    simp only [Bool.and_eq_true, decide_eq_true_eq] at h
    exact h.1.1.2
  have hc : ∀ c ∈ n, (c != 59) = true := fun c hc => sign_semi (List.all_eq_true.1 ha c hc)
  have ht : ∀ r, (n ++ 59 :: r).takeWhile (· != 59) = n := by
    intro r
    rw [List.takeWhile_append_of_pos (by simpa using hc)]
    simp
  have hd : ∀ r, (n ++ 59 :: r).dropWhile (· != 59) = 59 :: r := by
    intro r
    rw [List.dropWhile_append_of_pos (by simpa using hc)]
    simp
  refine ⟨fun k r hk => ?_, fun k r hk => ?_, rfl, by simp, by simp; omega⟩
  · have e : 76 :: (n ++ [59]) ++ r = 76 :: (n ++ 59 :: r) := by simp
    rw [e]
    simp only [firstP]
    rw [if_neg (by omega), if_neg (by decide), if_neg (by decide), if_pos trivial]
    unfold classP
    rw [ht, hd, h]
    simp
  · simp [firstP, hk]

theorem one_dims {s nm : List UInt8} (h : One s nm) (d k : Nat) (r : List UInt8) : firstP k (List.replicate d 91 ++ s ++ r) = if k + d ≤ 8 then some (((k + d : Nat) : Int), nm, r) |>.map (fun x => ((x.1, x.2.1), x.2.2)) else none := by
  induction d generalizing k with
  | zero =>
    by_cases hk : k ≤ 8
    · simp [h.read k r hk, hk]
    · simp [h.many k r (by omega), hk]
  | succ d ih =>
    rw [List.replicate_succ, List.cons_append, List.cons_append, firstP]
    by_cases hk : 8 < k
    · rw [if_pos hk, if_neg (by omega)]
    · rw [if_neg hk, if_pos rfl, ih (k + 1)]
      have e : k + 1 + d = k + (d + 1) := by omega
      rw [e]

theorem has_append {s : List UInt8} (hp : 0 < s.length) (hs : hasOne s 41 = false) (r : List UInt8) : hasOne (s ++ r) 41 = false := by
  cases s with
  | nil => simp at hp
  | cons a t => exact hs

theorem check_name {t : Ty} (h : tyCheck t = 0) : t.2 = [] ∨ nameOK t.2 = true := by
  obtain ⟨d, n⟩ := t
  simp only [tyCheck] at h
  split at h
  · omega
  · split at h
    · omega
    · rename_i h4
      by_cases hz : n = []
      · exact .inl hz
      · right
        cases hn : nameOK n with
        | true => rfl
        | false => exact absurd ⟨hz, hn⟩ h4

theorem check_of {d : Int} {n : List UInt8} (h0 : 0 ≤ d) (h8 : d ≤ 8) (hn : n = [] ∨ nameOK n = true) : tyCheck (d, n) = 0 := by
  simp only [tyCheck]
  rw [if_neg (by omega), if_neg]
  rintro ⟨h1, h2⟩
  rcases hn with h | h
  · exact h1 h
  · rw [h] at h2
    cases h2

theorem name_ne {n : List UInt8} (h : nameOK n = true) : n ≠ [] := by
  intro e
  subst e
  revert h
  decide

theorem one_of {t : Ty} (h : tyCheck t = 0) : One (if t.2 = [] then [73] else 76 :: (t.2 ++ [59])) t.2 := by
  rcases check_name h with e | e
  · rw [if_pos e, e]
    exact one_number
  · rw [if_neg (name_ne e)]
    exact one_class t.2 e

theorem first_text {t : Ty} (h : tyCheck t = 0) (r : List UInt8) : firstP 0 (tyText t ++ r) = some (t, r) := by
  obtain ⟨d, n⟩ := t
  have hb := check_bounds h
  have := one_dims (one_of h) d.toNat 0 r
  unfold tyText
  rw [this, if_pos (by omega)]
  simp
  omega

theorem text_has {t : Ty} (h : tyCheck t = 0) (r : List UInt8) : hasOne (tyText t ++ r) 41 = false := by
  have ho := one_of h
  unfold tyText
  cases t.1.toNat with
  | zero =>
    rw [List.replicate_zero, List.nil_append]
    exact has_append ho.pos ho.ne r
  | succ k =>
    rw [List.replicate_succ]
    rfl

theorem text_pos {t : Ty} (h : tyCheck t = 0) : 0 < (tyText t).length := by
  have ho := one_of h
  unfold tyText
  rw [List.length_append]
  have := ho.pos
  omega

theorem texts_len (l : List Ty) (h : ∀ t ∈ l, tyCheck t = 0) : l.length ≤ (tyTexts l).length := by
  induction l with
  | nil => simp
  | cons t l ih =>
    have h1 := text_pos (h t (by simp))
    have h2 := ih fun x hx => h x (by simp [hx])
    simp [tyTexts]
    omega

theorem params_text (l : List Ty) (h : ∀ t ∈ l, tyCheck t = 0) (f : Nat) (hf : l.length < f) (r : List UInt8) : paramsP f (tyTexts l ++ 41 :: r) = some (l, r) := by
  induction l generalizing f with
  | nil =>
    obtain ⟨f, rfl⟩ : ∃ k, f = k + 1 := ⟨f - 1, by omega⟩
    rfl
  | cons t l ih =>
    obtain ⟨f, rfl⟩ : ∃ k, f = k + 1 := ⟨f - 1, by omega⟩
    have ht := h t (by simp)
    rw [tyTexts, List.append_assoc, paramsP, text_has ht, first_text ht]
    simp only [Bool.false_eq_true, if_false]
    rw [ih (fun x hx => h x (by simp [hx])) f (by simp at hf; omega)]
    rfl

theorem text_void {t : Ty} (h : tyCheck t = 0) : tyText t ≠ [86] := by
  intro e
  have := first_text h []
  rw [List.append_nil, e] at this
  simp [firstP] at this

theorem sig_text {l : List Ty} {v : Bool} {t : Ty} (h : sigCheck l v t = 0) : sigR (sigText l v t) = ((l, v, t), 0) := by
  obtain ⟨h1, h2, h3, h4⟩ := sigCheck_ok h
  have hp := params_text l h2 (sigText l v t).length (by
    have := texts_len l h2
    simp [sigText]
    omega) (if v = true then [86] else tyText t)
  have hs := sigP_of (l := sigText l v t) (all := l) (rest := if v = true then [86] else tyText t) rfl hp
  have hr : resultP (if v = true then [86] else tyText t) = some (if v = true then none else some t) := by
    cases v with
    | true => rfl
    | false =>
      have := first_text h3 []
      rw [List.append_nil] at this
      simp only [Bool.false_eq_true, if_false]
      unfold resultP
      rw [if_neg (text_void h3), this]
  rw [hr] at hs
  unfold sigR
  rw [hs]
  simp only [Option.map_some]
  rw [if_neg (by omega)]
  cases v with
  | true =>
    rw [h4 rfl]
    rfl
  | false => rfl

theorem type_text {t : Ty} (h : tyCheck t = 0) : typeR (tyText t) = (t, 0) := by
  have := first_text h []
  rw [List.append_nil] at this
  unfold typeR
  rw [this]

theorem while_split (t : List UInt8) (h : t.dropWhile (· != 59) ≠ []) : t = t.takeWhile (· != 59) ++ 59 :: (t.dropWhile (· != 59)).drop 1 := by
  have h1 := List.takeWhile_append_dropWhile (p := (· != 59)) (l := t)
  have h2 : t.dropWhile (· != 59) = 59 :: (t.dropWhile (· != 59)).drop 1 := by
    cases hd : t.dropWhile (· != 59) with
    | nil => exact absurd hd h
    | cons a s =>
      have := List.head_dropWhile_not (p := (· != (59 : UInt8))) (l := t) h
      simp [hd] at this
      simp [this]
  rw [← h2]
  exact h1.symm

theorem first_back : ∀ (l : List UInt8) (n : Nat) (t : Ty) (r : List UInt8), firstP n l = some (t, r) → (n : Int) ≤ t.1 ∧ t.1 ≤ 8 ∧ (t.2 = [] ∨ nameOK t.2 = true) ∧ l = tyText (t.1 - n, t.2) ++ r := by
  intro l
  induction l with
  | nil => intro n t r h; simp [firstP] at h
  | cons c l ih =>
    intro n t r h
    unfold firstP at h
    split at h
    · cases h
    · rename_i hn
      split at h
      · rename_i hc
        obtain ⟨h1, h2, h3, h4⟩ := ih _ _ _ h
        refine ⟨by omega, h2, h3, ?_⟩
        rw [h4, hc]
        unfold tyText
        rw [show (t.1 - (n : Int)).toNat = (t.1 - ((n + 1 : Nat) : Int)).toNat + 1 by omega, List.replicate_succ]
        rfl
      · split at h
        · rename_i hc
          simp only [Option.some.injEq, Prod.mk.injEq] at h
          obtain ⟨rfl, rfl⟩ := h
          refine ⟨by simp, by simp; omega, .inl rfl, ?_⟩
          simp [tyText, hc]
        · split at h
          · rename_i hc
            unfold classP at h
            split at h
            · cases h
            · rename_i hx
              simp only [not_or] at hx
              simp only [Option.some.injEq, Prod.mk.injEq] at h
              obtain ⟨rfl, rfl⟩ := h
              have hk : nameOK (l.takeWhile (· != 59)) = true := by
                cases hq : nameOK (l.takeWhile (· != 59)) with
                | true => rfl
                | false => exact absurd hq hx.2
              refine ⟨by simp, by simp; omega, .inr hk, ?_⟩
              have hs := while_split l hx.1
              unfold tyText
              simp only [Int.sub_self, Int.toNat_zero, List.replicate_zero, List.nil_append]
              rw [if_neg (name_ne hk), hc]
              simp only [List.cons_append, List.append_assoc, List.nil_append]
              rw [← hs]
          · cases h

theorem first_read {l : List UInt8} {t : Ty} {r : List UInt8} (h : firstP 0 l = some (t, r)) : tyCheck t = 0 ∧ l = tyText t ++ r := by
  obtain ⟨h1, h2, h3, h4⟩ := first_back l 0 t r h
  obtain ⟨d, n⟩ := t
  refine ⟨check_of (by simpa using h1) h2 h3, ?_⟩
  simpa using h4

theorem type_read (s : List UInt8) (h : (typeR s).2 = 0) : tyCheck (typeR s).1 = 0 ∧ tyText (typeR s).1 = s := by
  unfold typeR at h ⊢
  split at h
  · rename_i t hf
    obtain ⟨h1, h2⟩ := first_read hf
    simp only []
    rw [List.append_nil] at h2
    exact ⟨h1, h2.symm⟩
  · simp at h

theorem params_read : ∀ (f : Nat) (l : List UInt8) (ps : List Ty) (r : List UInt8), paramsP f l = some (ps, r) → (∀ t ∈ ps, tyCheck t = 0) ∧ l = tyTexts ps ++ 41 :: r := by
  intro f
  induction f with
  | zero => intro l ps r h; simp [paramsP] at h
  | succ f ih =>
    intro l ps r h
    unfold paramsP at h
    split at h
    · rename_i hh
      simp only [Option.some.injEq, Prod.mk.injEq] at h
      obtain ⟨rfl, rfl⟩ := h
      refine ⟨by simp, ?_⟩
      cases l with
      | nil => simp [hasOne] at hh
      | cons a t =>
        simp [hasOne] at hh
        rw [hh]
        rfl
    · split at h
      · cases h
      · rename_i t q hf
        obtain ⟨h1, h2⟩ := first_read hf
        cases hp : paramsP f q with
        | none => rw [hp] at h; cases h
        | some x =>
          obtain ⟨ps', r'⟩ := x
          rw [hp] at h
          simp only [Option.map_some, Option.some.injEq, Prod.mk.injEq] at h
          obtain ⟨rfl, rfl⟩ := h
          obtain ⟨h3, h4⟩ := ih q ps' r' hp
          refine ⟨fun x hx => ?_, ?_⟩
          · simp at hx
            rcases hx with rfl | hx
            · exact h1
            · exact h3 x hx
          · rw [h2, h4, tyTexts, List.append_assoc]

theorem sig_read (s : List UInt8) (h : (sigR s).2 = 0) : sigCheck (sigR s).1.1 (sigR s).1.2.1 (sigR s).1.2.2 = 0 ∧ sigText (sigR s).1.1 (sigR s).1.2.1 (sigR s).1.2.2 = s := by
  unfold sigR at h ⊢
  cases hp : sigP s with
  | none => rw [hp] at h; simp at h
  | some x =>
    obtain ⟨ps, r⟩ := x
    rw [hp] at h
    simp only [] at h ⊢
    split at h
    · simp at h
    · rename_i h16
      rw [if_neg h16]
      unfold sigP at hp
      split at hp
      · rename_i hh
        cases hq : paramsP s.length (s.drop 1) with
        | none => rw [hq] at hp; cases hp
        | some y =>
          obtain ⟨ps', q⟩ := y
          rw [hq] at hp
          simp only [Option.bind_some] at hp
          cases hr : resultP q with
          | none => rw [hr] at hp; cases hp
          | some z =>
            rw [hr] at hp
            simp only [Option.map_some, Option.some.injEq, Prod.mk.injEq] at hp
            obtain ⟨rfl, rfl⟩ := hp
            obtain ⟨h1, h2⟩ := params_read _ _ _ _ hq
            have hs : s = 40 :: s.drop 1 := by
              cases s with
              | nil => simp [hasOne] at hh
              | cons a t =>
                simp [hasOne] at hh
                rw [hh]
                rfl
            unfold resultP at hr
            have hca := (checkAll_ok ps').2 h1
            split at hr
            · rename_i hv
              simp only [Option.some.injEq] at hr
              subst hr
              refine ⟨?_, ?_⟩
              · simp [sigCheck, h16, hca]
                decide
              · simp only [sigText, Option.isNone_none, if_true]
                rw [← hv, ← h2]
                exact hs.symm
            · split at hr
              · rename_i t hf
                simp only [Option.some.injEq] at hr
                subst hr
                obtain ⟨h3, h4⟩ := first_read hf
                rw [List.append_nil] at h4
                refine ⟨?_, ?_⟩
                · simp [sigCheck, h16, hca, h3]
                · simp only [sigText, Option.isNone_some, Bool.false_eq_true, if_false, Option.getD_some]
                  rw [← h4, ← h2]
                  exact hs.symm
              · cases hr
      · cases hp

theorem text_inj {l m : List Ty} {v u : Bool} {s t : Ty} (h : sigCheck l v s = 0) (k : sigCheck m u t = 0) : sameR (l, v, s) (m, u, t) = decide (sigText l v s = sigText m u t) := by
  unfold sameR
  refine decide_eq_decide.2 ⟨fun e => ?_, fun e => ?_⟩
  · simp only [Prod.mk.injEq] at e
    obtain ⟨rfl, rfl, rfl⟩ := e
    rfl
  · have h1 := sig_text h
    have h2 := sig_text k
    rw [e, h2] at h1
    simp only [Prod.mk.injEq, and_true] at h1
    simp only [Prod.mk.injEq]
    exact ⟨h1.1.symm, h1.2.1.symm, h1.2.2.symm⟩

theorem same_self (a : List Ty × Bool × Ty) : sameR a a = true := by simp [sameR]
theorem same_turn (a b : List Ty × Bool × Ty) : sameR b a = sameR a b := by
  unfold sameR
  exact decide_eq_decide.2 ⟨fun e => e.symm, fun e => e.symm⟩


end Go.Proofs.YtildemmkhndhjaaGreatDoor
