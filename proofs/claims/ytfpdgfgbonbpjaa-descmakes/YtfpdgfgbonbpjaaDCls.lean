/-
  The contract of Classes: the classes that types name, each once. There are at most a million types.
-/
import Derived.Test.YtfpdgfgbonbpjaaDRow
import Derived.Maps.OwnSet
import Derived.Maps.AppendAt
namespace Go.Proofs.Ytfpdgfgbonbpjaa
open Go.RowKit Go.Maps Go.ChangeMaps Go.MapKept Go.WideMaps

/-- Names that are told: each once, the empty one not. -/
def clAdd (acc : List (List UInt8)) (n : List UInt8) : List (List UInt8) := if n = [] ∨ n ∈ acc then acc else acc ++ [n]
def clTo (l : List Ty) (k : Nat) : List (List UInt8) := (l.take k).foldl (fun acc t => clAdd acc t.2) []

theorem clTo_succ (l : List Ty) (k : Nat) (h : k < l.length) : clTo l (k + 1) = clAdd (clTo l k) l[k].2 := by
  unfold clTo
  rw [List.take_succ_eq_append_getElem h, List.foldl_append]
  rfl

theorem clTo_le (l : List Ty) (k : Nat) : (clTo l k).length ≤ k := by
  induction k with
  | zero => simp [clTo]
  | succ k ih =>
    by_cases h : k < l.length
    · rw [clTo_succ l k h]
      unfold clAdd
      split
      · omega
      · simp
        omega
    · have : clTo l (k + 1) = clTo l k := by
        unfold clTo
        rw [List.take_of_length_le (by omega), List.take_of_length_le (by omega)]
      rw [this]
      omega

/-- The set of the names that were seen. -/
def Sk {H : Type} (acc : List (List UInt8)) : DataW H := setOf (.agg []) ((Lit.string []) :: acc.map Lit.string)

theorem Sk_new {H : Type} (acc : List (List UInt8)) (n : List UInt8) : Sk (H := H) (acc ++ [n]) = (Sk acc).put (.string n) (.agg []) := by
  unfold Sk
  rw [List.map_append, ← List.cons_append, List.map_cons, List.map_nil, setOf_snoc]

theorem has_Sk {H : Type} (acc : List (List UInt8)) (n : List UInt8) : Maps.has (Sk (H := H) acc) (.string n) = decide (n = [] ∨ n ∈ acc) := by
  unfold Sk
  rw [has_setOf]
  · simp only [List.any_cons, List.any_map]
    have h1 : ∀ a b : List UInt8, (Lit.string a).sameKey (.string b) = (a == b) := fun _ _ => rfl
    have h2 : ((fun x : Lit => x.sameKey (Lit.string n)) ∘ Lit.string) = fun a : List UInt8 => a == n := rfl
    rw [h1, h2]
    by_cases e1 : n = []
    · subst e1
      simp
    · by_cases e2 : n ∈ acc
      · have : acc.any (fun a => a == n) = true := by
          rw [List.any_eq_true]
          exact ⟨n, e2, by simp⟩
        simp [this, e2]
      · have : acc.any (fun a => a == n) = false := by
          rw [List.any_eq_false]
          intro x hx hq
          simp at hq
          subst hq
          exact e2 hx
        have h3 : (([] : List UInt8) == n) = false := by
          rw [beq_eq_false_iff_ne]
          exact fun h => e1 h.symm
        simp [this, e1, e2, h3]
  · intro x hx
    simp at hx
    rcases hx with rfl | ⟨y, _, rfl⟩
    · exact trivial
    · exact trivial

/-- Names as cells. -/
def scs (l : List (List UInt8)) : List Value := l.map fun n => .string (str n)
abbrev OwnS (w : World) (B : Nat) (v : Value) (l : List (List UInt8)) : Prop := w.ownsRow B 9 1 v l.length (scs l)

theorem ownS_mono {w : World} {B C : Nat} {v : Value} {l : List (List UInt8)} (h : OwnS w B v l) (hC : C ≤ B) : OwnS w C v l := by
  refine ⟨h.1, ?_⟩
  rcases h.2 with q | ⟨g, cap, cur, q1, q2, q3⟩
  · exact .inl q
  · exact .inr ⟨g, cap, cur, q1, by omega, q3⟩

theorem ownS_ne {w : World} {B b : Nat} {v : Value} {l : List (List UInt8)} (h : OwnS w B v l) (hb : b < B) : v.ownBlock = none ∨ v.ownBlock ≠ some b := by
  cases hv : v.ownBlock with
  | none => exact .inl rfl
  | some y =>
    right
    intro e
    have := (h.lt y hv).1
    simp at e
    omega

theorem lawS : Keyed Try.prog 9 := string_keyed Try.underlying9
theorem zeroU (w : World) : (zeroValue 75).run Try.prog w = .ok (.agg #[]) w := by kernel_rfl
theorem infoS : (Try.prog.info? 9).map (fun i => (i.zero, i.size, i.bytes)) = some (some (.string ⟨#[]⟩), 1, 16) := by kernel_rfl

set_option maxHeartbeats 400000 in
set_option maxRecDepth 100000 in
theorem classes_any {w : World} {ao : Option Addr} {l : List Ty} {d cap : Nat} (hT : TS w ao l d) (hl : l.length ≤ 1000000) (hA : ∀ t ∈ l, t.2.length ≤ 9223372036854775807) :
    Calls Try.prog 36 #[.slice ao l.length cap] w fun e w' => ∃ v, e = .returned v ∧ OwnS w' w.heap.size v (clTo l l.length) ∧ Only [] w w' := by
  have hmm := @run_makeMap Try.prog
  obtain ⟨i0, hi, hz0, hz1, hz2⟩ := info_parts infoS
  have hk0 : keyOf Try.prog 9 (.string ⟨#[]⟩) = some (.string []) := keyOf_string_mk Try.underlying9 (by decide)
  obtain ⟨w0, hrun0, hown0, hturn0⟩ := (World.ownsMap_made w Try.prog 9 (unitElem (H := Unit))).store lawS Try.underlying76 (by decide) hk0 unitElem_mk
  have hS0 : Hid ((DataW.map ([] : List (Lit × DataW Unit))).put (.string []) (.agg []) = Sk []) := rfl
  have hg0 := hturn0.grown
  have ho0 : Only [] w w0 := ((Only.refl [] w).alloc _).trans (Only.of_grown hg0) (by simp)
  have hz0' := hg0.size
  rw [World.size_alloc] at hz0'
  rw [hS0.out] at hown0
  replace hown0 := hid hown0
  clear hS0 hg0 hturn0
  go_enter Try.func36, Try.ntmps36
  go_wp2
  go_loopw [3, 14] (fun v i wr => ∃ (k : Nat) (vo : Option Addr) (vc : Nat), k ≤ l.length ∧ i = .int .i64 (k : Int) ∧ v = .slice vo (clTo l k).length vc ∧ wr.ownsMap Try.prog 9 unitElem w.heap.size (k + 1) (Sk (H := Unit) (clTo l k)) ∧ OwnS wr (w.heap.size + 1) (.slice vo (clTo l k).length vc) (clTo l k) ∧ Only [] w wr ∧ w.heap.size + 1 ≤ wr.heap.size) (fun _ i _ => l.length - (intOf i).toNat)
  case atStart => exact ⟨0, none, 0, by omega, rfl, rfl, hown0.out, World.ownsRow_nil _ _ _ _, ho0, hz0'⟩
  case round =>
    obtain ⟨k, vo, vc, hk, rfl, rfl, hown, hrow, hor, hsz⟩ := hrel
    clear hown0 hrun0 hmm hz0'
    by_cases hlt : k < l.length
    · have g2 : ((k : Int) < (l.length : Int)) := by omega
      have hne : l ≠ [] := by intro e; simp [e] at hlt
      rcases hT.only hor (by simp) with h | ⟨off, rfl, hc⟩
      · exact absurd h hne
      obtain ⟨y0, y1⟩ := hc k hlt
      clear hc
      have hstep := hid (clTo_succ l k hlt)
      have hln := hA l[k] (List.getElem_mem hlt)
      have hcl := clTo_le l k
      generalize l[k] = t at *
      obtain ⟨d0, nm⟩ := t
      simp only [] at hln y0 y1
      have hkey : keyOf Try.prog 9 (.string (str nm)) = some (.string nm) := by
        have := keyOf_string_mk (P := Try.prog) Try.underlying9 (s := str nm) (by rw [str_size]; exact hln)
        rw [str_data] at this
        exact this
      have hhas := has_Sk (H := Unit) (clTo l k) nm
      by_cases hin : nm = [] ∨ nm ∈ clTo l k
      · have e1 : Hid (clTo l (k + 1) = clTo l k) := by
          unfold Hid
          rw [hstep.out]
          simp only [clAdd]
          rw [if_pos hin]
        rw [decide_eq_true hin] at hhas
        generalize clTo l k = acc at *
        replace hkey := hid hkey
        clear hin
        replace hown := hid hown
        replace hrow := hid hrow
        have hownA := hid (hown.out.alloc (.cells #[.int .i64 d0, .string (str nm)] 23))
        go_wp2_with (at_lookup; refine wpList_lookup_own_unit _ rfl _ _ 76 rfl 9 75 lawS Try.underlying76 (zeroU _) w.heap.size (k + 1) _ rfl hownA.out _ _ rfl hkey.out ?_)
        refine ⟨⟨k + 1, vo, vc, by omega, by go_num, by rw [e1.out], ?_, ?_, (hor.alloc _).alloc _, by simp; omega⟩, by simp [intOf]; omega⟩
        · rw [e1.out]
          exact ((hownA.out.alloc _).mono (by omega))
        · rw [e1.out]
          exact (hrow.out.alloc _).alloc _
      · have hnn : nm ≠ [] := fun e => hin (.inl e)
        have e1 : Hid (clTo l (k + 1) = clTo l k ++ [nm]) := by
          unfold Hid
          rw [hstep.out]
          simp only [clAdd]
          rw [if_neg hin]
        rw [decide_eq_false hin] at hhas
        have hnew := hid (Sk_new (H := Unit) (clTo l k) nm)
        generalize clTo l k = acc at *
        replace hkey := hid hkey
        clear hin hnn
        replace hown := hid hown
        replace hrow := hid hrow
        have hownA := hid (hown.out.alloc (.cells #[.int .i64 d0, .string (str nm)] 23))
        have hownB := hid (hownA.out.alloc (.cells #[] 75))
        have hrowB := hid ((hrow.out.alloc (.cells #[.int .i64 d0, .string (str nm)] 23)).alloc (.cells #[] 75))
        have o1 := (hor.alloc (.cells #[.int .i64 d0, .string (str nm)] 23)).alloc (.cells #[] 75)
        have T1 : Hid (((wr.alloc (.cells #[.int .i64 d0, .string (str nm)] 23)).alloc (.cells #[] 75)).cell? ⟨wr.heap.size, 1, none⟩ = some (.string (str nm))) := cell_alloc _ (by rw [cell_new]; rfl)
        go_wp2_with (first
          | (at_lookup; refine wpList_lookup_own_unit _ rfl _ _ 76 rfl 9 75 lawS Try.underlying76 (zeroU _) w.heap.size (k + 1) _ rfl hownA.out _ _ rfl hkey.out ?_)
          | (at_mapUpdate; refine wpList_mapUpdate_own _ rfl _ _ _ 76 rfl 9 75 lawS Try.underlying76 (unitElem (H := Unit)) w.heap.size (k + 1) _ rfl hownB.out (by unfold maxLen; omega) _ _ _ rfl rfl hkey.out _ [] unitElem_mk ?_; intro w1 hown1 hgrow1; have q1 := Only.of_grown hgrow1; have c1 : w1.cell? ⟨wr.heap.size, 1, none⟩ = some (.string (str nm)) := (q1.cell (p := ⟨wr.heap.size, 1, none⟩) (by simp; omega) (by simp; omega)).trans T1.out; have hrowC := hid ((hrowB.out.kept hgrow1 (ownS_ne hrow.out (by omega))).alloc (.cells #[.string (str nm)] 9)); have hs1 := q1.size)
          | (at_builtin; refine wpList_append_own _ rfl (.tmp 31) (.tmp 34) 56 rfl (w.heap.size + 1) 9 i0 (.string ⟨#[]⟩) 1 16 Try.underlying56 hi hz0 hz1 hz2 rfl (by decide) (.slice vo acc.length vc) acc.length (scs acc) rfl hrowC.out ⟨w1.heap.size, 0, none⟩ 1 1 [.string (str nm)] rfl rfl (cell_one_new _ _ _) (by simp [Value.oneCell']) (by unfold maxLen; omega) (by omega) (by simp at hs1 ⊢; omega) ?_; intro v2 w2 hown2 hgrow2 hnil2))
        have q2 := Only.of_grown hgrow2
        have hs2 := q2.size
        rw [World.size_alloc] at hs2
        have hwit : OwnS w2 (w.heap.size + 1) v2 (acc ++ [nm]) := by
          unfold OwnS
          rw [List.length_append, show scs (acc ++ [nm]) = scs acc ++ [.string (str nm)] by simp [scs]]
          exact hown2
        obtain ⟨v2o, v2c, rfl⟩ : ∃ vo vc, v2 = .slice vo (acc ++ [nm]).length vc := by
          rcases hwit.2 with ⟨h1, h2⟩ | ⟨g, cap', _, h1, _⟩
          · exact ⟨none, 0, by rw [h1, h2]⟩
          · exact ⟨_, _, h1⟩
        have hmap : w2.ownsMap Try.prog 9 unitElem w.heap.size (k + 1 + 1) (Sk (H := Unit) (acc ++ [nm])) := by
          rw [hnew.out]
          refine (hown1.alloc _).kept hgrow2 ?_
          rcases ownS_ne (b := w.heap.size) hrow.out (by omega) with h | h
          · rw [h]
            simp
          · exact fun e => h e.symm
        have oF : Only [] w w2 := by
          refine ((o1.next q1 (by simp)).alloc _).next q2 fun x hx => ?_
          rcases hv : Value.ownBlock (.slice vo acc.length vc) with _ | y
          · rw [hv] at hx; simp at hx
          · rw [hv] at hx
            simp at hx
            subst hx
            have := (hrow.out.lt x hv).1
            omega
        refine ⟨⟨k + 1, v2o, v2c, by omega, by go_num, by rw [e1.out], ?_, ?_, oF, by simp at hs1; omega⟩, by simp [intOf]; omega⟩
        · rw [e1.out]
          exact hmap
        · rw [e1.out]
          exact hwit
    · have g2 : ¬ ((k : Int) < (l.length : Int)) := by omega
      obtain rfl : k = l.length := by omega
      replace hown := hid hown
      replace hrow := hid hrow
      go_wp2
      go_ret
      exact ⟨_, rfl, ownS_mono hrow.out (by omega), hor⟩

end Go.Proofs.Ytfpdgfgbonbpjaa
