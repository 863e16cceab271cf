/-
  What the runner's operations say of the machine's: maps that are asked, filled and walked over.
-/
import Derived.Test.YtllbjkeahafleaaGreatDoorRN13
set_option linter.unusedSimpArgs false
namespace Go.Proofs.YtllbjkeahafleaaGreatDoor
namespace Rn

section
variable {P : Program} {B : Tb} {φ : Fi} {h : Hp} {w : World} {K : KV}

theorem sameNow_eq {t n : Nat} {d : TypeDesc} {x y : Value} {b c : Bool} (hu : P.underlying t = some d) (hs : Instr.sameNow d x y = some b) (he : (Op.equalIn (n + 1) t x y).run P w = .ok c w) : b = c := by
  unfold Instr.sameNow at hs
  split at hs
  · split at hs
    · rename_i hk
      subst hk
      rw [run_equalIn_int w n t _ _ _ _ hu] at he
      cases hs; cases he; rfl
    · cases hs
  · rw [run_equalIn_string w n t _ _ hu] at he
    cases hs; cases he
    rw [beq_toListBytes]
  · rw [run_equalIn_bool w n t _ _ hu] at he
    cases hs; cases he; rfl
  · cases hs

/-- What the search for a key finds: where, or nowhere. -/
theorem findK_spec {kt : Nat} {k k' : Value} {d : TypeDesc} (hB : TOK P B) (hu : P.underlying kt = some d) (hv : VR φ k k') : ∀ {es es' : List MapEntry} {K : Option Value → Prop} (i : Nat), All2 (ER φ) es es' → findK B kt k es K →
    ∃ (r : Option Value) (r' : Option (Nat × Value)), K r ∧ (Instr.findAsking kt k' es' i).run P w = .ok r' w ∧ (∀ q, Instr.findNow d k' es' i = some q → q = r') ∧
      ((r = none ∧ r' = none) ∨ ∃ v v' j, r = some v ∧ r' = some (j, v') ∧ VR φ v v')
  | [], es', K, i, hl, hk => by
    cases hl
    exact ⟨none, none, hk, rfl, fun q hq => by cases hq; rfl, .inl ⟨rfl, rfl⟩⟩
  | e :: es, [], K, i, hl, hk => hl.elim
  | e :: es, e' :: es', K, i, hl, hk => by
    have hk' : sameK B 20 kt k e.key fun c => match c with
      | true => K (some e.val)
      | false => findK B kt k es K := hk
    obtain ⟨b, h1, h2⟩ := sameK_spec (P := P) (w := w) hB 20 10000 kt k k' e.key e'.key _ (by omega) hv hl.1.1 hk'
    have h1' : (Op.equal kt k' e'.key).run P w = .ok b w := h1
    cases b with
    | true =>
      refine ⟨some e.val, some (i, e'.val), h2, ?_, fun q hq => ?_, .inr ⟨_, _, i, rfl, rfl, hl.1.2.1⟩⟩
      · simp only [Instr.findAsking, Sem.run_bind, h1', Result.andThen_ok, if_true, Sem.run_pure]
      · simp only [Instr.findNow] at hq
        split at hq
        · cases hq; rfl
        · rename_i hs
          have := sameNow_eq hu hs h1
          cases this
        · cases hq
    | false =>
      obtain ⟨r, r', g1, g2, g3, g4⟩ := findK_spec hB hu hv (i + 1) hl.2 h2
      refine ⟨r, r', g1, ?_, fun q hq => ?_, g4⟩
      · simp only [Instr.findAsking, Sem.run_bind, h1', Result.andThen_ok, Bool.false_eq_true, if_false, g2]
      · simp only [Instr.findNow] at hq
        split at hq
        · rename_i hs
          have := sameNow_eq hu hs h1
          cases this
        · exact g3 q hq
        · cases hq
theorem findKey_run {kt : Nat} {k' : Value} {es' : List MapEntry} {d : TypeDesc} {r' : Option (Nat × Value)} (hu : P.underlying kt = some d) (h1 : (Instr.findAsking kt k' es' 0).run P w = .ok r' w) (h2 : ∀ q, Instr.findNow d k' es' 0 = some q → q = r') :
    (Instr.findKey kt k' es').run P w = .ok r' w := by
  simp only [Instr.findKey, Sem.run_bind, run_underlying hu, Result.andThen_ok]
  split
  · rename_i q hq
    rw [h2 q hq]
    rfl
  · exact h1

theorem zeroK_spec {t : Nat} {i : TI} {K : Value → Prop} (hi : TiOK P t i) (hk : zeroK i K) : ∃ z z', K z ∧ VR φ z z' ∧ (zeroValue t).run P w = .ok z' w := by
  obtain ⟨z, q1, q2, q3, q4⟩ := hi.zero (w := w)
  unfold zeroK at hk
  split at hk
  · rename_i ha
    obtain ⟨c, rfl, _⟩ := q4 ha
    refine ⟨_, _, hk, VR.mk (v := .agg ⟨i.zero⟩) ⟨c, rfl, ?_⟩, q1⟩
    have : c.toList = i.zero := q2
    rw [this]
    exact zeros_cr hi
  · rename_i ha
    split at hk
    · rename_i v hz
      have hf := q3 ha
      have e1 : z.cells.toList = [z] := by cases z <;> first | rfl | exact hf.elim
      rw [e1, hz] at q2
      cases q2
      exact ⟨_, _, hk, (simple_vr (hi.plain z (by rw [hz]; simp))).1, q1⟩
    · exact hk.elim

theorem tup2_vr {c : Bool} {v v' : Value} {b : Bool} (hv : VR φ v v') : VR φ (tup2 c v b) (if c then .tuple #[v', .bool b] else v') := by
  cases c with
  | true => exact tuple_vr (xs := [v, .bool b]) (ys := [v', .bool b]) ⟨hv, bool_vr, rfl⟩
  | false => exact hv

theorem oLookup_spec {ty : Nat} {x x' k k' : Value} {c : Bool} (hB : TOK P B) (hw : WR B φ h w) (hx : VR φ x x') (hv : VR φ k k') (hk : oLookup B ty x k c h K) : DoneR B φ h w ((Instr.lookup ty x' k' c).run P w) K := by
  obtain ⟨i, h1, h2⟩ := tyK_spec hk
  obtain ⟨d, h3, h4⟩ := (hB.ok ty i h1).under
  split at h2
  · rename_i kt et hki
    rw [hki] at h4
    obtain rfl : d = .map kt et := h4
    have h2k := fun e => keyK_spec (P := P) (w := w) (e := e) hB hv h2
    have h5 := (h2k true).1
    obtain ⟨i2, hi2, _⟩ := tyK_spec h2
    obtain ⟨dk, hdk, _⟩ := (hB.ok kt i2 hi2).under
    obtain ⟨es, es', g1, g2, g3⟩ := entriesK_spec hw hx h5
    obtain ⟨r, r', g4, g5, g6, g7⟩ := findK_spec (P := P) (w := w) hB hdk hv 0 g2 g1
    have hfind := findKey_run hdk g5 g6
    rcases g7 with ⟨rfl, rfl⟩ | ⟨v, v', j, rfl, rfl, hvv⟩
    · obtain ⟨ie, k1, k2⟩ := tyK_spec g4
      obtain ⟨z, z', k3, k4, k5⟩ := zeroK_spec (P := P) (w := w) (φ := φ) (hB.ok et ie k1) k2
      have hrun : (Instr.lookup ty x' k' c).run P w = .ok (if c then .tuple #[z', .bool false] else z') w := by
        rcases g3 with ⟨rfl, rfl⟩ | ⟨bb, clock, rfl, g8⟩
        · simp only [Instr.lookup, Sem.run_bind, run_underlying h3, Result.andThen_ok, Sem.run_pure, (h2k _).2, hfind, k5]
        · simp only [Instr.lookup, Sem.run_bind, run_underlying h3, Result.andThen_ok, run_getMap g8, Sem.run_pure, (h2k _).2, hfind, k5]
      rw [hrun]
      exact .same hw (tup2_vr k4) k3
    · have hrun : (Instr.lookup ty x' k' c).run P w = .ok (if c then .tuple #[v', .bool true] else v') w := by
        rcases g3 with ⟨rfl, rfl⟩ | ⟨bb, clock, rfl, g8⟩
        · simp only [Instr.lookup, Sem.run_bind, run_underlying h3, Result.andThen_ok, Sem.run_pure, (h2k _).2, hfind]
        · simp only [Instr.lookup, Sem.run_bind, run_underlying h3, Result.andThen_ok, run_getMap g8, Sem.run_pure, (h2k _).2, hfind]
      rw [hrun]
      exact .same hw (tup2_vr hvv) g4
  · exact h2.elim
theorem tyK_intro {t : Nat} {i : TI} {K : TI → Prop} (h1 : tget W B t = some i) (hk : K i) : tyK B t K := by
  simp only [tyK, tgetK_eq, h1]
  exact hk
/-- A test, a number, a text. -/
def Pl (k : Value) : Prop := (∃ b, k = .bool b) ∨ (∃ q n, k = .int q n) ∨ ∃ s, k = .string s
/-- Plain keys that are the same are one. -/
theorem sameK_plus {f t : Nat} {k y : Value} {K : Bool → Prop} (hs : simple k = true) (hp : ∀ i, tget W B t = some i → i.kind = .bool ∨ (∃ k, i.kind = .int k) ∨ i.kind = .string) (hk : sameK B (f + 1) t k y K) :
    sameK B (f + 1) t k y fun b => K b ∧ (b = true → y = k ∧ Pl k) := by
  unfold sameK at hk ⊢
  obtain ⟨i, h1, h2⟩ := tyK_spec hk
  refine tyK_intro h1 ?_
  rcases hp i h1 with hki | ⟨kk, hki⟩ | hki
  · rw [hki] at h2 ⊢
    simp only at h2 ⊢
    split at h2
    · rename_i a
      split at h2
      · rename_i b
        cases a <;> cases b <;> simp only at h2 ⊢ <;> exact ⟨h2, by simp [Pl]⟩
      · exact h2.elim
    · exact h2.elim
  · rw [hki] at h2 ⊢
    simp only at h2 ⊢
    split at h2
    · rename_i k1 a
      split at h2
      · rename_i k2 b
        split at h2
        · rename_i hb
          have := ikN_inj hb
          subst this
          rw [fB_eq, intEq_eq] at h2 ⊢
          exact ⟨h2, fun e => ⟨by rw [eq_of_beq e], .inr (.inl ⟨_, _, rfl⟩)⟩⟩
        · exact h2.elim
      · exact h2.elim
    · cases hs
    · cases hs
    · exact h2.elim
  · rw [hki] at h2 ⊢
    simp only at h2 ⊢
    split at h2
    · rename_i a
      split at h2
      · rename_i b
        rw [bytesEqK_eq] at h2 ⊢
        refine ⟨h2, fun e => ?_⟩
        have : a.data.toList = b.data.toList := eq_of_beq e
        refine ⟨?_, .inr (.inr ⟨_, rfl⟩)⟩
        congr 1
        apply ByteArray.ext
        apply Array.ext'
        exact this.symm
      · exact h2.elim
    · cases hs
    · exact h2.elim
theorem same_bits {k k' : Value} (hv : VR φ k k') (hp : Pl k) : Instr.sameBits 10000 k' k' = true := by
  rcases hp with ⟨b, rfl⟩ | ⟨q, n, rfl⟩ | ⟨s, rfl⟩
  · have e : k' = .bool b := hv.inv
    subst e
    unfold Instr.sameBits; simp
  · have e : k' = .int q n := hv.inv
    subst e
    unfold Instr.sameBits; simp
  · have e : k' = .string s := hv.inv
    subst e
    unfold Instr.sameBits
    rw [beq_toListBytes]
    simp

/-- What is written into a map: behind the others, or in the place of one. -/
theorem updK_spec {kt : Nat} {k k' v v' : Value} {d : TypeDesc} {clock : Nat} (hB : TOK P B) (hu : P.underlying kt = some d) (hpl : simple k = true → (∀ i, tget W B kt = some i → i.kind = .bool ∨ (∃ k, i.kind = .int k) ∨ i.kind = .string)) (hk0 : VR φ k k') (hv : VR φ v v') : ∀ {es es' : List MapEntry} {K : List MapEntry → Bool → Prop} (i : Nat), All2 (ER φ) es es' → updK B kt k v clock es K →
    ∃ (l : List MapEntry) (b : Bool) (r' : Option (Nat × Value)), K l b ∧ (Instr.findAsking kt k' es' i).run P w = .ok r' w ∧ (∀ q, Instr.findNow d k' es' i = some q → q = r') ∧
      ((b = true ∧ r' = none ∧ l = es ++ [⟨k, v, clock⟩]) ∨
       ∃ j u e', b = false ∧ r' = some (i + j, u) ∧ es'[j]? = some e' ∧ simple k = true ∧ Instr.sameBits 10000 e'.key k' = true ∧ All2 (ER φ) l (es'.set j ⟨k', v', e'.born⟩))
  | [], es', K, i, hl, hk => by
    cases hl
    exact ⟨_, true, none, hk, rfl, fun q hq => by cases hq; rfl, .inl ⟨rfl, rfl, rfl⟩⟩
  | e :: es, [], K, i, hl, hk => hl.elim
  | e :: es, e' :: es', K, i, hl, hk => by
    have hk' : sameK B 20 kt k e.key fun c => match c with
      | true => match simple k with
        | true => K (⟨k, v, e.born⟩ :: es) false
        | false => False
      | false => updK B kt k v clock es fun l b => K (e :: l) b := hk
    have hex : ∃ b, (Op.equalIn 10000 kt k' e'.key).run P w = .ok b w ∧ (match b with
      | true => match simple k with
        | true => K (⟨k, v, e.born⟩ :: es) false
        | false => False
      | false => updK B kt k v clock es fun l b => K (e :: l) b) ∧ (simple k = true → b = true → e.key = k ∧ Pl k) := by
      by_cases hs : simple k = true
      · obtain ⟨b, h1, h2, h3⟩ := sameK_spec (P := P) (w := w) hB 20 10000 kt k k' e.key e'.key _ (by omega) hk0 hl.1.1 (sameK_plus hs (hpl hs) hk')
        exact ⟨b, h1, h2, fun _ => h3⟩
      · obtain ⟨b, h1, h2⟩ := sameK_spec (P := P) (w := w) hB 20 10000 kt k k' e.key e'.key _ (by omega) hk0 hl.1.1 hk'
        exact ⟨b, h1, h2, fun h => absurd h hs⟩
    obtain ⟨b, h1, h2, h2e⟩ := hex
    have h1' : (Op.equal kt k' e'.key).run P w = .ok b w := h1
    cases b with
    | true =>
      simp only at h2
      split at h2
      · rename_i hs
        refine ⟨_, false, some (i, e'.val), h2, ?_, fun q hq => ?_, .inr ⟨0, e'.val, e', rfl, rfl, rfl, hs, ?_, ?_⟩⟩
        · simp only [Instr.findAsking, Sem.run_bind, h1', Result.andThen_ok, if_true, Sem.run_pure]
        · simp only [Instr.findNow] at hq
          split at hq
          · cases hq; rfl
          · rename_i hs
            have := sameNow_eq hu hs h1
            cases this
          · cases hq
        · obtain ⟨hek, hpk⟩ := h2e hs rfl
          have e1 : e'.key = k' := by
            have hv1 := hl.1.1
            rw [hek] at hv1
            rcases hpk with ⟨b, rfl⟩ | ⟨q, n, rfl⟩ | ⟨s, rfl⟩
            · exact (show _ = _ from hv1.inv).trans (show _ = _ from hk0.inv).symm
            · exact (show _ = _ from hv1.inv).trans (show _ = _ from hk0.inv).symm
            · exact (show _ = _ from hv1.inv).trans (show _ = _ from hk0.inv).symm
          rw [e1]
          exact same_bits hk0 hpk
        · exact ⟨⟨hk0, hv, hl.1.2.2⟩, hl.2⟩
      · exact h2.elim
    | false =>
      obtain ⟨l, bb, r', g1, g2, g3, g4⟩ := updK_spec hB hu hpl hk0 hv (i + 1) hl.2 h2
      refine ⟨e :: l, bb, r', g1, ?_, fun q hq => ?_, ?_⟩
      · simp only [Instr.findAsking, Sem.run_bind, h1', Result.andThen_ok, Bool.false_eq_true, if_false, g2]
      · simp only [Instr.findNow] at hq
        split at hq
        · rename_i hs
          have := sameNow_eq hu hs h1
          cases this
        · exact g3 q hq
        · cases hq
      · rcases g4 with ⟨rfl, rfl, rfl⟩ | ⟨j, u, e2, rfl, rfl, q1, q2, q3, q4⟩
        · exact .inl ⟨rfl, rfl, rfl⟩
        · exact .inr ⟨j + 1, u, e2, rfl, by congr 2; omega, by simpa using q1, q2, q3, ⟨hl.1, q4⟩⟩
theorem keyK_plain {t : Nat} {k : Value} {K : Prop} (hk : keyK B t k K) (hs : simple k = true) : (∀ i, tget W B t = some i → i.kind = .bool ∨ (∃ k, i.kind = .int k) ∨ i.kind = .string) := by
  obtain ⟨i, h1, h2⟩ := tyK_spec hk
  intro i' h1'
  rw [h1] at h1'
  cases h1'
  split at h2
  · rename_i hki; exact .inl hki
  · rename_i q hki; exact .inr (.inl ⟨q, hki⟩)
  · rename_i hki; exact .inr (.inr hki)
  · split at h2
    · simp [simple] at hs
    · exact h2.elim
  · exact h2.elim

theorem heap_setObj {b : Nat} {o : Obj} {x : Nat} (hx : x ≠ b) : ({ w with heap := w.heap.setIfInBounds b o } : World).heap[x]? = w.heap[x]? := by
  simp only [Array.getElem?_setIfInBounds]
  rw [if_neg fun e => hx e.symm]
theorem heap_setObj_same {b : Nat} {o o' : Obj} (hb : w.heap[b]? = some o') : ({ w with heap := w.heap.setIfInBounds b o } : World).heap[b]? = some o := by
  have hlt := (Array.getElem?_eq_some_iff.1 hb).1
  simp only [Array.getElem?_setIfInBounds, if_true, hlt]
theorem run_setMap {b clock : Nat} {es : Array MapEntry} (o : Obj) (hb : w.heap[b]? = some (.map es clock)) : (setObj b o).run P w = .ok () { w with heap := w.heap.setIfInBounds b o } := by simp only [setObj, Sem.run, hb]
theorem modify_list (es : List MapEntry) (j : Nat) (e : MapEntry) (k v : Value) (hj : es[j]? = some e) : ((⟨es⟩ : Array MapEntry).modify j fun e => { e with key := k, val := v }).toList = es.set j ⟨k, v, e.born⟩ := by
  rw [Array.toList_modify]
  exact ChangeMaps.modify_eq_set _ es j e hj

theorem oMapUpdate_spec {ty : Nat} {m m' k k' v v' : Value} (hB : TOK P B) (hw : WR B φ h w) (hm : VR φ m m') (hk0 : VR φ k k') (hv : VR φ v v') (hk : oMapUpdate B ty m k v h K) :
    ∃ h' w', (Instr.mapUpdate ty m' k' v').run P w = .ok () w' ∧ WR B φ h' w' ∧ St φ h w φ h' w' ∧ K undef h' := by
  obtain ⟨i, h1, h2⟩ := tyK_spec hk
  obtain ⟨d, h3, h4⟩ := (hB.ok ty i h1).under
  split at h2
  · rename_i kt et hki
    rw [hki] at h4
    obtain rfl : d = .map kt et := h4
    split at h2
    · rename_i r
      obtain ⟨s, hs, rfl⟩ := hm.inv
      have hck := keyK_spec (P := P) (w := w) (e := false) hB hk0 h2
      have hpl := fun hs => keyK_plain h2 hs
      obtain ⟨i2, hi2, _⟩ := tyK_spec h2
      obtain ⟨dk, hdk, _⟩ := (hB.ok kt i2 hi2).under
      obtain ⟨row, g1, g2⟩ := rowK_spec hck.1
      split at g2
      · rename_i es clock
        obtain ⟨s', g3, g4⟩ := hw.rows r _ g1
        rw [hs] at g3
        cases g3
        obtain ⟨es', g5, g6⟩ := g4
        obtain ⟨l, b, r', k1, k2, k3, k4⟩ := updK_spec (P := P) (w := w) hB hdk hpl hk0 hv 0 g6 g2
        have hfind := findKey_run hdk k2 k3
        have hrr : ∀ (o : Array MapEntry) (cl : Nat) (l : List MapEntry), All2 (ER φ) l o.toList → RR B φ { w with heap := w.heap.setIfInBounds s.b (.map o cl) } s (.map ⟨l⟩ cl) := fun o cl l hl => ⟨o, heap_setObj_same g5, hl⟩
        have hset := fun (o : Array MapEntry) (cl : Nat) (l : List MapEntry) hl (hlw : h.low ≤ r) => hw.set (o' := .map ⟨l⟩ cl) (w' := { w with heap := w.heap.setIfInBounds s.b (.map o cl) }) hlw g1 hs (fun x _ hx => heap_setObj hx) (by simp) ⟨rfl, rfl, rfl⟩ (hrr o cl l hl)
        rcases k4 with ⟨rfl, rfl, rfl⟩ | ⟨j, u, e', rfl, rfl, q1, q2, q3, q4⟩
        · simp only at k1
          rw [fN_eq] at k1
          have hl : All2 (ER φ) (es.toList ++ [⟨k, v, clock⟩]) (es'.push ⟨k', v', clock⟩).toList := by
            rw [Array.toList_push]
            exact g6.app ⟨⟨hk0, hv, rfl⟩, rfl⟩
          obtain ⟨p1, p2⟩ := hset (es'.push ⟨k', v', clock⟩) (clock + 1) _ hl (setK_low k1)
          refine ⟨_, _, ?_, p1, p2, setK_spec k1⟩
          simp only [Instr.mapUpdate, Sem.run_bind, run_underlying h3, Result.andThen_ok, run_getMap g5, hck.2, hfind, run_setMap _ g5]
        · simp only at k1
          have hl : All2 (ER φ) l (es'.modify j fun e => { e with key := k', val := v' }).toList := by
            have := modify_list es'.toList j e' k' v' q1
            have e0 : (⟨es'.toList⟩ : Array MapEntry) = es' := rfl
            rw [e0] at this
            rw [this]
            exact q4
          obtain ⟨p1, p2⟩ := hset (es'.modify j fun e => { e with key := k', val := v' }) clock _ hl (setK_low k1)
          refine ⟨_, _, ?_, p1, p2, setK_spec k1⟩
          have hj : es'[j]? = some e' := by simpa using q1
          have hks : (Instr.keyThatStays e'.key k').run P w = .ok k' w := by simp only [Instr.keyThatStays, q3, if_true, Sem.run_pure]
          simp only [Instr.mapUpdate, Sem.run_bind, run_underlying h3, Result.andThen_ok, run_getMap g5, hck.2, hfind, Nat.zero_add, hj, Option.map_some, Option.getD_some, hks, run_setMap _ g5]
      · exact g2.elim
    · exact h2.elim
  · exact h2.elim
end

end Rn
end Go.Proofs.YtllbjkeahafleaaGreatDoor
