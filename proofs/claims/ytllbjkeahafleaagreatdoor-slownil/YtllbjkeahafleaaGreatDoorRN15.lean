/-
  What the runner's operations say of the machine's: walks over maps.
-/
import Derived.Test.YtllbjkeahafleaaGreatDoorRN14
set_option linter.unusedSimpArgs false
namespace Go.Proofs.YtllbjkeahafleaaGreatDoor
namespace Rn

section
variable {P : Program} {B : Tb} {φ : Fi} {h : Hp} {w : World} {K : KV}

theorem oRange_spec {ty : Nat} {x x' : Value} (hB : TOK P B) (hw : WR B φ h w) (hx : VR φ x x') (hk : oRange B ty x h K) : Done B φ h w ((Instr.range ty x').run P w) K := by
  obtain ⟨i, h1, h2⟩ := tyK_spec hk
  obtain ⟨d, h3, h4⟩ := (hB.ok ty i h1).under
  split at h2
  · rename_i kt et hki
    rw [hki] at h4
    obtain rfl : d = .map kt et := h4
    split at h2
    · have e : x' = .map none := hx.inv
      subst e
      obtain ⟨g1, g2⟩ := newK_spec h2
      refine ⟨_, _, w.alloc (.mapIter none 0 #[] 0), ptr h.next 0, .pointer (some ⟨w.heap.size, 0, none⟩), ?_, ?_, hw.alloc (o := .mapIter none 0 #[] 0) (room := 0) (u := 0) g1 (fun φ' _ => ⟨rfl, heap_alloc_new⟩), St.more hw g1 rfl, g2⟩
      · simp only [Instr.range, Sem.run_bind, run_underlying h3, Result.andThen_ok, Sem.run_pure, run_newObj_alloc]
      · exact ptr_vr (s := ⟨w.heap.size, 0, 0, 0⟩) (by simp)
    · rename_i m
      obtain ⟨row, g0, g1⟩ := rowK_spec h2
      split at g1
      · rename_i es clock
        obtain ⟨s, g2, g3⟩ := hw.rows m _ g0
        obtain ⟨es', g4, g5⟩ := g3
        obtain ⟨s', g6, rfl⟩ := hx.inv
        rw [g2] at g6
        cases g6
        obtain ⟨k1, k2⟩ := newK_spec g1
        refine ⟨_, _, w.alloc (.mapIter (some s.b) clock #[] clock), ptr h.next 0, .pointer (some ⟨w.heap.size, 0, none⟩), ?_, ?_, hw.alloc (o := .mapIter (some m) clock #[] clock) (room := 0) (u := 0) k1 (fun φ' hφ => ⟨rfl, s, hφ _ _ g2, heap_alloc_new⟩), St.more hw k1 rfl, k2⟩
        · simp only [Instr.range, Sem.run_bind, run_underlying h3, Result.andThen_ok, run_getMap g4, Sem.run_pure, run_newObj_alloc]
        · exact ptr_vr (s := ⟨w.heap.size, 0, 0, 0⟩) (by simp)
      · exact g1.elim
    · exact h2.elim
  · exact h2.elim

theorem seenK_eq {n : Nat} {K : Bool → Prop} : ∀ (l : List Nat), seenK n l K = K (l.contains n)
  | [] => rfl
  | m :: l => by
    have ih := seenK_eq (n := n) (K := K) l
    unfold seenK at ih ⊢
    simp only
    cases hb : Nat.beq m n with
    | true =>
      have := Nat.eq_of_beq_eq_true hb
      subst this
      simp
    | false =>
      have hne : ¬ n = m := by rintro rfl; rw [Nat.beq_refl] at hb; cases hb
      simp only [ih, List.contains_cons]
      have : (n == m) = false := by simpa using hne
      rw [this, Bool.false_or]
theorem leftK_spec {seen : List Nat} : ∀ {es es' : List MapEntry} {K : List MapEntry → Prop}, All2 (ER φ) es es' → leftK seen es K → ∃ l, K l ∧ All2 (ER φ) l (es'.filter fun e => !seen.contains e.born)
  | [], es', K, hl, hk => by cases hl; exact ⟨[], hk, rfl⟩
  | e :: es, [], K, hl, hk => hl.elim
  | e :: es, e' :: es', K, hl, hk => by
    have hk' : seenK e.born seen fun c => match c with
      | true => leftK seen es K
      | false => leftK seen es fun l => K (e :: l) := hk
    rw [seenK_eq] at hk'
    have hb : e'.born = e.born := hl.1.2.2
    cases hc : seen.contains e.born with
    | true =>
      rw [hc] at hk'
      obtain ⟨l, h1, h2⟩ := leftK_spec hl.2 hk'
      refine ⟨l, h1, ?_⟩
      rw [List.filter_cons_of_neg (by rw [hb, hc]; simp)]
      exact h2
    | false =>
      rw [hc] at hk'
      obtain ⟨l, h1, h2⟩ := leftK_spec hl.2 hk'
      refine ⟨e :: l, h1, ?_⟩
      rw [List.filter_cons_of_pos (by rw [hb, hc]; simp)]
      exact ⟨hl.1, h2⟩

theorem run_getIter {b since last : Nat} {m : Option Nat} {seen : Array Nat} (hb : w.heap[b]? = some (.mapIter m since seen last)) : (getObj b).run P w = .ok (.mapIter m since seen last) w := by simp only [getObj, Sem.run, hb]
theorem run_setIter {b since last : Nat} {m : Option Nat} {seen : Array Nat} (o : Obj) (hb : w.heap[b]? = some (.mapIter m since seen last)) : (setObj b o).run P w = .ok () { w with heap := w.heap.setIfInBounds b o } := by simp only [setObj, Sem.run, hb]

theorem lt_of_ble {a b : Nat} (h : Nat.ble a b = false) : b < a := by
  rcases Nat.lt_or_ge b a with g | g
  · exact g
  · rw [Nat.ble_eq_true_of_le g] at h; cases h

theorem eachK_spec {K : MapEntry → Prop} : ∀ {l : List MapEntry}, eachK l K → ∀ (i : Nat) (e : MapEntry), l[i]? = some e → K e
  | [], _, _, _, h => by simp at h
  | [e], hk, i, x, h => by
    cases i with
    | zero =>
      have : e = x := by simpa using h
      subst this
      exact hk
    | succ i => simp at h
  | e :: d :: l, hk, i, x, h => by
    have hk' : K e ∧ eachK (d :: l) K := hk
    cases i with
    | zero =>
      have : e = x := by simpa using h
      subst this
      exact hk'.1
    | succ i => exact eachK_spec hk'.2 i x (by simpa using h)
theorem oNext_spec {ty : Nat} {x x' : Value} (hw : WR B φ h w) (hx : VR φ x x') (hk : oNext x h K) : Done B φ h w ((Instr.next x' false ty).run P w) K := by
  have hfalse : VR φ (.tuple #[.bool false]) (.tuple #[.bool false]) := tuple_vr (xs := [.bool false]) (ys := [.bool false]) ⟨bool_vr, rfl⟩
  unfold oNext at hk
  split at hk
  · rename_i r
    obtain ⟨row, g0, g1⟩ := rowK_spec hk
    obtain ⟨s, hs, rfl⟩ := hx.inv
    obtain ⟨s', g2, g3⟩ := hw.rows r _ g0
    rw [hs] at g2
    cases g2
    split at g1
    · obtain ⟨hb0, g3⟩ := g3
      have e : (Instr.next (.pointer (some ⟨s.b, s.base + 0, none⟩)) false ty).run P w = .ok (.tuple #[.bool false]) w := by
        rw [hb0]
        simp only [Instr.next, Sem.run_bind, run_getIter g3, Result.andThen_ok, Sem.run_pure]
      rw [e]
      exact .same hw hfalse g1
    · rename_i m since seen last
      obtain ⟨hb0, sm, g4, g5⟩ := g3
      obtain ⟨row2, k0, k1⟩ := rowK_spec g1
      split at k1
      · rename_i es clock
        obtain ⟨sm', k2, k3⟩ := hw.rows m _ k0
        rw [g4] at k2
        cases k2
        obtain ⟨es', k4, k5⟩ := k3
        split at k1
        · rename_i hsc
          have hsc' := Nat.eq_of_beq_eq_true hsc
          subst hsc'
          split at k1
          · rename_i hlc
            have hlc' := Nat.eq_of_beq_eq_true hlc
            subst hlc'
            have hall : (!seen.isEmpty && !es'.isEmpty && es'.all (·.born ≥ last)) = false ∧ leftK seen.toList es.toList (fun l => match l with
                | [] => K (.tuple #[.bool false]) h
                | e :: l => eachK (e :: l) fun e => match Nat.ble last e.born with
                  | true => False
                  | false => appK seen.toList [e.born] fun seen => setK h r (some (.mapIter (some m) last ⟨seen⟩ last)) fun h => K (.tuple #[.bool true, e.key, e.val]) h) := by
              unfold oldK at k1
              split at k1
              · rename_i hes
                rw [hes] at k5
                have : es' = #[] := by
                  apply Array.ext'
                  exact k5
                rw [this]
                exact ⟨by simp, k1⟩
              · rename_i e0 l0 hes
                split at k1
                · exact k1.elim
                · rename_i hb
                  have hlt := lt_of_ble hb
                  refine ⟨?_, k1⟩
                  rw [hes] at k5
                  cases hes' : es'.toList with
                  | nil => rw [hes'] at k5; exact k5.elim
                  | cons e1 l1 =>
                    rw [hes'] at k5
                    have hbn : e1.born = e0.born := k5.1.2.2
                    have : es'.all (·.born ≥ last) = false := by
                      rw [← Array.all_toList, hes']
                      simp only [List.all_cons]
                      have : ¬ (e1.born ≥ last) := by omega
                      simp [this]
                    rw [this, Bool.and_false]
            obtain ⟨hall1, hall2⟩ := hall
            obtain ⟨l, q1, q2⟩ := leftK_spec k5 hall2
            have hleft : (es'.filter fun e => !seen.contains e.born).toList = es'.toList.filter fun e => !seen.toList.contains e.born := by
              rw [Array.toList_filter]
              congr 1
              funext e
              simp
            split at q1
            · -- none is left
              have hl0 : es'.filter (fun e => !seen.contains e.born) = #[] := by
                apply Array.ext'
                rw [hleft]
                exact q2
              have e : (Instr.next (.pointer (some ⟨s.b, s.base + 0, none⟩)) false ty).run P w = .ok (.tuple #[.bool false]) w := by
                rw [hb0]
                simp only [Instr.next, Sem.run_bind, run_getIter g5, Result.andThen_ok, run_getMap k4, hall1, Bool.false_eq_true, if_false, hl0]
                have hc : ((if (Array.filter (fun x : MapEntry => decide (x.born < last)) #[]).isEmpty = true then #[none] else #[]) ++ Array.map some (Array.filter (fun x : MapEntry => decide (x.born < last)) #[] ++ Array.filter (fun x : MapEntry => decide (x.born ≥ last)) #[])) = (#[none] : Array (Option MapEntry)) := by simp
                rw [hc]
                have hch : (choose (.mapNext (#[none] : Array (Option MapEntry)).size)).run P w = .ok 0 w := by rw [run_choose]; rfl
                rw [hch]
                rfl
              rw [e]
              exact .same hw hfalse q1
            · -- some are left
              rename_i e0 l0
              have hall := eachK_spec q1
              cases hf : es'.toList.filter (fun e => !seen.toList.contains e.born) with
              | nil => rw [hf] at q2; exact q2.elim
              | cons e1 l1 =>
                rw [hf] at q2
                have hl1 : es'.filter (fun e => !seen.contains e.born) = ⟨e1 :: l1⟩ := by
                  apply Array.ext'
                  rw [hleft, hf]
                have hlt' : ∀ x ∈ (e1 :: l1), x.born < last := fun x hx => by
                  obtain ⟨j, hj, hx⟩ := List.mem_iff_getElem.1 hx
                  have hlen := q2.length
                  have hj' : j < (e0 :: l0).length := by omega
                  obtain ⟨y, h3, h4⟩ := q2.get j (e0 :: l0)[j] (List.getElem?_eq_getElem hj')
                  have hy : y = x := by
                    rw [List.getElem?_eq_getElem hj, Option.some.injEq] at h3
                    rw [← h3, hx]
                  have h5 := hall j _ (List.getElem?_eq_getElem hj')
                  split at h5
                  · exact h5.elim
                  · rename_i hb
                    have := lt_of_ble hb
                    have hbn : y.born = _ := h4.2.2
                    rw [← hy, hbn]
                    exact this
                have hold : (⟨e1 :: l1⟩ : Array MapEntry).filter (fun x => decide (x.born < last)) = ⟨e1 :: l1⟩ := by
                  apply Array.ext'
                  rw [Array.toList_filter]
                  exact List.filter_eq_self.2 fun x hx => by simp [hlt' x hx]
                have hnew : (⟨e1 :: l1⟩ : Array MapEntry).filter (fun x => decide (x.born ≥ last)) = #[] := by
                  apply Array.ext'
                  rw [Array.toList_filter]
                  exact List.filter_eq_nil_iff.2 fun x hx => by
                    have := hlt' x hx
                    simp only [decide_eq_true_eq]
                    omega
                have hcand : ((if ((⟨e1 :: l1⟩ : Array MapEntry).filter (fun x => decide (x.born < last))).isEmpty = true then #[none] else #[]) ++ Array.map some ((⟨e1 :: l1⟩ : Array MapEntry).filter (fun x => decide (x.born < last)) ++ (⟨e1 :: l1⟩ : Array MapEntry).filter (fun x => decide (x.born ≥ last)))) = (⟨(e1 :: l1).map some⟩ : Array (Option MapEntry)) := by
                  rw [hold, hnew]
                  apply Array.ext'
                  simp
                have hch : ∃ k w1, (choose (.mapNext (⟨(e1 :: l1).map some⟩ : Array (Option MapEntry)).size)).run P w = .ok k w1 ∧ k < (e1 :: l1).length ∧ w1.heap = w.heap ∧ Sm w w1 := by
                  have hsz : (⟨(e1 :: l1).map some⟩ : Array (Option MapEntry)).size = (e1 :: l1).length := by simp
                  rw [hsz, run_choose_drew]
                  split
                  · exact ⟨0, w, rfl, by simp, rfl, Sm.refl _⟩
                  · exact ⟨_, w.drew, rfl, Nat.mod_lt _ (by simp), rfl, rfl, rfl, rfl⟩
                obtain ⟨k, w1, hch, hk1, hheap, hsm⟩ := hch
                have hk2 : k < (e0 :: l0).length := by have := q2.length; omega
                obtain ⟨ek, h3, q3⟩ := q2.get k (e0 :: l0)[k] (List.getElem?_eq_getElem hk2)
                have hbn : ek.born = ((e0 :: l0)[k]).born := q3.2.2
                have g5' : w1.heap[s.b]? = some (.mapIter (some sm.b) last seen last) := by rw [hheap]; exact g5
                have e : (Instr.next (.pointer (some ⟨s.b, s.base + 0, none⟩)) false ty).run P w = .ok (.tuple #[.bool true, ek.key, ek.val]) { w1 with heap := w1.heap.setIfInBounds s.b (.mapIter (some sm.b) last (seen.push ek.born) last) } := by
                  rw [hb0]
                  simp only [Instr.next, Sem.run_bind, run_getIter g5, Result.andThen_ok, run_getMap k4, hall1, Bool.false_eq_true, if_false, hl1]
                  rw [hcand, hch]
                  have hget : (⟨(e1 :: l1).map some⟩ : Array (Option MapEntry))[k]? = some (some ek) := by
                    simp only [List.getElem?_toArray, List.getElem?_map, h3, Option.map_some]
                  simp only [Result.andThen_ok, hget, Sem.run_bind, run_setIter _ g5', Sem.run_pure]
                rw [e]
                have hq := hall k _ (List.getElem?_eq_getElem hk2)
                split at hq
                · exact hq.elim
                rw [appK_eq] at hq
                have hset := hw.set (o' := .mapIter (some m) last ⟨seen.toList ++ [((e0 :: l0)[k]).born]⟩ last) (w' := { w1 with heap := w1.heap.setIfInBounds s.b (.mapIter (some sm.b) last (seen.push ek.born) last) }) (setK_low hq) g0 hs (fun x _ hx => by rw [← hheap]; exact heap_setObj (w := w1) hx) (by simp [hheap]) ⟨hsm.1, hsm.2.1, hsm.2.2⟩
                  ⟨hb0, sm, g4, by
                    rw [heap_setObj_same g5']
                    congr 2
                    apply Array.ext'
                    rw [Array.toList_push, hbn]⟩
                exact ⟨φ, _, _, .tuple #[.bool true, ((e0 :: l0)[k]).key, ((e0 :: l0)[k]).val], _, rfl, tuple_vr (xs := [.bool true, ((e0 :: l0)[k]).key, ((e0 :: l0)[k]).val]) (ys := [.bool true, ek.key, ek.val]) ⟨bool_vr, q3.1, q3.2.1, rfl⟩, hset.1, hset.2, setK_spec hq⟩
          · exact k1.elim
        · exact k1.elim
      · exact k1.elim
    · exact g1.elim
  · exact hk.elim
theorem lastK_spec {K : Nat → Prop} : ∀ {l : List Nat}, lastK l K → ∃ n, l.getLast? = some n ∧ K n
  | [], hk => hk.elim
  | [n], hk => ⟨n, rfl, hk⟩
  | n :: m :: l, hk => by
    have hk' : lastK (m :: l) K := hk
    obtain ⟨q, h1, h2⟩ := lastK_spec hk'
    exact ⟨q, by rw [List.getLast?_cons_cons]; exact h1, h2⟩
theorem bornK_spec {n : Nat} {K : MapEntry → Prop} : ∀ {es es' : List MapEntry}, All2 (ER φ) es es' → bornK n es K → ∃ e e', es'.find? (·.born == n) = some e' ∧ K e ∧ ER φ e e'
  | [], es', hl, hk => hk.elim
  | e :: es, [], hl, hk => hl.elim
  | e :: es, e' :: es', hl, hk => by
    have hk' : match Nat.beq e.born n with
      | true => K e
      | false => bornK n es K := hk
    have hb : e'.born = e.born := hl.1.2.2
    cases hc : Nat.beq e.born n with
    | true =>
      rw [hc] at hk'
      have := Nat.eq_of_beq_eq_true hc
      exact ⟨e, e', by rw [List.find?_cons_of_pos (by rw [hb, this]; simp)], hk', hl.1⟩
    | false =>
      rw [hc] at hk'
      obtain ⟨q, q', h1, h2, h3⟩ := bornK_spec hl.2 hk'
      have hne : ¬ e.born = n := by rintro e1; rw [e1, Nat.beq_refl] at hc; cases hc
      exact ⟨q, q', by rw [List.find?_cons_of_neg (by rw [hb]; simpa using hne)]; exact h1, h2, h3⟩
theorem oEntry_spec {x x' : Value} (hw : WR B φ h w) (hx : VR φ x x') (hk : oEntry x h K) : DoneR B φ h w ((Instr.entry x').run P w) K := by
  unfold oEntry at hk
  split at hk
  · rename_i r
    obtain ⟨row, g0, g1⟩ := rowK_spec hk
    obtain ⟨s, hs, rfl⟩ := hx.inv
    obtain ⟨s', g2, g3⟩ := hw.rows r _ g0
    rw [hs] at g2
    cases g2
    split at g1
    · rename_i m since seen stepped
      obtain ⟨hb0, sm, g4, g5⟩ := g3
      obtain ⟨row2, k0, k1⟩ := rowK_spec g1
      split at k1
      · rename_i es clock
        obtain ⟨sm', k2, k3⟩ := hw.rows m _ k0
        rw [g4] at k2
        cases k2
        obtain ⟨es', k4, k5⟩ := k3
        split at k1
        · rename_i hcs
          have hcs' := Nat.eq_of_beq_eq_true hcs
          subst hcs'
          obtain ⟨n, q1, q2⟩ := lastK_spec k1
          obtain ⟨e, e', q3, q4, q5⟩ := bornK_spec k5 q2
          have hback : seen.back? = some n := by rw [← Array.getLast?_toList]; exact q1
          have hfind : es'.find? (·.born == n) = some e' := by rw [← Array.find?_toList]; exact q3
          have he : (Instr.entry (.pointer (some ⟨s.b, s.base + 0, none⟩))).run P w = .ok (.tuple #[e'.key, e'.val]) w := by
            rw [hb0]
            simp only [Instr.entry, Sem.run_bind, run_getIter g5, Result.andThen_ok, hback, run_getMap k4, bne_self_eq_false, Bool.false_eq_true, if_false, hfind, Sem.run_pure]
          rw [he]
          exact .same hw (tuple_vr (xs := [e.key, e.val]) (ys := [e'.key, e'.val]) ⟨q5.1, q5.2.1, rfl⟩) q4
        · exact k1.elim
      · exact k1.elim
    · exact g1.elim
  · exact hk.elim
end

end Rn
end Go.Proofs.YtllbjkeahafleaaGreatDoor
