/-
  What the runner's append says of the machine's.
-/
import Derived.Test.YtllbjkeahafleaaGreatDoorRN8
namespace Go.Proofs.YtllbjkeahafleaaGreatDoor
namespace Rn

theorem growBy_le (need : Nat) : ∀ (r c : Nat), Builtin.growBy need r c ≤ max c (need + (need + 768) / 4)
  | 0, c => by simp only [Builtin.growBy]; omega
  | r + 1, c => by
    simp only [Builtin.growBy]
    split
    · omega
    · have := growBy_le need r (c + (c + 768) / 4)
      omega
theorem nextcap_le {need cap : Nat} (h : cap < need) : Builtin.nextslicecap need cap ≤ 2 * need + 192 := by
  unfold Builtin.nextslicecap
  split
  · omega
  · split
    · omega
    · have := growBy_le need 4 cap
      omega
theorem cap_small {need cap b s : Nat} (h : cap < need) (hb : need * (b + s + 1) ≤ MOST) : ¬ (Builtin.nextslicecap need cap * b > 2 ^ 48) := by
  have h1 := nextcap_le h
  have h2 : b ≤ 1000000000 := by
    have : 1 * (b + s + 1) ≤ need * (b + s + 1) := Nat.mul_le_mul_right _ (by omega)
    simp only [MOST] at hb
    omega
  have h3 : need * b ≤ 1000000000 := by
    have : need * b ≤ need * (b + s + 1) := Nat.mul_le_mul_left _ (by omega)
    simp only [MOST] at hb
    omega
  have h4 : Builtin.nextslicecap need cap * b ≤ (2 * need + 192) * b := Nat.mul_le_mul_right _ h1
  have h5 : (2 * need + 192) * b = 2 * (need * b) + 192 * b := by rw [Nat.add_mul, Nat.mul_assoc]
  omega
theorem need_small {need b s : Nat} (hb : need * (b + s + 1) ≤ MOST) : need ≤ 1000000000 := by
  have : need * 1 ≤ need * (b + s + 1) := Nat.mul_le_mul_left _ (by omega)
  simp only [MOST] at hb
  omega

section
variable {P : Program} {B : Tb} {φ : Fi} {h : Hp} {w : World} {K : KV}

theorem WR.same {w' : World} (hw : WR B φ h w) (he : w'.heap = w.heap) : WR B φ h w' := by
  refine ⟨fun r o ho => ?_, hw.apart, hw.below, hw.live, hw.few, hw.low⟩
  obtain ⟨s, h1, h2⟩ := hw.rows r o ho
  exact ⟨s, h1, h2.keep (fun _ _ h => h) (by rw [he]; exact Nat.le_refl _) (by rw [he])⟩
theorem St.same {w' : World} (he : w'.heap = w.heap) (hsm : Sm w w') : St φ h w φ h w' := ⟨fun _ _ h => h, by rw [he]; exact Nat.le_refl _, fun _ _ _ => by rw [he], fun r o s h1 h2 => .inr ⟨r, o, s, h1, h2, rfl⟩, hsm, rfl, fun _ _ _ _ h1 _ _ => ⟨h1, by rw [he]⟩⟩

theorem ofBytesK_eq : ∀ (l : List UInt8) (K : List Value → Prop), ofBytesK l K = K (l.map fun b => .int .u8 b.toNat)
  | [], _ => rfl
  | b :: l, K => by
    have := ofBytesK_eq l fun t => K (.int .u8 (.ofNat b.toNat) :: t)
    unfold ofBytesK at this ⊢
    change (fN b.toNat fun n => _) = _
    rw [fN_eq]
    exact this
theorem bytes_cr : ∀ (l : List UInt8), All2 (CR φ) (l.map fun b => (.int .u8 b.toNat : Value)) (l.map fun b => (.int .u8 b.toNat : Value))
  | [] => rfl
  | _ :: l => ⟨⟨int_vr, trivial⟩, bytes_cr l⟩

theorem none_cells {size c' : Nat} {w' : World} (a : Addr) : (Builtin.firstCells size 0 (.slice (some a) 0 c')).run P w' = .ok ([] : List Value).toArray w' := by
  have := run_loadCells_list (P := P) w' a [] fun i x hx => by simp at hx
  simp only [Builtin.firstCells, Nat.zero_mul]
  exact this
/-- The first cells of what came. -/
theorem firstK_spec {size n : Nat} {v v' : Value} {K : List Value → Prop} (hw : WR B φ h w) (hv : VR φ v v') (hk : firstK h size n v K) :
    ∃ l l', K l ∧ All2 (CR φ) l l' ∧ l.length = n * size ∧ ∀ w' : World, w'.heap = w.heap → (Builtin.firstCells size n v').run P w' = .ok l'.toArray w' := by
  unfold firstK at hk
  split at hk
  · rename_i r o len c
    rw [fN_eq] at hk
    have hrun : ∀ (a : Addr) (l' : List Value), l'.length = n * size → (∀ (i : Nat) (x : Value), l'[i]? = some x → w.cell? (a.add i) = some x) → ∀ w' : World, w'.heap = w.heap → (loadCells a (n * size)).run P w' = .ok l'.toArray w' := fun a l' hl hc w' he => by
      have := run_loadCells_list (P := P) w' a l' fun i x hx => by
        rw [cell_of_heap (w := w) (by rw [he])]
        exact hc i x hx
      rwa [hl] at this
    split at hk
    · rename_i h0
      have h0' : n * size = 0 := h0
      refine ⟨[], [], hk, rfl, by rw [h0']; rfl, ?_⟩
      rcases hv.inv with ⟨_, _, a, c', rfl, _⟩ | ⟨_, s, c', _, rfl, _⟩
      · exact hrun a [] (by rw [h0']; rfl) (fun i x hx => by simp at hx)
      · exact hrun _ [] (by rw [h0']; rfl) (fun i x hx => by simp at hx)
    · rename_i k h0
      have h0' : n * size = k + 1 := h0
      obtain ⟨l, l', s, h1, h2, h3, h4⟩ := cellsAtK_spec hw hk
      rw [takeK_iff] at h1
      rcases hv.inv with ⟨hr, _⟩ | ⟨_, s', c', h5, rfl, _⟩
      · obtain ⟨x, h6, _⟩ := rowK_spec hk
        exact absurd hr (hw.live r x h6).2
      · rw [h2] at h5
        cases h5
        have hle : k + 1 ≤ l'.length := by rw [h3.length]; exact h1.1
        refine ⟨l.take (k + 1), l'.take (k + 1), h1.2, h3.take _, by rw [List.length_take, Nat.min_eq_left h1.1, h0'], ?_⟩
        refine hrun _ _ (by rw [List.length_take, Nat.min_eq_left hle, h0']) fun i x hx => ?_
        rw [List.getElem?_take] at hx
        split at hx
        · exact h4 i x hx
        · cases hx
  · split at hk
    · refine ⟨[], [], hk, rfl, by simp, ?_⟩
      have e : v' = _ := hv.inv
      subst e
      exact fun _ _ => rfl
    · exact hk.elim
  · split at hk
    · obtain ⟨h0, _, _, a, c', _, rfl, _⟩ := hv.inv
      exact ⟨[], [], hk, rfl, by simp, fun w' _ => none_cells a⟩
    · exact hk.elim
  · rename_i s
    have e : v' = .string s := hv.inv
    subst e
    split at hk
    · rw [ofBytesK_eq, takeK_iff] at hk
      obtain ⟨h1, h2⟩ := hk
      refine ⟨_, (s.data.toList.map fun b => (.int .u8 b.toNat : Value)).take n, h2, (bytes_cr _).take n, by rw [List.length_take, Nat.min_eq_left h1, Nat.mul_one], ?_⟩
      have e : ((s.extract 0 n).data.map fun b => (.int .u8 b.toNat : Value)) = ((s.data.toList.map fun b => (.int .u8 b.toNat : Value)).take n).toArray := by
        apply Array.ext'
        rw [ByteArray.data_extract]
        simp [List.extract_eq_take_drop]
      intro w' _
      simp only [Builtin.firstCells, Sem.run_pure, e]
    · exact hk.elim
  · exact hk.elim
theorem lenVK_spec {v v' : Value} {K : Nat → Prop} (hv : VR φ v v') (hk : lenVK v K) : ∃ n, K n ∧ (Builtin.lenOf v').run P w = .ok n w := by
  unfold lenVK at hk
  split at hk
  · rename_i a n c
    refine ⟨n, hk, ?_⟩
    cases a with
    | none => have e : v' = _ := hv.inv; subst e; rfl
    | some a =>
      obtain ⟨_, _, rfl, _⟩ := slice_shape hv
      rfl
  · rename_i s
    have e : v' = .string s := hv.inv
    subst e
    rw [lenK_eq] at hk
    exact ⟨_, hk, rfl⟩
  · exact hk.elim

/-- A row grows into a new block. -/
theorem grown_new {e sl n : Nat} {i : TI} {cs old new : List Value} {st xt ty : Nat} {s' x' : Value} {base : Option Addr} {sc : Nat} (hB : TOK P B) (hw : WR B φ h w) (hi : tget W B e = some i) (hso : i.solo = false)
    (hst : P.underlying st = some (.slice e)) (hxt : ∃ d, P.underlying xt = some d ∧ ∀ k, d ≠ .int k) (hs : s' = .slice base sl sc)
    (hlen : (Builtin.lenOf x').run P w = .ok n w)
    (hold : ∀ w' : World, w'.heap = w.heap → (Builtin.firstCells i.size sl s').run P w' = .ok old.toArray w')
    (hnew : ∀ w' : World, w'.heap = w.heap → (Builtin.firstCells i.size n x').run P w' = .ok new.toArray w')
    (hol : old.length = sl * i.size) (hnl : new.length = n * i.size) (hgt : sc < sl + n) (hsm : (sl + n) * (i.bytes + i.size + 1) ≤ MOST)
    (hcs : All2 (CR φ) cs (old ++ new)) (hone : 1 ≤ i.size) (hk : grownK h e cs (sl + n) K) :
    Done B φ h w ((Builtin.append_ #[st, xt] ty #[s', x']).run P w) K := by
  obtain ⟨d, hd1, hd2⟩ := hxt
  have hiO := hB.ok e i hi
  obtain ⟨ti, r1, r2, r3⟩ := hiO.info (w := w)
  have r1' : ∀ w' : World, (typeInfo e).run P w' = .ok ti w' := fun w' => by
    obtain ⟨ti', q1, _⟩ := hiO.info (w := w')
    obtain ⟨ti0, _, _, g1, _⟩ := hiO.known
    have a1 : (typeInfo e).run P w = .ok ti0 w := by simp only [typeInfo, Sem.run_bind, run_program, Result.andThen_ok, g1]; rfl
    have a2 : (typeInfo e).run P w' = .ok ti0 w' := by simp only [typeInfo, Sem.run_bind, run_program, Result.andThen_ok, g1]; rfl
    rw [r1] at a1
    cases a1
    exact a2
  have q := fun w' : World => hiO.zero (w := w')
  obtain ⟨z, q1, q2, _, _⟩ := q w
  have q1' : ∀ w' : World, (zeroValue e).run P w' = .ok z w' := fun w' => by
    obtain ⟨ti0, _, z0, g1, _, _, _, _, g6, _⟩ := hiO.known
    have a1 : ∀ w' : World, (zeroValue e).run P w' = .ok z0 w' := fun w' => by
      simp only [zeroValue, typeInfo, Sem.run_bind, run_program, Result.andThen_ok, g1]
      show (match ti0.zero with | some v => pure v | none => unsupported _ : Sem Value).run P w' = _
      rw [g6]
      rfl
    have := a1 w
    rw [q1] at this
    cases this
    exact a1 w'
  have hzs := hiO.zlen q2
  have hmatch : (match d with | .int _ => true | _ => false) = false := by cases d <;> first | rfl | exact absurd rfl (hd2 _)
  have hneed := need_small hsm
  have hcap := cap_small hgt hsm
  have hle : ¬ (sl + n ≤ sc) := by omega
  have hi64 : ¬ (((sl + n : Nat) : Int) > IntKind.i64.max) := by
    simp only [IntKind.max, IntKind.signed, IntKind.bits]
    simp
    omega
  -- the capacity that is drawn
  obtain ⟨cap, hcap1⟩ : ∃ c, c = (Question.appendCap (sl + n) sc e).cut (w.tape w.drawn (.appendCap (sl + n) sc e)) := ⟨_, rfl⟩
  have hcap2 : sl + n ≤ cap := by rw [hcap1]; simp only [Question.cut]; omega
  have hcap3 : cap ≤ MAXL := by
    rw [hcap1]
    simp only [Question.cut, MAXL]
    have : w.tape w.drawn (Question.appendCap (sl + n) sc e) % (2 ^ 63 - (sl + n)) < 2 ^ 63 - (sl + n) := Nat.mod_lt _ (by omega)
    omega
  have hrow : (old.toArray ++ new.toArray ++ Builtin.zeroCells z.cells (cap - (sl + n))).toList = (old ++ new) ++ (Builtin.zeroCells z.cells (cap - (sl + n))).toList := by simp
  have hclen : cs.length = (old ++ new).length := by rw [hcs.length]
  have hsize : (old.toArray ++ new.toArray ++ Builtin.zeroCells z.cells (cap - (sl + n))).size = cap * i.size := by
    have : (Builtin.zeroCells z.cells (cap - (sl + n))).size = (cap - (sl + n)) * i.size := by simp [Builtin.zeroCells, hzs]
    rw [Array.size_append, Array.size_append, this]
    simp only [List.size_toArray, hol, hnl]
    rw [← Nat.add_mul, ← Nat.add_mul]
    congr 1
    omega
  have hk' : newK h (.cells ⟨cs⟩ e) fun r h => K (.slice (some ⟨r, 0, none⟩) (sl + n) TOP) h := by
    unfold grownK at hk
    rw [fN_eq] at hk
    exact hk
  have hwd : WR B φ h w.drew := hw.same rfl
  obtain ⟨φ', h', rr, p1, p2, p3, p4, p5⟩ := newCells (c := old.toArray ++ new.toArray ++ Builtin.zeroCells z.cells (cap - (sl + n))) i.size hwd hk'
    (by rw [hrow, hclen, List.take_append_of_le_length (Nat.le_refl _), List.take_length]; exact hcs)
    (by rw [hsize, hclen, List.length_append, hol, hnl, ← Nat.add_mul]; exact Nat.mul_le_mul_right _ hcap2) (fun k hk => by rw [hi] at hk; cases hk; rfl) (no_solo hi hso)
  refine ⟨φ', h', _, _, .slice (some ⟨w.heap.size, 0, none⟩) (sl + n) cap, ?_, slice_vr (s := ⟨w.heap.size, 0, _, i.size⟩) p4 p3 (fun e => absurd rfl e) (fun _ => ⟨hcap2, by show 0 + cap * i.size = _; rw [Nat.zero_add]; exact hsize.symm, hone, hcap3⟩), p1, (St.same (φ := φ) (h := h) (w := w) (w' := w.drew) rfl ⟨rfl, rfl, rfl⟩).trans p2, p5⟩
  subst hs
  have hroom : ∀ (b : Nat) (w' : World), (askRoom b).run P w' = .ok () w' := fun b w' => by unfold askRoom; split <;> rfl
  have hch : (choose (.appendCap (sl + n) sc e)).run P w = .ok cap w.drew := by
    rw [run_choose_drew, hcap1]
    rfl
  have hz : (underlying xt).run P w = .ok d w := run_underlying hd1 w
  simp only [Builtin.append_, List.getElem?_toArray, List.getElem?_cons_zero, List.getElem?_cons_succ, Sem.run_bind, run_underlying hst, Result.andThen_ok, hiO.size, hz, Sem.run_pure, hlen, Bool.false_eq_true, if_false, hle, hi64, false_and, r1, r3, hcap, hch, hroom, hold w.drew rfl, hnew w.drew rfl, q1', r1', newRow, run_newObj_alloc, Bool.not_false, if_true]
  rfl
end

end Rn
end Go.Proofs.YtllbjkeahafleaaGreatDoor
