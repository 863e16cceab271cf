/-
  Regions whose order is drawn: what the runner says of the machine.
-/
import Derived.Test.YtllbjkeahafleaaGreatDoorRN25
set_option linter.unusedSimpArgs false
namespace Go.Proofs.YtllbjkeahafleaaGreatDoor
namespace Rn

section
variable {P : Program} {B : Tb} {ops : Array Oper} {X : List Nat} {ds : List Deferred}

theorem Keeps.add {φ : Fi} {h : Hp} {w : World} {L L' : Array Bool} {A A' : List En} {F : List Tk} {i : Nat} (hA : ∀ e ∈ A, e ∈ A') (g : Keeps P B φ ops X L L' A F h w) : Keeps P B φ ops X (L.setIfInBounds i true) (L'.setIfInBounds i true) A' F h w := fun p hp => by
  rcases g p hp with ⟨j, h1, h2, h3⟩ | hl
  · exact .inl ⟨j, h1, h2, getD_set_true h3⟩
  · refine .inr ⟨hA _ hl.mem, hl.tr, hl.vr, hl.says, ?_⟩
    rcases hl.re with hx | hx
    · exact .inl fun x hxX => (hx x hxX).imp (fun e => getD_set_true e) id
    · exact .inr hx
theorem noDefer_spec (h : noDefer ops = true) : ∀ (j : Nat) (o : Oper) c, ops[j]? = some o → o.op ≠ .defer c := fun j o c ho e => by
  have hm : o ∈ ops.toList := by
    rw [List.mem_iff_getElem?]
    exact ⟨j, by simpa using ho⟩
  have := List.all_eq_true.1 h o hm
  rw [e] at this
  cases this
/-- Behind an effect. -/
theorem Keeps.effect {φ φ' : Fi} {h h' : Hp} {w w' : World} {L L' L1 L1' : Array Bool} {A A' : List En} {F : List Tk} {i : Nat} (hB : TOK P B) (hw : WR B φ' h' w') (hA : ∀ e ∈ A, readsO e.o = true ∧ ∃ a, TR ds φ e.t a) (hext : ∀ r s, φ r = some s → φ' r = some s)
    (heff : effB ops i = true) (hl1 : ∀ k, L'.getD k false = true → L1'.getD k false = true) (hi : L1'.getD i false = true) (hag : ∀ e ∈ A, i ∈ e.wait ∨ (e ∈ A' ∧ ∃ C, evVal B e.o e.t h' fun v => eqH v e.v C))
    (g : Keeps P B φ ops X L L' A F h w) : Keeps P B φ' ops X L1 L1' A' F h' w' := fun p hp => by
  rcases g p hp with ⟨j, h1, h2, h3⟩ | hl
  · exact .inl ⟨j, h1, h2, hl1 _ h3⟩
  · rcases hag _ hl.mem with k | ⟨k1, C, k2⟩
    · exact .inl ⟨i, k, heff, hi⟩
    · obtain ⟨ds', htr⟩ := hl.tr
      exact .inr ⟨k1, ⟨ds', htr.mono hext⟩, hl.vr.mono hext, again_tt hB hw (hA _ hl.mem).1 (htr.mono hext) (hl.vr.mono hext) k2, .inr ⟨C, k2⟩⟩

theorem evDraw_spec {ro : Option Nat} {call : Nat → List Value → Hp → KV → Prop} {K : Tm → Hp → Prop} {Q' : Act → World → Prop} {φ0 : Fi} {h0 : Hp} {w0 : World} {I : Fi → Hp → World → Prop} (hB : TOK P B) (hc : CallOK P B I call) (hi0 : I φ0 h0 w0) (hsel : Region.noSelect ops = true) (hnd : noDefer ops = true)
    (hX : ∀ x ∈ X, ∀ o, ops[x]? = some o → ∀ e ∈ o.after, Region.binds .any e = true → e.on ∉ X)
    (hq : ∀ φ' t' h' a' w', TR ds φ' t' a' → WR B φ' h' w' → St φ0 h0 w0 φ' h' w' → K t' h' → Q' a' w') :
    ∀ (l : List Step) (L L' : Array Bool) (A : List En) (F : List Tk) (Zs : List Pz) (D : Nat → Option Nat) (φ : Fi) (t : Tm) (h : Hp) (a a' : Act) (w : World) (n : Nat), legal X ops l L (Zs.map fun q => q.z.i) = true →
      Inv P B ops X w0 φ L L' Zs D a a' h w → unl L' ≤ n → WR B φ h w → TR ds φ t a → Keeps P B φ ops X L L' A F h w → (∀ e ∈ A, readsO e.o = true ∧ ∃ a, TR ds φ e.t a) → St φ0 h0 w0 φ h w →
      evDraw B call ops.toList l A (Zs.map fun q => q.z) t h K → wpAnyS ro P .any ops (fun e a w => e = .normal ∧ Q' a w) (SF P ops F) n L' a' w := by
  intro l
  induction l with
  | nil =>
    intro L L' A F Zs D φ t h a a' w n hl hI hu hw ht hkp hA hst hk
    simp only [legal, Bool.and_eq_true] at hl
    have hr : Region.ready .any ops L = [] := eq_of_beq hl.1
    have hZ : Zs = [] := by
      cases Zs with
      | nil => rfl
      | cons q Zs => simp at hl
    subst hZ
    have hD : ∀ k, D k = none := fun k => hI.out fun q hq => by cases hq
    have hL : L' = L := Array.ext_getElem? fun k => by rw [hI.listed k, hD k]; rfl
    have ha : a' = a := by
      have e1 : a'.tmps = a.tmps := Array.ext_getElem? fun k => hI.frame k fun q hq => by cases hq
      have e2 := hI.defers
      cases a
      cases a'
      simp only at e1 e2
      rw [e1, e2]
    subst hL ha
    exact .done hr ⟨rfl, hq φ t h _ w ht hw hst hk⟩ n
  | cons s l ih =>
    intro L L' A F Zs D φ t h a a' w n hl hI hu hw ht hkp hA hst hk
    have hl0 : (legalAt X ops L (Zs.map fun q => q.z.i) s && match s.kd with
      | 2 => legal X ops l L (s.i :: Zs.map fun q => q.z.i)
      | 3 => legal X ops l (L.setIfInBounds s.i true) ((Zs.map fun q => q.z.i).filter fun x => !Nat.beq x s.i)
      | _ => legal X ops l (L.setIfInBounds s.i true) (Zs.map fun q => q.z.i)) = true := hl
    obtain ⟨hl1, hl2⟩ := Bool.and_eq_true_iff.1 hl0
    have hk' : (match ops.toList[s.i]? with
      | some o => dStep B call ops.toList s o (fun A Z t h => evDraw B call ops.toList l A Z t h K) A (Zs.map fun q => q.z) t h
      | none => False) := hk
    obtain ⟨o, ho, hk1⟩ : ∃ o, ops.toList[s.i]? = some o ∧ dStep B call ops.toList s o (fun A Z t h => evDraw B call ops.toList l A Z t h K) A (Zs.map fun q => q.z) t h := by
      cases hoo : ops.toList[s.i]? with
      | none => rw [hoo] at hk'; exact hk'.elim
      | some o => rw [hoo] at hk'; exact ⟨o, rfl, hk'⟩
    have hi : ops[s.i]? = some o := by simpa using ho
    unfold dStep at hk1
    have hns : ∀ cs b, o.op ≠ .select cs b := fun cs b => Region.noSelect_spec hsel _ _ cs b hi
    unfold legalAt at hl1
    rw [hi] at hl1
    simp only at hl1
    -- what is read
    have readCase : ∀ (hro : readOK X ops L (Zs.map fun q => q.z.i) s o = true) (hl2 : legal X ops l (L.setIfInBounds s.i true) (Zs.map fun q => q.z.i) = true),
        (∀ v v', (execOp a.eval o).run P w = .ok (.value v') w → VR φ v v' → ((∀ x ∈ X, L.getD x false = true ∨ x ∈ s.wait) ∨ ∃ C, evVal B o t h fun v2 => eqH v2 v C) → Region.wanted o (yielded ops a.tmps) = true →
          (tmPut t o.dst v fun t' => evDraw B call ops.toList l (⟨o, t, v, s.wait⟩ :: A) (Zs.map fun q => q.z) t' h K) → wpAnyS ro P .any ops (fun e a w => e = .normal ∧ Q' a w) (SF P ops F) n L' a' w) ∧
        (Region.wanted o (yielded ops a.tmps) = false → (tmPut t o.dst undef fun t' => evDraw B call ops.toList l A (Zs.map fun q => q.z) t' h K) → wpAnyS ro P .any ops (fun e a w => e = .normal ∧ Q' a w) (SF P ops F) n L' a' w) := by
      intro hro hl2
      unfold readOK at hro
      simp only [Bool.and_eq_true, Bool.not_eq_true'] at hro
      obtain ⟨hro, hfr, hrdy, hap, hnX, hwt⟩ := hro
      have hZo := apartZ_spec hI hap
      obtain ⟨hex, hwn⟩ := hI.same hns hZo
      have hnZ : ∀ q ∈ Zs, q.z.i ≠ s.i := fun q hq e => by
        have := (hI.item q hq).2.2.2.2.2.2.2
        rw [e] at this
        simp [this] at hnX
      have hDi := hI.out hnZ
      have heff : effB ops s.i = false := by simp only [effB, hi, hro, Bool.not_true]
      have hmem0 : s.i ∈ Region.ready .any ops L := by simpa using hrdy
      have hmem : s.i ∈ Region.ready .any ops L' := by
        obtain ⟨m1, m2, m3, m4⟩ := mem_ready.1 hmem0
        refine mem_ready.2 ⟨by rw [hI.getD, hDi]; simpa using m1, m2, m3, fun e he hb => hI.up (m4 e he hb)⟩
      have hfree : ∀ j oj, ops[j]? = some oj → j ≠ s.i → L'.getD j true = false → (∀ e ∈ oj.after, Region.binds .any e = true → e.on ≠ s.i) → o.apart ops oj = true :=
        fun j oj hj hne hu' hno => Region.free_spec hi hfr j oj hj hne (hI.free hu').2 hno
      have hW : ∀ j oj, ops[j]? = some oj → s.wait.contains j = true → ∃ e ∈ oj.after, Region.binds .any e = true ∧ (e.on = s.i ∨ s.wait.contains e.on = true) := fun j oj hj hc => by
        have hj' := (List.all_eq_true.1 hwt) j (by simpa using hc)
        rw [hj] at hj'
        simp only [Bool.and_eq_true] at hj'
        obtain ⟨e, he, hb⟩ := Array.any_eq_true'.1 hj'.2.2
        simp only [Bool.and_eq_true, Bool.or_eq_true, beq_iff_eq] at hb
        exact ⟨e, he, hb.1, hb.2⟩
      have hun : ∀ j, s.wait.contains j = true → L'.getD j false = false := fun j hc => by
        have hj' := (List.all_eq_true.1 hwt) j (by simpa using hc)
        simp only [Bool.and_eq_true, Bool.not_eq_true'] at hj'
        have hDj : D j = none := hI.out fun q hq e => by
          have := hj'.2.1
          simp only [List.contains_eq_mem, decide_eq_false_iff_not, List.mem_map, not_exists, not_and] at this
          exact this q hq e
        rw [hI.getD, hDj]
        simpa using hj'.1
      have hpos : 1 ≤ n := by
        have := unl_set (mem_ready.1 hmem).1
        omega
      obtain ⟨n, rfl⟩ : ∃ m, n = m + 1 := ⟨n - 1, by omega⟩
      have hu2 : unl (L'.setIfInBounds s.i true) ≤ n := by
        have := unl_set (mem_ready.1 hmem).1
        omega
      refine ⟨fun v v' q1 q2 hre h2 q3 => ?_, fun h2 h1 => ?_⟩
      · obtain ⟨t', q4, q5⟩ := tmPut_spec ht q2 q3
        have hkL : Keeps P B φ ops X L L' (⟨o, t, v, s.wait⟩ :: A) (⟨⟨o, t, v, s.wait⟩, a, v'⟩ :: F) h w := fun p hp => by
          rcases List.mem_cons.1 hp with rfl | hp
          · exact .inr ⟨by simp, ⟨_, ht⟩, q2, q1, hre⟩
          · rcases hkp p hp with g | g
            · exact .inl g
            · exact .inr ⟨by simp [g.mem], g.tr, g.vr, g.says, g.re⟩
        have ih' := ih (L.setIfInBounds s.i true) (L'.setIfInBounds s.i true) (⟨o, t, v, s.wait⟩ :: A) (⟨⟨o, t, v, s.wait⟩, a, v'⟩ :: F) Zs D φ t' h (a.put o.dst v') (a'.put o.dst v') w n hl2
          (hI.step hsel hZo hnZ (St.refl _ _ _)) hu2 hw q5 (hkL.add fun _ h => h)
          (fun e he => by
            rcases List.mem_cons.1 he with rfl | he
            · exact ⟨hro, a, ht⟩
            · exact hA e he) hst q4
        refine wpAnyS.mono (S' := SF P ops (⟨⟨o, t, v, s.wait⟩, a, v'⟩ :: F)) (fun L w g p hp => g p (by simp [hp])) ?_
        exact wpAnyS.first (T := TT P ⟨⟨o, t, v, s.wait⟩, a, v'⟩) (Wi := fun j => s.wait.contains j) (oi := o) (v := v') hi (noDefer_spec hnd) (Region.noSelect_spec hsel) (fun _ _ _ g => by cases g.1) (fun _ _ g => g.read heff) (fun _ _ g => g.add) hW
          (fun L w hu g => g _ (by simp) fun j hj _ => hu j (by simpa using hj)) n L' a' w hfree hmem hun (.inl ⟨by rw [hwn]; exact h2, fun w g => by rw [hex]; exact g⟩) q1 hkL.sf ih'
      · obtain ⟨t', q4, q5⟩ := tmPut_spec ht undef_vr h1
        have ih' := ih (L.setIfInBounds s.i true) (L'.setIfInBounds s.i true) A F Zs D φ t' h (a.put o.dst undef) (a'.put o.dst undef) w n hl2
          (hI.step hsel hZo hnZ (St.refl _ _ _)) hu2 hw q5 (hkp.add fun _ h => h) hA hst q4
        exact wpAnyS.first (T := fun _ => True) (Wi := fun j => s.wait.contains j) (oi := o) (v := undef) hi (noDefer_spec hnd) (Region.noSelect_spec hsel) (fun _ _ _ g => by cases g.1) (fun _ _ g => g.read heff) (fun _ _ g => g.add) hW
          (fun _ _ _ _ => trivial) n L' a' w hfree hmem hun (.inr ⟨by rw [hwn]; exact h2, rfl⟩) trivial hkp.sf ih'
    split at hk1
    · -- it is read
      rename_i hkd
      rw [hkd] at hl1 hl2
      simp only [Bool.and_eq_true] at hl1
      obtain ⟨rc1, rc2⟩ := readCase hl1.1 hl2
      rcases wantB_spec ht hk1 with ⟨h1, h2⟩ | ⟨h1, h2⟩
      · have hro : readsO o = true := by
          have := hl1.1
          unfold readOK at this
          simp only [Bool.and_eq_true] at this
          exact this.1
        obtain ⟨v, v', q1, q2, q3⟩ := evVal_spec hB hw ht hro h1
        refine rc1 v v' q1 q2 (.inl fun x hx => ?_) h2 q3
        have := List.all_eq_true.1 hl1.2 x hx
        simpa [Bool.or_eq_true] using this
      · exact rc2 h2 h1
    · -- an effect
      rename_i hkd
      rw [hkd] at hl1 hl2
      simp only [Bool.and_eq_true, Bool.not_eq_true'] at hl1
      obtain ⟨hro, hnX, hr0, hrdy, hap, hpr⟩ := hl1
      have hr : Region.ready .any ops (setAll X L) = [s.i] := eq_of_beq hr0
      have hnX' : s.i ∉ X := by simpa using hnX
      have hZo := apartZ_spec hI hap
      have hnZ : ∀ q ∈ Zs, q.z.i ≠ s.i := fun q hq e => hnX' (e ▸ (hI.item q hq).2.2.2.2.2.2.2)
      have heff : effB ops s.i = true := by simp only [effB, hi, hro, Bool.not_false]
      have hmem0 : s.i ∈ Region.ready .any ops L := by simpa using hrdy
      refine early_loop (φ0 := φ0) (h0 := h0) (m := s.i) hB hA (fun D1 L1 a1 w1 hI1 hD1 => ?_) (fun n1 D1 L1 a1 w1 hI1 hD1 hw1 hst1 hkp1 hu1 hmem => ?_) n D L' a' w hI (hI.out hnZ) hw hst hkp hu
      · constructor
        · obtain ⟨m1, m2, m3, m4⟩ := mem_ready.1 hmem0
          exact mem_ready.2 ⟨by rw [hI1.getD, hD1]; simpa using m1, m2, m3, fun e he hb => hI1.up (m4 e he hb)⟩
        · intro j hj
          by_cases hjX : j ∈ X
          · obtain ⟨q, k1, k2, k3⟩ := hI1.late hX hpr hj hjX
            exact .inr ⟨fun e => hnX' (e ▸ hjX), q, k1, k2, k3⟩
          · have := hI1.ready (Y := X) (fun k hk => hI1.mem hk) hj hjX
            rw [hr] at this
            exact .inl (List.mem_singleton.1 this)
      · obtain ⟨hex, hwn⟩ := hI1.same hns hZo
        have hlst := set_listed (mem_ready.1 hmem).1
        have hu2 : unl (L1.setIfInBounds s.i true) ≤ n1 := by
          have := unl_set (mem_ready.1 hmem).1
          omega
        unfold wpOpIn
        rw [hi]
        simp only
        rcases wantB_spec ht hk1 with ⟨h1, h2⟩ | ⟨h1, h2⟩
        · rw [if_pos (by rw [hwn]; exact h2)]
          have hexR : o.semAt ro a1.eval = o.semAt ro a.eval := by rw [Oper.semAt_eq ro _ _ (fun c => noDefer_spec hnd _ _ c hi), Oper.semAt_eq ro _ _ (fun c => noDefer_spec hnd _ _ c hi), hex]
          refine (wp_over (φx := fun φ1 t1 h1 w2 => WR B φ1 h1 w2 ∧ St φ h w1 φ1 h1 w2 ∧ againK B s.i h1 A fun A => evDraw B call ops.toList l A (Zs.map fun q => q.z) t1 h1 K) ht.defers hexR
            (evOne_spec hB hc hw1 (hc.step hst1 hi0) ht h1 fun φ' t' h' u w' r1 r2 r3 r4 => ⟨φ', t', h', r1, r2, r3, r4⟩) fun u w2 φ1 t1 h1 r1 ⟨r2, r3, r4⟩ => ?_)
          obtain ⟨A', g1, g2, g3⟩ := againK_spec hB r2 (fun e he => by
            obtain ⟨x1, b, x2⟩ := hA e he
            exact ⟨x1, b, x2.mono r3.ext⟩) r4
          have hk2 : Keeps P B φ1 ops X (L.setIfInBounds s.i true) (L1.setIfInBounds s.i true) A' F h1 w2 := hkp1.effect hB r2 hA r3.ext heff (fun k hk => getD_set_true hk) hlst g3
          exact ⟨hk2.sf, ih _ _ A' F Zs D1 φ1 t1 h1 _ _ w2 n1 hl2 (hI1.step hsel hZo hnZ r3) hu2 r2 r1 hk2 (fun e he => by
            obtain ⟨x1, b, x2⟩ := hA e (g2 e he)
            exact ⟨x1, b, x2.mono r3.ext⟩) (hst1.trans r3) g1⟩
        · rw [if_neg (by rw [hwn, h2]; simp)]
          obtain ⟨t', q4, q5⟩ := tmPut_spec ht undef_vr h1
          have hk2 := hkp1.add (i := s.i) fun _ h => h
          exact ⟨fun _ _ => trivial, hk2.sf, ih _ _ A F Zs D1 φ t' h _ _ w1 n1 hl2 (hI1.step hsel hZo hnZ (St.refl _ _ _)) hu2 hw1 q5 hk2 hA hst1 q4⟩
    · -- it is got ready
      rename_i hkd
      rw [hkd] at hl1 hl2
      simp only [Bool.and_eq_true, Bool.not_eq_true'] at hl1
      obtain ⟨hXm, hlt, hnZ, hrdy, hap⟩ := hl1
      have hZo := apartZ_spec hI hap
      have hmem0 : s.i ∈ Region.ready .any ops L := by simpa using hrdy
      obtain ⟨z, c, g1, g2, g3, g4, g5a, g5b, g6⟩ := prepK_spec hB ht hk1
      have g5 := And.intro g5a g5b
      have hne : ∀ q ∈ Zs, q.z.i ≠ z.i := fun q hq e => by
        simp only [List.contains_eq_mem, decide_eq_false_iff_not, List.mem_map, not_exists, not_and] at hnZ
        exact hnZ q hq (e.trans g2)
      refine ih L L' A F (⟨z, o, c⟩ :: Zs) D φ t h a a' w n (by rw [List.map_cons]; show legal X ops l L (z.i :: _) = true; rw [g2]; exact hl2) ?_ hu hw ht hkp hA hst g1
      refine ⟨fun q hq => ?_, fun q hq q' hq' => ?_, fun k b hd => ?_, hI.inj, hI.defers, hI.size, fun k hk => hI.frame k fun q hq => hk q (by simp [hq]), hI.lsize, hI.listed⟩
      · rcases List.mem_cons.1 hq with rfl | hq
        · exact ⟨by rw [g2]; exact hi, hlt, g3, by rw [g2]; exact (mem_ready.1 hmem0).1, g4, g5, g6, by rw [g2]; simpa using hXm⟩
        · exact hI.item q hq
      · rcases List.mem_cons.1 hq with rfl | hq
        · rcases List.mem_cons.1 hq' with rfl | hq'
          · exact .inl rfl
          · obtain ⟨a1, a2, a3⟩ := Oper.apart_spec (hZo q' hq')
            exact .inr ⟨Ne.symm (hne q' hq'), a3 _ g3, fun e => a2 _ (hI.item q' hq').2.2.1 (by rw [g3, e])⟩
        · rcases List.mem_cons.1 hq' with rfl | hq'
          · obtain ⟨a1, a2, a3⟩ := Oper.apart_spec (hZo q hq)
            exact .inr ⟨hne q hq, a1 _ (hI.item q hq).2.2.1, fun e => a2 _ (hI.item q hq).2.2.1 (by rw [g3, e])⟩
          · exact hI.pair q hq q' hq'
      · obtain ⟨q, k1, k2⟩ := hI.done k b hd
        exact ⟨q, by simp [k1], k2⟩
    · -- it is named
      rename_i hkd
      rw [hkd] at hl1 hl2
      simp only [Bool.and_eq_true] at hl1
      obtain ⟨hZm, hr0, hpr⟩ := hl1
      have hr : Region.ready .any ops (setAll (X.filter fun x => !Nat.beq x s.i) L) = [s.i] := eq_of_beq hr0
      obtain ⟨z, z1, z2, hk2⟩ := pickK_spec hk1
      obtain ⟨q, hqm, rfl⟩ := List.mem_map.1 z1
      rw [dropZ_eq] at hk2
      have hmap : (Zs.map fun q => q.z).filter (fun z => !Nat.beq z.i s.i) = (Zs.filter fun q => !Nat.beq q.z.i s.i).map fun q => q.z := by rw [List.filter_map]; rfl
      have hmapi : (Zs.map fun q => q.z.i).filter (fun x => !Nat.beq x s.i) = (Zs.filter fun q => !Nat.beq q.z.i s.i).map fun q => q.z.i := by rw [List.filter_map]; rfl
      rw [hmap] at hk2
      rw [hmapi] at hl2
      obtain ⟨i1, i2, i3, i4, i5, i6, i7, i8⟩ := hI.item q hqm
      rw [z2] at i1 i4 i8
      have heff : effB ops s.i = true := (lateO_eff i1 i2).1
      -- where it is made already
      have named : ∀ (n1 : Nat) (D1 : Nat → Option Nat) (L1 : Array Bool) (a1 : Act) (w1 : World) (b : Nat), Inv P B ops X w0 φ L L1 Zs D1 a a1 h w1 → D1 s.i = some b → WR B φ h w1 → St φ0 h0 w0 φ h w1 → Keeps P B φ ops X L L1 A F h w1 → unl L1 ≤ n1 →
          wpAnyS ro P .any ops (fun e a w => e = .normal ∧ Q' a w) (SF P ops F) n1 L1 a1 w1 := by
        intro n1 D1 L1 a1 w1 b hI1 hD1 hw1 hst1 hkp1 hu1
        obtain ⟨q', y1, y2, y3, y4, y5, y6⟩ := hI1.done _ b hD1
        have hqq : q' = q := by
          rcases hI1.pair q' y1 q hqm with e | ⟨e, _⟩
          · exact e
          · exact absurd (y2.trans z2.symm) e
        subst hqq
        obtain ⟨φ', h', r, x1, x2, x3, x4, x5, x6, x7, x8⟩ := hw1.name (u := match tget W B q'.z.e with | some i => i.size | none => 0) y3 y4 i5 (fun i hi => by rw [hi]) i6.2 hk2
        obtain ⟨t', p1, p2⟩ := tmPut_spec (ht.mono x2) (peVal_vr x3 x4 i6.1) x5
        obtain ⟨A', g1, g2, g3⟩ := againK_spec hB x1 (fun e he => by
          obtain ⟨k1, b, k2⟩ := hA e he
          exact ⟨k1, b, k2.mono x2⟩) p1
        have hI2 := hI1.name (b := b) (φ' := φ') (h' := h') hsel hqm (by rw [z2]; exact hD1) x2 x6
        rw [z2] at hI2
        have hlst : L1.getD s.i false = true := by rw [hI1.getD, hD1]; rfl
        have hk3 : Keeps P B φ' ops X (L.setIfInBounds s.i true) L1 A' F h' w1 := hkp1.effect hB x1 hA x2 heff (fun k hk => hk) hlst g3
        refine ih _ _ A' F _ _ φ' t' h' _ _ w1 n1 hl2 hI2 hu1 x1 p2 hk3 (fun e he => by
          obtain ⟨k1, b, k2⟩ := hA e (g2 e he)
          exact ⟨k1, b, k2.mono x2⟩) ?_ g1
        refine ⟨fun r s hr => x2 r s (hst1.ext r s hr), hst1.size, hst1.keep, fun r' o' s' hx hs' => ?_, hst1.sm, x7.trans hst1.lo, fun r' o' s' hr' hx hs' hb => ⟨x8 _ _ (hst1.still r' o' s' hr' hx hs' hb).1, (hst1.still r' o' s' hr' hx hs' hb).2⟩⟩
        by_cases hb : s'.b = b
        · exact .inl (by rw [hb]; exact y5)
        · by_cases hsp : Spare φ h s'.b
          · exact absurd rfl (x6 _ hb hsp r' o' s' hx hs')
          · simp only [Spare, Classical.not_forall] at hsp
            obtain ⟨r2, o2, s2, k1, k2, k3⟩ := hsp
            have k3' : s2.b = s'.b := Classical.not_not.1 k3
            rcases hst1.new r2 o2 s2 k1 k2 with g | ⟨r3, o3, s3, g1, g2, g3⟩
            · exact .inl (by omega)
            · exact .inr ⟨r3, o3, s3, g1, g2, g3.trans k3'⟩
      cases hD : D s.i with
      | some b => exact named n D L' a' w b hI hD hw hst hkp hu
      | none =>
        refine early_loop (φ0 := φ0) (h0 := h0) (m := s.i) hB hA (fun D1 L1 a1 w1 hI1 hD1 => ?_) (fun n1 D1 L1 a1 w1 hI1 hD1 hw1 hst1 hkp1 hu1 hmem => ?_) n D L' a' w hI hD hw hst hkp hu
        · constructor
          · have hm : s.i ∈ Region.ready .any ops (setAll (X.filter fun x => !Nat.beq x s.i) L) := by rw [hr]; simp
            obtain ⟨m1, o', m3, m4⟩ := mem_ready.1 hm
            rw [i1] at m3
            cases m3
            refine mem_ready.2 ⟨by rw [hI1.getD, hD1]; simpa using i4, q.o, i1, fun e he hb => hI1.up ?_⟩
            have := m4 e he hb
            rwa [setAll_not false fun hm => hX _ i8 _ i1 e he hb (List.mem_filter.1 hm).1] at this
          · intro j hj
            by_cases hjm : j = s.i
            · exact .inl hjm
            · by_cases hjX : j ∈ X
              · obtain ⟨q2, k1, k2, k3⟩ := hI1.late hX hpr hj hjX
                exact .inr ⟨hjm, q2, k1, k2, k3⟩
              · have := hI1.ready (Y := X.filter fun x => !Nat.beq x s.i) (fun k hk => List.mem_filter.2 ⟨hI1.mem hk, by
                  cases hb : Nat.beq k s.i with
                  | true => rw [Nat.eq_of_beq_eq_true hb, hD1] at hk; cases hk
                  | false => rfl⟩) hj (fun hm => hjX (List.mem_filter.1 hm).1)
                rw [hr] at this
                exact .inl (List.mem_singleton.1 this)
        · have hex : execOp a1.eval q.o = execOp a.eval q.o := by
            refine execOp_congr q.o (fun cs b => Region.noSelect_spec hsel _ _ cs b i1) fun x hx => ?_
            cases x with
            | tmp k =>
              show a1.tmps.getD k undef = a.tmps.getD k undef
              rw [Array.getD_eq_getD_getElem?, Array.getD_eq_getD_getElem?, hI1.frame k fun y hy hyd e => ?_]
              rcases hI1.pair y hy q hqm with e2 | ⟨_, p2, _⟩
              · rw [e2, z2, hD1] at hyd; cases hyd
              · rw [e] at p2
                exact p2 (List.mem_append_left _ (List.mem_filterMap.2 ⟨.tmp k, by simpa using hx, rfl⟩))
            | const v => rfl
            | global n => rfl
            | func f => rfl
          have hgd := (lateO_eff i1 i2).2
          unfold wpOpIn
          rw [i1]
          simp only
          rw [if_pos (by simp only [Region.wanted, hgd])]
          refine ⟨fun _ _ => trivial, ?_⟩
          change q.o.uponIn (fen ro) 0 P a1 _ _ ((q.o.semAt ro a1.eval).run P w1)
          rw [Oper.semAt_eq ro _ _ (fun c => noDefer_spec hnd _ _ c i1), hex, i7 w1]
          have hk3 := hkp1.early hB hw1 hA hI1 hqm (by rw [z2]; exact hD1)
          have hI2 := hI1.early hw1 hst1.size hqm
          rw [z2] at hk3 hI2
          refine ⟨hk3.sf, named _ _ _ _ _ w1.heap.size hI2 (by simp) hw1.junk (hst1.trans St.junk) hk3 ?_⟩
          have := unl_set (mem_ready.1 hmem).1
          omega
    · -- it is read twice
      rename_i hkd
      rw [hkd] at hl1 hl2
      obtain ⟨rc1, rc2⟩ := readCase hl1 hl2
      rcases wantB_spec ht hk1 with ⟨h1, h2⟩ | ⟨h1, h2⟩
      · have hro : readsO o = true := by
          have := hl1
          unfold readOK at this
          simp only [Bool.and_eq_true] at this
          exact this.1
        obtain ⟨v, v', q1, q2, q3⟩ := evVal_spec hB hw ht hro h1
        obtain ⟨v2, v2', p1, p2, p3⟩ := evVal_spec hB hw ht hro q3
        exact rc1 v v' q1 q2 (.inr ⟨_, q3⟩) h2 (eqH_spec p3).2.2
      · exact rc2 h2 h1
    · exact hk1.elim
end

end Rn
end Go.Proofs.YtllbjkeahafleaaGreatDoor
