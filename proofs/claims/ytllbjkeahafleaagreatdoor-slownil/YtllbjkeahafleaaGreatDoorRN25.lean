/-
  Regions whose order is drawn: what the runner says of the machine by a plan.
-/
import Derived.Test.YtllbjkeahafleaaGreatDoorRN23
set_option linter.unusedSimpArgs false
namespace Go.Proofs.YtllbjkeahafleaaGreatDoor
namespace Rn

theorem setAll_size (X : List Nat) (L : Array Bool) : (setAll X L).size = L.size := by
  unfold setAll
  induction X generalizing L with
  | nil => rfl
  | cons x X ih => rw [List.foldl_cons, ih]; simp
theorem setAll_up (X : List Nat) (L : Array Bool) {k : Nat} (h : L.getD k false = true) : (setAll X L).getD k false = true := by
  unfold setAll
  induction X generalizing L with
  | nil => exact h
  | cons x X ih => rw [List.foldl_cons]; exact ih _ (getD_set_true h)
theorem setAll_mem {X : List Nat} {L : Array Bool} {k : Nat} (hk : k ∈ X) (hl : k < L.size) : (setAll X L).getD k false = true := by
  unfold setAll
  induction X generalizing L with
  | nil => cases hk
  | cons x X ih =>
    rw [List.foldl_cons]
    by_cases e : x = k
    · subst e
      exact setAll_up X _ (by simp [hl])
    · rcases List.mem_cons.1 hk with e' | hk
      · exact absurd e'.symm e
      · exact ih hk (by simpa using hl)
theorem setAll_not {X : List Nat} {L : Array Bool} {k : Nat} (d : Bool) (hk : k ∉ X) : (setAll X L).getD k d = L.getD k d := by
  unfold setAll
  induction X generalizing L with
  | nil => rfl
  | cons x X ih =>
    rw [List.foldl_cons, ih (fun h => hk (by simp [h])), getD_set_ne d (fun e => hk (by simp [e]))]

section
variable {P : Program} {B : Tb} {ops : Array Oper} {X : List Nat} {φ : Fi} {L L' : Array Bool} {Zs : List Pz} {D : Nat → Option Nat} {a a' : Act} {h : Hp} {w w0 : World} {ds : List Deferred}

/-- Of those that may come up each is one of those that may by the plan, were all of Y there. -/
theorem Inv.ready {Y : List Nat} (g : Inv P B ops X w0 φ L L' Zs D a a' h w) (hY : ∀ k, (D k).isSome = true → k ∈ Y) {j : Nat} (hj : j ∈ Region.ready .any ops L') (hn : j ∉ Y) : j ∈ Region.ready .any ops (setAll Y L) := by
  obtain ⟨h1, o, h2, h3⟩ := mem_ready.1 hj
  refine mem_ready.2 ⟨?_, o, h2, fun e he hb => ?_⟩
  · rw [setAll_not true hn]
    exact (g.free h1).2
  · have := h3 e he hb
    rw [g.getD] at this
    split at this
    · rename_i hd
      cases hdd : D e.on with
      | none => rw [hdd] at hd; cases hd
      | some b =>
        obtain ⟨q, k1, k2, _⟩ := g.done _ b hdd
        have := (getD_false (g.item q k1).2.2.2.1).1
        exact setAll_mem (hY _ hd) (by rw [← k2]; exact this)
    · exact setAll_up _ _ this
/-- One of those that make a row whenever they like is got ready, if it may come up. -/
theorem Inv.late (g : Inv P B ops X w0 φ L L' Zs D a a' h w) (hX : ∀ x ∈ X, ∀ o, ops[x]? = some o → ∀ e ∈ o.after, Region.binds .any e = true → e.on ∉ X) (hp : prepared X ops L (Zs.map fun q => q.z.i) = true)
    {j : Nat} (hj : j ∈ Region.ready .any ops L') (hjX : j ∈ X) : ∃ q ∈ Zs, q.z.i = j ∧ D j = none := by
  obtain ⟨h1, o, h2, h3⟩ := mem_ready.1 hj
  obtain ⟨hd, hl⟩ := g.free h1
  have hr : j ∈ Region.ready .any ops L := mem_ready.2 ⟨hl, o, h2, fun e he hb => by
    have := h3 e he hb
    rw [g.getD] at this
    split at this
    · rename_i hdd
      cases hde : D e.on with
      | none => rw [hde] at hdd; cases hdd
      | some b =>
        obtain ⟨q, k1, k2, _⟩ := g.done _ b hde
        have := (g.item q k1).2.2.2.2.2.2.2
        rw [k2] at this
        exact absurd this (hX j hjX o h2 e he hb)
    · exact this⟩
  have := List.all_eq_true.1 hp j hjX
  rw [(getD_false hl).2] at this
  simp only [Bool.false_or, Bool.or_eq_true, Bool.not_eq_true', List.contains_eq_mem, decide_eq_true_eq, decide_eq_false_iff_not] at this
  rcases this with h4 | h4
  · obtain ⟨q, k1, k2⟩ := List.mem_map.1 h4
    exact ⟨q, k1, k2, hd⟩
  · exact absurd hr h4
theorem Inv.mem (g : Inv P B ops X w0 φ L L' Zs D a a' h w) {k : Nat} (hk : (D k).isSome = true) : k ∈ X := by
  cases hd : D k with
  | none => rw [hd] at hk; cases hk
  | some b =>
    obtain ⟨q, k1, k2, _⟩ := g.done k b hd
    rw [← k2]
    exact (g.item q k1).2.2.2.2.2.2.2
theorem lateO_eff {o : Oper} {i : Nat} (hi : ops[i]? = some o) (hl : lateO o = true) : effB ops i = true ∧ o.guard = none := by
  unfold lateO at hl
  split at hl
  · cases hl
  · rename_i hg
    refine ⟨?_, hg⟩
    simp only [effB, hi, readsO]
    split at hl
    · cases hl
    · split at hl <;> rename_i hop
      · rw [hop]; rfl
      · rw [hop]; rfl
      · rw [hop]; rfl
      · rw [hop]; rfl
      · cases hl
theorem St.junk {o : Obj} : St φ h w φ h (w.alloc o) := ⟨fun _ _ g => g, by rw [size_alloc]; omega, fun b hb _ => heap_alloc hb, fun r o s h1 h2 => .inr ⟨r, o, s, h1, h2, rfl⟩, ⟨rfl, rfl, rfl⟩, rfl, fun _ _ _ _ h1 _ hb => ⟨h1, heap_alloc hb⟩⟩

theorem set_listed {L : Array Bool} {i : Nat} (h : L.getD i true = false) : (L.setIfInBounds i true).getD i false = true := by
  have := (getD_false h).1
  simp [this]
theorem Keeps.early {A : List En} {F : List Tk} {q : Pz} (hB : TOK P B) (hw : WR B φ h w) (hA : ∀ e ∈ A, readsO e.o = true ∧ ∃ a, TR ds φ e.t a) (g : Inv P B ops X w0 φ L L' Zs D a a' h w) (hq : q ∈ Zs)
    (hd : D q.z.i = none) (hk : Keeps P B φ ops X L L' A F h w) : Keeps P B φ ops X L (L'.setIfInBounds q.z.i true) A F h (w.alloc (.cells q.c q.z.e)) := fun p hp => by
  obtain ⟨h1, h2, h3, h4, h5, h6, h7, h8⟩ := g.item q hq
  rcases hk p hp with ⟨j, k1, k2, k3⟩ | hl
  · exact .inl ⟨j, k1, k2, getD_set_true k3⟩
  · rcases hl.re with hx | ⟨C, hC⟩
    · rcases hx _ h8 with e | e
      · rw [(getD_false h4).2] at e; cases e
      · refine .inl ⟨_, e, (lateO_eff h1 h2).1, set_listed ?_⟩
        rw [g.getD, hd]
        simpa using h4
    · obtain ⟨_, htr⟩ := hl.tr
      exact .inr ⟨hl.mem, hl.tr, hl.vr, again_tt hB hw.junk (hA _ hl.mem).1 htr hl.vr hC, .inr ⟨C, hC⟩⟩

/-- Whichever of those that were got ready come up first, in the end it is m's turn. -/
theorem early_loop {ro : Option Nat} {A : List En} {F : List Tk} {Q : Exit → Act → World → Prop} {m : Nat} (hB : TOK P B) (hA : ∀ e ∈ A, readsO e.o = true ∧ ∃ a, TR ds φ e.t a) {φ0 : Fi} {h0 : Hp}
    (hrd : ∀ (D : Nat → Option Nat) (L' : Array Bool) (a' : Act) (w : World), Inv P B ops X w0 φ L L' Zs D a a' h w → D m = none → m ∈ Region.ready .any ops L' ∧ ∀ j ∈ Region.ready .any ops L', j = m ∨ (j ≠ m ∧ ∃ q ∈ Zs, q.z.i = j ∧ D j = none))
    (hm : ∀ (n : Nat) (D : Nat → Option Nat) (L' : Array Bool) (a' : Act) (w : World), Inv P B ops X w0 φ L L' Zs D a a' h w → D m = none → WR B φ h w → St φ0 h0 w0 φ h w → Keeps P B φ ops X L L' A F h w → unl L' ≤ n + 1 → m ∈ Region.ready .any ops L' →
      wpOpIn (fen ro) 0 P ops Q m (fun a1 w1 => SF P ops F (L'.setIfInBounds m true) w1 ∧ wpAnyS ro P .any ops Q (SF P ops F) n (L'.setIfInBounds m true) a1 w1) a' w) :
    ∀ (n : Nat) (D : Nat → Option Nat) (L' : Array Bool) (a' : Act) (w : World), Inv P B ops X w0 φ L L' Zs D a a' h w → D m = none → WR B φ h w → St φ0 h0 w0 φ h w → Keeps P B φ ops X L L' A F h w → unl L' ≤ n →
      wpAnyS ro P .any ops Q (SF P ops F) n L' a' w := by
  intro n
  induction n with
  | zero =>
    intro D L' a' w hI hD hw hst hk hu
    have := unl_set (mem_ready.1 (hrd D L' a' w hI hD).1).1
    omega
  | succ n ih =>
    intro D L' a' w hI hD hw hst hk hu
    obtain ⟨h1, h2⟩ := hrd D L' a' w hI hD
    refine ⟨fun e => (by rw [e] at h1; cases h1), fun j hj => ?_⟩
    rcases h2 j hj with rfl | ⟨hne, q, hq, rfl, hd⟩
    · exact hm n D L' a' w hI hD hw hst hk hu hj
    · obtain ⟨g1, g2, g3, g4, g5, g6, g7, g8⟩ := hI.item q hq
      have hns : ∀ cs b, q.o.op ≠ .select cs b := fun cs b e => by
        unfold lateO at g2
        rw [e] at g2
        split at g2
        · cases g2
        · split at g2 <;> cases g2
      have hex : execOp a'.eval q.o = execOp a.eval q.o := by
        refine execOp_congr q.o hns fun x hx => ?_
        cases x with
        | tmp k =>
          show a'.tmps.getD k undef = a.tmps.getD k undef
          rw [Array.getD_eq_getD_getElem?, Array.getD_eq_getD_getElem?, hI.frame k fun y hy hyd e => ?_]
          rcases hI.pair y hy q hq with e2 | ⟨_, p2, _⟩
          · rw [e2, hd] at hyd; cases hyd
          · rw [e] at p2
            exact p2 (List.mem_append_left _ (List.mem_filterMap.2 ⟨.tmp k, by simpa using hx, rfl⟩))
        | const v => rfl
        | global n => rfl
        | func f => rfl
      have hgd := (lateO_eff g1 g2).2
      have hnd : ∀ c, q.o.op ≠ .defer c := fun c e => by
        unfold lateO at g2
        rw [e] at g2
        split at g2
        · cases g2
        · split at g2 <;> cases g2
      unfold wpOpIn
      rw [g1]
      simp only
      rw [if_pos (by simp only [Region.wanted, hgd])]
      refine ⟨fun _ _ => trivial, ?_⟩
      change q.o.uponIn (fen ro) 0 P a' _ Q ((q.o.semAt ro a'.eval).run P w)
      rw [Oper.semAt_eq ro _ _ hnd, hex, g7 w]
      have hk2 := hk.early hB hw hA hI hq hd
      have hI2 := hI.early hw hst.size hq
      refine ⟨hk2.sf, ih _ _ _ _ hI2 (by simp [Ne.symm hne, hD]) hw.junk (hst.trans St.junk) hk2 ?_⟩
      have := unl_set (mem_ready.1 hj).1
      omega

/-- An operation in the machine's frame, by the plan's. -/
theorem wp_over {ro : Option Nat} {o : Oper} {φx : Fi → Tm → Hp → World → Prop} {Q' : Act → World → Prop} {next' : Act → World → Prop} (hds : a.defers = ds) (he : o.semAt ro a'.eval = o.semAt ro a.eval)
    (hwp : o.wpIn (fen ro) 0 P a w (fun a1 w1 => ∃ φ1 t1 h1, TR ds φ1 t1 a1 ∧ φx φ1 t1 h1 w1) fun e a w => e = .normal ∧ Q' a w) (hn : ∀ u w1 φ1 t1 h1, TR ds φ1 t1 (a.put o.dst u) → φx φ1 t1 h1 w1 → next' (a'.put o.dst u) w1) :
    o.wpIn (fen ro) 0 P a' w next' fun e a w => e = .normal ∧ Q' a w := by
  refine ⟨fun _ _ => trivial, ?_⟩
  have hwp := hwp.2
  change o.uponIn (fen ro) 0 P a _ _ ((o.semAt ro a.eval).run P w) at hwp
  change o.uponIn (fen ro) 0 P a' _ _ ((o.semAt ro a'.eval).run P w)
  rw [he]
  generalize (o.semAt ro a.eval).run P w = r at *
  cases r with
  | ok n w' =>
    cases n <;> simp only [Oper.uponIn] at hwp ⊢
    case value u => obtain ⟨_, _, _, h1, h2⟩ := hwp; exact hn u w' _ _ _ h1 h2
    case skip => obtain ⟨_, _, _, h1, h2⟩ := hwp; exact hn _ w' _ _ _ h1 h2
    case defer d =>
      obtain ⟨_, _, _, h1, _⟩ := hwp
      have := h1.defers
      rw [put_defs] at this
      have h2 : d :: a.defers = ds := this
      rw [← hds] at h2
      exact absurd (congrArg List.length h2) (by simp)
    case enter f args =>
      refine ⟨hwp.1, CallsIn.mono hwp.2 fun e w'' he => ?_⟩
      cases e with
      | returned u => obtain ⟨_, _, _, h1, h2⟩ := he; exact hn u w'' _ _ _ h1 h2
      | panicked c => cases he.1
      | outgrown => obtain ⟨_, _, h1, _⟩ := he; cases h1
    case row row args => exact ⟨hwp.1, RowsIn.mono hwp.2 fun u w'' he => by obtain ⟨_, _, _, h1, h2⟩ := he; exact hn u w'' _ _ _ h1 h2⟩
    case round l f tmps assign body =>
      refine ⟨hwp.1, RoundIn.mono hwp.2 fun e w'' he => ?_⟩
      cases e with
      | returned u => obtain ⟨_, _, _, h1, h2⟩ := he; exact hn u w'' _ _ _ h1 h2
      | panicked c => cases he.1
      | outgrown => obtain ⟨_, _, h1, _⟩ := he; cases h1
  | halt x w' =>
    cases x <;> simp only [Oper.uponIn] at hwp ⊢
    case panic u => cases hwp.1
    all_goals first | exact hwp | (obtain ⟨_, _, h1, _⟩ := hwp; cases h1)

theorem peVal_vr {z : Pe} {r b m u : Nat} (hr : φ r = some ⟨b, 0, m, u⟩) (hn : r ≠ NOWHERE) (hz : z.sl = true → z.n ≠ TOP) : VR φ (peVal z r) (peVal z b) := by
  unfold peVal
  cases hs : z.sl with
  | true => exact slice_vr (s := ⟨b, 0, m, u⟩) hn hr (fun _ => rfl) (fun e => absurd e (hz hs))
  | false => exact ptr_vr (s := ⟨b, 0, m, u⟩) hr
end

end Rn
end Go.Proofs.YtllbjkeahafleaaGreatDoor
