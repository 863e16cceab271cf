/-
  What the proof leans on, part 19 of 23. The conditions stand in each theorem.
-/
import Derived.Test.YtildemmkhndhjaaGreatDoorB17
import Derived.Test.YtildemmkhndhjaaGreatDoorB18
import Derived.Test.YtildemmkhndhjaaGreatDoorB10
import Derived.Deep.DeepCutAuto
import Derived.Test.YtildemmkhndhjaaGreatDoorB11
import Derived.Test.YtildemmkhndhjaaGreatDoorB12
import Derived.Deep.RegionHeld3
import Derived.Test.YtildemmkhndhjaaGreatDoorB14
namespace Go.Proofs.YtildemmkhndhjaaGreatDoor
open Go.RowKit

theorem out_magic1 {t t1 : St} {x : List UInt8} (h : Out (pTake 4) t x t1) (hx : x = magicL) : Out pMagic t () t1 := by
  unfold Out at h ⊢
  cases t with
  | inl f => exact h
  | inr u =>
    simp only [pMagic, pBind] at h ⊢
    cases hp : pTake 4 u with
    | inl f => simp only [hp] at h ⊢; exact h
    | inr z =>
      obtain ⟨y, u'⟩ := z
      simp only [hp] at h ⊢
      obtain ⟨rfl, rfl⟩ := h
      simp [hx, pDone]

theorem out_magic2 {t t1 : St} {x : List UInt8} (h : Out (pTake 4) t x t1) (hx : x ≠ magicL) : Out pMagic t () (tRefuse 0 13 t1) := by
  unfold Out at h ⊢
  cases t with
  | inl f =>
    simp only at h
    subst h
    rfl
  | inr u =>
    simp only [pMagic, pBind] at h ⊢
    cases hp : pTake 4 u with
    | inl f =>
      simp only [hp] at h ⊢
      subst h
      rfl
    | inr z =>
      obtain ⟨y, u'⟩ := z
      simp only [hp] at h ⊢
      obtain ⟨rfl, rfl⟩ := h
      simp [hx, pFail, tRefuse]

theorem out_end1 {t : St} {n : Nat} {m : Mo} (hn : ∀ u, t = .inr u → n = u.1.length) (h0 : n = 0) : Out (pEnd m) t m t := by
  unfold Out
  cases t with
  | inl f => rfl
  | inr u =>
    have := hn u rfl
    have e : u.1 = [] := List.eq_nil_of_length_eq_zero (by omega)
    simp [pEnd, e]

theorem out_end2 {t : St} {n k : Nat} {m : Mo} (hn : ∀ u, t = .inr u → n = u.1.length) (hk : ∀ u, t = .inr u → k = u.2) (h0 : 0 < n) : Out (pEnd m) t m (tRefuse (k : Int) 12 t) := by
  unfold Out
  cases t with
  | inl f => rfl
  | inr u =>
    have h1 := hn u rfl
    have h2 := hk u rfl
    have e : u.1 ≠ [] := fun e => by rw [e] at h1; simp at h1; omega
    simp [pEnd, e, tRefuse, h2]

/-- A new block of a module, with nothing in it yet. -/
def On (w : World) (b B sb r d : Nat) : Prop := Mo2 w b (.slice none 0 0) (.slice none 0 0) ∧ B ≤ b ∧ b ≠ sb ∧ b ≠ r ∧ b ≠ d

theorem On.call {z z' : World} {b B sb r d : Nat} {X : List Nat} (h : On z b B sb r d) (hX : Only X z z') (hx : ∀ x ∈ X, x = sb ∨ x = r) : On z' b B sb r d :=
  ⟨h.1.only hX (fun hm => (hx b hm).elim h.2.2.1 h.2.2.2.1), h.2⟩

theorem On.newC {W z z' : World} {sb r d : Nat} {t : St} {X : List Nat} (h : Sc z sb r d t) (hS : Only [sb, r] W z) (hX : Only X (z.alloc (.cells #[.slice none 0 0, .slice none 0 0] 32)) z') (hx : ∀ x ∈ X, x = sb ∨ x = r) : On z' z.heap.size W.heap.size sb r d ∧ z.heap.size < (z.alloc (.cells #[.slice none 0 0, .slice none 0 0] 32)).heap.size := by
  have := h.lt
  exact ⟨On.call ⟨mo2_new _ _ _ _, hS.size, by omega, by omega, by omega⟩ hX hx, by simp⟩

theorem On.newD {W z' : World} {sb r d : Nat} {t : St} {X : List Nat} (h : Sc W sb r d t) (hX : Only X (W.alloc (.cells #[.slice none 0 0, .slice none 0 0] 32)).drew z') (hx : ∀ x ∈ X, x = sb ∨ x = r) : On z' W.heap.size W.heap.size sb r d ∧ W.heap.size < (W.alloc (.cells #[.slice none 0 0, .slice none 0 0] 32)).drew.heap.size := by
  have := h.lt
  have h0 : On (W.alloc (.cells #[.slice none 0 0, .slice none 0 0] 32)) W.heap.size W.heap.size sb r d := ⟨mo2_new _ _ _ _, Nat.le_refl _, by omega, by omega, by omega⟩
  exact ⟨On.call (On.call (X := []) h0 ((Only.refl [] _).drew) (by simp)) hX hx, by simp⟩

theorem On.callC {z z' : World} {b B sb r d : Nat} {X : List Nat} (h : On z b B sb r d) (hX : Only X z z') (hx : ∀ x ∈ X, x = sb ∨ x = r) : On z' b B sb r d ∧ b < z.heap.size := ⟨h.call hX hx, World.block_lt_of_cell? z _ h.1.c0⟩

def EnFit (x : En) : Prop := x.2.1.length ≤ 262144 ∧ -9223372036854775808 ≤ x.2.2.1 ∧ x.2.2.1 ≤ 9223372036854775807

theorem rows_en4096 {w : World} {sb r d : Nat} {t : St} (h : Sc w sb r d t) :
    Calls Tryz.prog 76 #[.pointer (some ⟨sb, 0, none⟩), .func (.func 77) #[.pointer (some ⟨r, 0, none⟩)] #[], .int .i64 4096, .func (.func 78) #[.pointer (some ⟨sb, 0, none⟩)] #[]] w
      fun e w' => ∃ (xs : List En) (t' : St) (ao : Option Addr) (cap : Nat), e = .returned (.slice ao xs.length cap) ∧ OwR w' w.heap.size (fun g => g < w'.heap.size) 90 6 (.slice ao xs.length cap) xs.length (ecs xs) ∧ AllFit EnFit xs ∧ Sc w' sb r d t' ∧ Out (pRows 2 4096 pEntry) t xs t' ∧ Only [sb, r] w w' :=
  (rows_en h 4096 (by decide)).mono fun e w' h => by
    obtain ⟨xs, t', ao, cap, h1, h2, h3, _, h5, h6, h7⟩ := h
    exact ⟨xs, t', ao, cap, h1, ⟨h2, fun g hg => (h2.lt g hg).2⟩, h3, h5, h6, h7⟩

theorem rows_cl64 {w : World} {sb r d : Nat} {t : St} (h : Sc w sb r d t) :
    Calls Tryz.prog 79 #[.pointer (some ⟨sb, 0, none⟩), .func (.func 80) #[.pointer (some ⟨r, 0, none⟩)] #[], .int .i64 64, .func (.func 81) #[.pointer (some ⟨sb, 0, none⟩)] #[]] w
      fun e w' => ∃ (xs : List Cl) (t' : St) (ao : Option Addr) (cap : Nat), e = .returned (.slice ao xs.length cap) ∧ ∃ mcs : List Value, OwR w' w.heap.size (fun _ => True) 28 6 (.slice ao xs.length cap) xs.length mcs ∧ Els 6 (ClC (OwR w' w.heap.size (fun _ => True))) mcs xs ∧ AllFit ClFit xs ∧ Sc w' sb r d t' ∧ Out (pRows 1 64 pClass) t xs t' ∧ Only [sb, r] w w' :=
  (rows_cl h 64 (by decide)).mono fun e w' h => by
    obtain ⟨xs, t', ao, cap, h1, mcs, h2, h3, h4, _, h5, h6, h7⟩ := h
    exact ⟨xs, t', ao, cap, h1, mcs, ⟨h2, fun _ _ => trivial⟩, h3.imp fun _ _ _ h => h.imp fun _ _ _ _ _ g => ⟨g.1, fun _ _ => trivial⟩, h4, h5, h6, h7⟩

/-- What the two rows leave: the local variable's block. -/
def Ocut (W : World) (sb r d : Nat) (t : St) (s3 : Value) (wx : World) : Prop :=
  ∃ (lb : Nat) (m : Mo) (t1 t2 : St) (vp vc : Value), s3 = .pointer (some ⟨lb, 0, none⟩) ∧ Mo2 wx lb vp vc ∧ MoAt (OwR wx W.heap.size (fun g => g ≠ lb)) vp vc m ∧ AllFit EnFit m.pool ∧ AllFit ClFit m.classes ∧ Sc wx sb r d t2 ∧ Only [sb, r] W wx ∧ W.heap.size ≤ lb ∧ lb ≠ sb ∧ lb ≠ r ∧ lb ≠ d ∧ Out (pRows 2 4096 pEntry) t m.pool t1 ∧ Out (pRows 1 64 pClass) t1 m.classes t2

theorem Ocut.old {W za w1 zb w2 : World} {sb r d b cap ccap : Nat} {t t1 t2 : St} {xs : List En} {cs : List Cl} {mcs : List Value} {ao co : Option Addr} (hB : sb < W.heap.size ∧ r < W.heap.size)
    (h1 : OwR w1 za.heap.size (fun g => g < w1.heap.size) 90 6 (.slice ao xs.length cap) xs.length (ecs xs)) (f1 : AllFit EnFit xs) (O1 : Out (pRows 2 4096 pEntry) t xs t1) (hz : W.heap.size ≤ za.heap.size) (o12 : Only [sb, r] w1 w2) (hbz : b < za.heap.size ∨ w1.heap.size ≤ b)
    (h2 : OwR w2 zb.heap.size (fun _ => True) 28 6 (.slice co cs.length ccap) cs.length mcs) (hE : Els 6 (ClC (OwR w2 zb.heap.size (fun _ => True))) mcs cs) (f2 : AllFit ClFit cs) (hs : Sc w2 sb r d t2) (O2 : Out (pRows 1 64 pClass) t1 cs t2) (hz2 : W.heap.size ≤ zb.heap.size) (ho : Only [sb, r] W w2) (hM : On w2 b W.heap.size sb r d) (hl : b < zb.heap.size) :
    Ocut W sb r d t (.pointer (some ⟨b, 0, none⟩)) ((w2.setCell ⟨b, 0, none⟩ (.slice ao xs.length cap)).setCell ⟨b, 1, none⟩ (.slice co cs.length ccap)) := by
  obtain ⟨hm, hb, n1, n2, n3⟩ := hM
  obtain ⟨p, q⟩ := hm.put (.slice ao xs.length cap) (.slice co cs.length ccap)
  have hne : ∀ e k v n us, OwR w2 zb.heap.size (fun _ => True) e k v n us → OwR ((w2.setCell ⟨b, 0, none⟩ (.slice ao xs.length cap)).setCell ⟨b, 1, none⟩ (.slice co cs.length ccap)) W.heap.size (fun g => g ≠ b) e k v n us := by
    intro e k v n us h
    refine ⟨rows_mono (rows_only h.1 q (fun g hg => ?_)) hz2, fun g hg => ?_⟩
    · have := (h.1.lt g hg).1
      simp
      omega
    · have := (h.1.lt g hg).1
      omega
  have hp : OwR ((w2.setCell ⟨b, 0, none⟩ (.slice ao xs.length cap)).setCell ⟨b, 1, none⟩ (.slice co cs.length ccap)) W.heap.size (fun g => g ≠ b) 90 6 (.slice ao xs.length cap) xs.length (ecs xs) := by
    refine ⟨rows_mono (rows_only (rows_only h1.1 o12 (fun g hg => ?_)) q (fun g hg => ?_)) hz, fun g hg => ?_⟩
    · have := (h1.1.lt g hg).1
      simp
      omega
    · have := h1.1.lt g hg
      simp
      omega
    · have := h1.1.lt g hg
      omega
  exact ⟨b, ⟨xs, cs⟩, t1, t2, _, _, rfl, p, ⟨hp, mcs, hne _ _ _ _ _ h2, hE.imp fun _ _ _ h => h.imp hne⟩, f1, f2, hs.other (by simp) (.inl hm.c0) ⟨n1, n2, n3⟩ q, ho.next q (by simp; omega), hb, n1, n2, n3, O1, O2⟩

theorem Ocut.fresh {W za w1 zb w2 : World} {sb r d cap ccap : Nat} {t t1 t2 : St} {xs : List En} {cs : List Cl} {mcs : List Value} {ao co : Option Addr} (hB : sb < W.heap.size ∧ r < W.heap.size)
    (h1 : OwR w1 za.heap.size (fun g => g < w1.heap.size) 90 6 (.slice ao xs.length cap) xs.length (ecs xs)) (f1 : AllFit EnFit xs) (O1 : Out (pRows 2 4096 pEntry) t xs t1) (hz : W.heap.size ≤ za.heap.size) (o12 : Only [sb, r] w1 w2)
    (h2 : OwR w2 zb.heap.size (fun _ => True) 28 6 (.slice co cs.length ccap) cs.length mcs) (hE : Els 6 (ClC (OwR w2 zb.heap.size (fun _ => True))) mcs cs) (f2 : AllFit ClFit cs) (hs : Sc w2 sb r d t2) (O2 : Out (pRows 1 64 pClass) t1 cs t2) (hz2 : W.heap.size ≤ zb.heap.size) (ho : Only [sb, r] W w2) :
    Ocut W sb r d t (.pointer (some ⟨w2.heap.size, 0, none⟩)) (w2.alloc (.cells #[.slice ao xs.length cap, .slice co cs.length ccap] 32)) := by
  have q := (Only.refl [] w2).alloc (.cells #[.slice ao xs.length cap, .slice co cs.length ccap] 32)
  have hl := hs.lt
  have hne : ∀ e k v n us, OwR w2 zb.heap.size (fun _ => True) e k v n us → OwR (w2.alloc (.cells #[.slice ao xs.length cap, .slice co cs.length ccap] 32)) W.heap.size (fun g => g ≠ w2.heap.size) e k v n us := by
    intro e k v n us h
    refine ⟨rows_mono (rows_only h.1 q (by simp)) hz2, fun g hg => ?_⟩
    have := (h.1.lt g hg).2
    omega
  have hp : OwR (w2.alloc (.cells #[.slice ao xs.length cap, .slice co cs.length ccap] 32)) W.heap.size (fun g => g ≠ w2.heap.size) 90 6 (.slice ao xs.length cap) xs.length (ecs xs) := by
    refine ⟨rows_mono (rows_only (rows_only h1.1 o12 (fun g hg => ?_)) q (by simp)) hz, fun g hg => ?_⟩
    · have := (h1.1.lt g hg).1
      simp
      omega
    · have := h1.1.lt g hg
      have := o12.size
      omega
  exact ⟨w2.heap.size, ⟨xs, cs⟩, t1, t2, _, _, rfl, mo2_new _ _ _ _, ⟨hp, mcs, hne _ _ _ _ _ h2, hE.imp fun _ _ _ h => h.imp hne⟩, f1, f2, hs.only0 q, ho.alloc _, ho.size, by omega, by omega, by omega, O1, O2⟩

theorem MoAt.own {w w' : World} {B : Nat} {S : List Nat} {vp vc : Value} {m : Mo} (h : MoAt (OwR w B fun _ => True) vp vc m) (ho : Only S w w') (hS : ∀ k ∈ S, k < B) : MoAt (OwR w' B fun _ => True) vp vc m :=
  h.imp fun _ _ _ _ _ g => ⟨rows_only g.1 ho (fun k hk hm => by
    have := (g.1.lt k hk).1
    have := hS k hm
    omega), fun _ _ => trivial⟩

theorem mo_fit {m : Mo} (h1 : AllFit EnFit m.pool) (h2 : AllFit ClFit m.classes) : MoFit m := ⟨fun e he => Nat.le_trans (h1 e he).1 (by decide), h2⟩

end Go.Proofs.YtildemmkhndhjaaGreatDoor
namespace Go.Proofs.YtildemmkhndhjaaGreatDoor
open Go.RowKit

set_option maxHeartbeats 8000000 in
theorem rmodule_any {w : World} {sb r d : Nat} {t : St} (h : Sc w sb r d t) :
    Calls Tryz.prog 32 #[.pointer (some ⟨sb, 0, none⟩)] w fun e w' => ∃ (m : Mo) (t' : St) (vp vc : Value), e = .returned (.agg #[vp, vc]) ∧ AllFit EnFit m.pool ∧ MoFit m ∧ MoAt (OwR w' (w.heap.size + 1) fun _ => True) vp vc m ∧ Sc w' sb r d t' ∧ Out pModule t m t' ∧ Only [sb, r] w w' := by
  have o0 := hid ((Only.refl [sb, r] w).alloc (.cells #[.slice none 0 0, .slice none 0 0] 32))
  have h0 := h.al (.cells #[.slice none 0 0, .slice none 0 0] 32)
  have hl := h.lt
  clear h
  have R0 := hid (mo2_new w (.slice none 0 0) (.slice none 0 0) 32)
  obtain ⟨W, hW⟩ : ∃ W, W = (w.alloc (.cells #[.slice none 0 0, .slice none 0 0] 32)) := ⟨_, rfl⟩
  have hWs : W.heap.size = w.heap.size + 1 := by rw [hW]; simp
  rw [← hW] at R0 h0 o0
  replace hW := hid hW
  replace hWs := hid hWs
  have c0 := h0.c0
  have HB := hid (sc_bytes h0 4)
  go_enter Tryz.func32, Tryz.ntmps32
  go_upto_region 1 with fail
  rw [← hW.out]
  go_wp2_with fail
  refine HB.out.mono ?_
  rintro e w1 ⟨x, t1, ao, cap, rfl, hx, hown, hs1, hO1, ho1⟩
  have kc := (RS.of_owns hown).1.conv cap
  clear hown HB
  replace hO1 := hid hO1
  have HR := hid (refuse_src hs1 0 13 (by decide))
  have c1 := hs1.c0
  replace hs1 := hid hs1
  have oW := hid (ho1.mono (S' := [sb, r]) (by simp))
  clear ho1
  go_upto_if 10 with fail
  have hc : ((str x).toList == [75, 69, 89, 49]) = decide (x = magicL) := by
    rw [str_toList]
    by_cases e : x = magicL
    · rw [e]
      rfl
    · rw [decide_eq_false e]
      exact beq_eq_false_iff_ne.2 e
  rw [hc]
  generalize hb : decide (x = magicL) = b
  replace hb := hid hb
  clear hc kc
  go_cut [] (fun wx => ∃ t2, Sc wx sb r d t2 ∧ Out pMagic t () t2 ∧ Only [sb, r] W wx)
  case first =>
    cases b with
    | true =>
      go_wp2_with fail
      go_meet
      exact ⟨t1, hs1.out, out_magic1 hO1.out (of_decide_eq_true hb.out), oW.out⟩
    | false =>
      go_wp2_with fail
      refine HR.out.mono ?_
      rintro e w2 ⟨rfl, hs2, ho2⟩
      go_wp2_with fail
      go_meet
      exact ⟨_, hs2, out_magic2 hO1.out (of_decide_eq_false hb.out), oW.out.trans ho2 (by simp)⟩
  case rest =>
    obtain ⟨t2, hS2, hO2, oc⟩ := hcut
    clear HR hs1 oW hb c1 hO1
    have hB : Hid (sb < wc.heap.size ∧ r < wc.heap.size) := ⟨hS2.lt.1, hS2.lt.2.1⟩
    have hk : Hid (wc.cell? ⟨sb, 0, none⟩ = some (.pointer (some ⟨r, 0, none⟩)) ∧ Only [sb, r] wc wc) := ⟨hS2.c0, Only.refl _ _⟩
    have hS0 := hid hS2
    have hR := hid (R0.out.only oc (by simp; omega))
    have oW := hid (o0.out.trans oc (by simp))
    have hws := hid oc.size
    replace hO2 := hid hO2
    clear hS2 oc R0 o0 h0 c0
    go_upto_region 3 with fail
    go_cut [3] (fun s3 wx => Ocut wc sb r d t2 s3 wx)
    case first =>
      refine wp_region_held_drew (S := (fun w' => w'.cell? ⟨sb, 0, none⟩ = some (.pointer (some ⟨r, 0, none⟩)) ∧ Only [sb, r] wc w')) (by kernel_rfl) ?hSb (fun hHeld => ?restb)
      case hSb => exact kdrew0 hk.out
      refine wpAnyH_take (i := 0) (v := ?v0x1) rfl (by kernel_rfl) (by kernel_rfl) (by kernel_rfl) (fun _ _ _ h => h) (Or.inl ⟨by kernel_rfl, ?hy0x1⟩) (by assumption) ?rest0x1
      case hy0x1 =>
        intro w hSw
        try dsimp only at hSw
        go_simp
        try with_reducible rfl
      refine wpAnyH_take (i := 1) (v := ?v1x2) rfl (by kernel_rfl) (by kernel_rfl) (by kernel_rfl) (fun _ _ _ h => h) (Or.inl ⟨by kernel_rfl, ?hy1x2⟩) (by assumption) ?rest1x2
      case hy1x2 =>
        intro w hSw
        try dsimp only at hSw
        go_simp
        try with_reducible rfl
      refine wpAnyH_take (i := 2) (v := ?v2x3) rfl (by kernel_rfl) (by kernel_rfl) (by kernel_rfl) (fun _ _ _ h => h) (Or.inl ⟨by kernel_rfl, ?hy2x3⟩) (by assumption) ?rest2x3
      case hy2x3 =>
        intro w hSw
        try dsimp only at hSw
        go_simp
        try with_reducible rfl
      refine wpAnyH_take (i := 3) (v := ?v3x4) rfl (by kernel_rfl) (by kernel_rfl) (by kernel_rfl) (fun _ _ _ h => h) (Or.inl ⟨by kernel_rfl, ?hy3x4⟩) (by assumption) ?rest3x4
      case hy3x4 =>
        intro w hSw
        try dsimp only at hSw
        go_simp
        try with_reducible rfl
      refine wpAnyH_take (i := 4) (v := ?v4x5) rfl (by kernel_rfl) (by kernel_rfl) (by kernel_rfl) (fun _ _ _ h => h) (Or.inl ⟨by kernel_rfl, ?hy4x5⟩) (by assumption) ?rest4x5
      case hy4x5 =>
        intro w hSw
        try dsimp only at hSw
        go_simp
        try with_reducible rfl
      refine wpAnyH_take (i := 5) (v := ?v5x6) rfl (by kernel_rfl) (by kernel_rfl) (by kernel_rfl) (fun _ _ _ h => h) (Or.inl ⟨by kernel_rfl, ?hy5x6⟩) (by assumption) ?rest5x6
      case hy5x6 =>
        intro w hSw
        try dsimp only at hSw
        go_simp
        try with_reducible rfl
      refine wpAnyH_take (i := 6) (v := ?v6x7) rfl (by kernel_rfl) (by kernel_rfl) (by kernel_rfl) (fun _ _ _ h => h) (Or.inl ⟨by kernel_rfl, ?hy6x7⟩) (by assumption) ?rest6x7
      case hy6x7 =>
        intro w hSw
        try dsimp only at hSw
        go_simp
        try with_reducible rfl
      refine wpAnyH_take (i := 7) (v := ?v7x8) rfl (by kernel_rfl) (by kernel_rfl) (by kernel_rfl) (fun _ _ _ h => h) (Or.inl ⟨by kernel_rfl, ?hy7x8⟩) (by assumption) ?rest7x8
      case hy7x8 =>
        intro w hSw
        try dsimp only at hSw
        go_simp
        try with_reducible rfl
      refine wpAnyH_take (i := 9) (v := ?v9x9) rfl (by kernel_rfl) (by kernel_rfl) (by kernel_rfl) (fun _ _ _ h => h) (Or.inl ⟨by kernel_rfl, ?hy9x9⟩) (by assumption) ?rest9x9
      case hy9x9 =>
        intro w hSw
        try dsimp only at hSw
        go_simp
        try with_reducible rfl
      refine wpAnyH_take (i := 10) (v := ?v10x10) rfl (by kernel_rfl) (by kernel_rfl) (by kernel_rfl) (fun _ _ _ h => h) (Or.inl ⟨by kernel_rfl, ?hy10x10⟩) (by assumption) ?rest10x10
      case hy10x10 =>
        intro w hSw
        try dsimp only at hSw
        go_simp
        try with_reducible rfl
      refine wpAnyH_take (i := 11) (v := ?v11x11) rfl (by kernel_rfl) (by kernel_rfl) (by kernel_rfl) (fun _ _ _ h => h) (Or.inl ⟨by kernel_rfl, ?hy11x11⟩) (by assumption) ?rest11x11
      case hy11x11 =>
        intro w hSw
        try dsimp only at hSw
        go_simp
        try with_reducible rfl
      refine wpAnyH_take (i := 12) (v := ?v12x12) rfl (by kernel_rfl) (by kernel_rfl) (by kernel_rfl) (fun _ _ _ h => h) (Or.inl ⟨by kernel_rfl, ?hy12x12⟩) (by assumption) ?rest12x12
      case hy12x12 =>
        intro w hSw
        try dsimp only at hSw
        go_simp
        try with_reducible rfl
      refine wpAnyH_take (i := 13) (v := ?v13x13) rfl (by kernel_rfl) (by kernel_rfl) (by kernel_rfl) (fun _ _ _ h => h) (Or.inl ⟨by kernel_rfl, ?hy13x13⟩) (by assumption) ?rest13x13
      case hy13x13 =>
        intro w hSw
        try dsimp only at hSw
        go_simp
        try with_reducible rfl
      refine wpAnyH_take (i := 14) (v := ?v14x14) rfl (by kernel_rfl) (by kernel_rfl) (by kernel_rfl) (fun _ _ _ h => h) (Or.inl ⟨by kernel_rfl, ?hy14x14⟩) (by assumption) ?rest14x14
      case hy14x14 =>
        intro w hSw
        try dsimp only at hSw
        go_simp
        try with_reducible rfl
      refine wpAnyH_take (i := 15) (v := ?v15x15) rfl (by kernel_rfl) (by kernel_rfl) (by kernel_rfl) (fun _ _ _ h => h) (Or.inl ⟨by kernel_rfl, ?hy15x15⟩) (by assumption) ?rest15x15
      case hy15x15 =>
        intro w hSw
        try dsimp only at hSw
        go_simp
        try with_reducible rfl
      refine wpAnyH_take (i := 16) (v := ?v16x16) rfl (by kernel_rfl) (by kernel_rfl) (by kernel_rfl) (fun _ _ _ h => h) (Or.inl ⟨by kernel_rfl, ?hy16x16⟩) (by assumption) ?rest16x16
      case hy16x16 =>
        intro w hSw
        try dsimp only at hSw
        go_simp
        try with_reducible rfl
      refine wpAnyH_ready (rs := [8, 19]) (by kernel_rfl) (by simp) ?_
      refine AllReadyH.cons rfl (fun K hK => ?wayA) (AllReadyH.cons rfl (fun K hK => ?wayB) AllReadyH.nil)
      case wayA =>
        go_simp
        go_at_call 76
        refine (rows_en4096 (by first | exact Sc.drew hS0.out | exact Sc.al (Sc.drew hS0.out) _ | exact Sc.drew (Sc.al hS0.out _))).mono ?_
        rintro e w1 ⟨xs, t1, ao, cap, rfl, hown1, hf1, hs1, hO1, ho1⟩
        go_wp2_with fail
        refine hK.out _ _ ?hSA (fun hHeld => ?restA)
        case hSA =>
          first | exact kcall0 hHeld hs1 ho1 (by simp)
        clear hK K
        have hsz1 : wc.heap.size ≤ wc.drew.heap.size := Nat.le_refl _
        have oW1 := hid hHeld.2
        refine wpAnyH_ready (rs := [17, 19]) (by kernel_rfl) (by simp) ?_
        refine AllReadyH.cons rfl (fun K hK => ?wayA1) (AllReadyH.cons rfl (fun K hK => ?wayA2) AllReadyH.nil)
        case wayA1 =>
          go_simp
          go_at_call 79
          refine (rows_cl64 (by first | exact hs1 | exact Sc.al hs1 _)).mono ?_
          rintro e w2 ⟨cs, t2, co, ccap, rfl, mcs, hown2, hE2, hf2, hs2, hO2, ho2⟩
          go_wp2_with fail
          refine hK.out _ _ ?hSA1 (fun hHeld => ?restA1)
          case hSA1 =>
            first | exact kcall0 hHeld hs2 ho2 (by simp)
          clear hK K
          have oW2 := hid hHeld.2
          refine wpAnyH_take (i := 18) (v := ?v18x17) rfl (by kernel_rfl) (by kernel_rfl) (by kernel_rfl) (fun _ _ _ h => h) (Or.inl ⟨by kernel_rfl, ?hy18x17⟩) (by assumption) ?rest18x17
          case hy18x17 =>
            intro w hSw
            try dsimp only at hSw
            go_simp
            try with_reducible rfl
          refine wpAnyH_ready (rs := [19]) (by kernel_rfl) (by simp) ?_
          refine AllReadyH.cons rfl (fun K hK => ?_) AllReadyH.nil
          go_simp
          refine hK.out _ _ ?hSA1b (fun hHeld => ?restA1b)
          case hSA1b =>
            first | exact kalloc0 _ hHeld | exact kdrew0 (kalloc0 _ hk.out)
          clear hK K
          refine wpAnyH_ready (rs := [20]) (by kernel_rfl) (by simp) ?_
          refine AllReadyH.cons rfl (fun K hK => ?_) AllReadyH.nil
          go_simp
          refine hK.out _ _ ?hSA1c (fun hHeld => ?restA1c)
          case hSA1c =>
            first | exact kput0 oW2.out.size (by have := hs2.lt; omega) _ _ (kput0 oW2.out.size (by have := hs2.lt; omega) _ _ hHeld) | exact kalloc0 _ (by assumption)
          clear hK K
          refine wpAnyH_done (by kernel_rfl) ?_ _
          go_wp2_with fail
          go_meet
          exact Ocut.fresh hB.out hown1 hf1 hO1 (Nat.le_refl _) ho2 hown2 hE2 hf2 hs2 hO2 oW1.out.size oW2.out
        case wayA2 =>
          go_simp
          refine hK.out _ _ ?hSA2 (fun hHeld => ?restA2)
          case hSA2 =>
            first | exact kalloc0 _ hHeld | exact kdrew0 (kalloc0 _ hk.out)
          clear hK K
          refine wpAnyH_ready (rs := [17]) (by kernel_rfl) (by simp) ?_
          refine AllReadyH.cons rfl (fun K hK => ?_) AllReadyH.nil
          go_simp
          go_at_call 79
          refine (rows_cl64 (by first | exact hs1 | exact Sc.al hs1 _)).mono ?_
          rintro e w2 ⟨cs, t2, co, ccap, rfl, mcs, hown2, hE2, hf2, hs2, hO2, ho2⟩
          go_wp2_with fail
          refine hK.out _ _ ?hSA2a (fun hHeld => ?restA2a)
          case hSA2a =>
            first | exact kcall0 hHeld hs2 ho2 (by simp)
          clear hK K
          have oW2 := hid hHeld.2
          have hM := On.newC hs1 oW1.out ho2 (by simp)
          have hM1 := hid hM.1
          obtain ⟨⟨m0, m1, g0, g1⟩, mB, mn1, mn2, mn3⟩ := hM.1
          refine wpAnyH_take (i := 18) (v := ?v18x18) rfl (by kernel_rfl) (by kernel_rfl) (by kernel_rfl) (fun _ _ _ h => h) (Or.inl ⟨by kernel_rfl, ?hy18x18⟩) (by assumption) ?rest18x18
          case hy18x18 =>
            intro w hSw
            try dsimp only at hSw
            go_simp
            try with_reducible rfl
          refine wpAnyH_ready (rs := [20]) (by kernel_rfl) (by simp) ?_
          refine AllReadyH.cons rfl (fun K hK => ?_) AllReadyH.nil
          go_simp
          refine hK.out _ _ ?hSA2b (fun hHeld => ?restA2b)
          case hSA2b =>
            exact kput0 mB mn1 _ _ (kput0 mB mn1 _ _ hHeld)
          clear hK K
          refine wpAnyH_done (by kernel_rfl) ?_ _
          go_wp2_with fail
          go_meet
          exact Ocut.old hB.out hown1 hf1 hO1 (Nat.le_refl _) (((Only.refl [sb, r] w1).alloc _).trans ho2 (by simp)) (.inr (Nat.le_refl _)) hown2 hE2 hf2 hs2 hO2 (Nat.le_trans oW1.out.size (by simp)) oW2.out hM1.out hM.2
      case wayB =>
        go_simp
        refine hK.out _ _ ?hSB (fun hHeld => ?restB)
        case hSB =>
          first | exact kalloc0 _ hHeld | exact kdrew0 (kalloc0 _ hk.out)
        clear hK K
        refine wpAnyH_ready (rs := [8]) (by kernel_rfl) (by simp) ?_
        refine AllReadyH.cons rfl (fun K hK => ?_) AllReadyH.nil
        go_simp
        go_at_call 76
        refine (rows_en4096 (by first | exact Sc.drew hS0.out | exact Sc.al (Sc.drew hS0.out) _ | exact Sc.drew (Sc.al hS0.out _))).mono ?_
        rintro e w1 ⟨xs, t1, ao, cap, rfl, hown1, hf1, hs1, hO1, ho1⟩
        go_wp2_with fail
        refine hK.out _ _ ?hSBa (fun hHeld => ?restBa)
        case hSBa =>
          first | exact kcall0 hHeld hs1 ho1 (by simp)
        clear hK K
        have oW1 := hid hHeld.2
        have hM0 := On.newD hS0.out ho1 (by simp)
        refine wpAnyH_ready (rs := [17]) (by kernel_rfl) (by simp) ?_
        refine AllReadyH.cons rfl (fun K hK => ?_) AllReadyH.nil
        go_simp
        go_at_call 79
        refine (rows_cl64 (by first | exact hs1 | exact Sc.al hs1 _)).mono ?_
        rintro e w2 ⟨cs, t2, co, ccap, rfl, mcs, hown2, hE2, hf2, hs2, hO2, ho2⟩
        go_wp2_with fail
        refine hK.out _ _ ?hSBb (fun hHeld => ?restBb)
        case hSBb =>
          first | exact kcall0 hHeld hs2 ho2 (by simp)
        clear hK K
        have oW2 := hid hHeld.2
        have hM := On.callC hM0.1 ho2 (by simp)
        have hM1 := hid hM.1
        obtain ⟨⟨m0, m1, g0, g1⟩, mB, mn1, mn2, mn3⟩ := hM.1
        refine wpAnyH_take (i := 18) (v := ?v18x19) rfl (by kernel_rfl) (by kernel_rfl) (by kernel_rfl) (fun _ _ _ h => h) (Or.inl ⟨by kernel_rfl, ?hy18x19⟩) (by assumption) ?rest18x19
        case hy18x19 =>
          intro w hSw
          try dsimp only at hSw
          go_simp
          try with_reducible rfl
        refine wpAnyH_ready (rs := [20]) (by kernel_rfl) (by simp) ?_
        refine AllReadyH.cons rfl (fun K hK => ?_) AllReadyH.nil
        go_simp
        refine hK.out _ _ ?hSBc (fun hHeld => ?restBc)
        case hSBc =>
          exact kput0 mB mn1 _ _ (kput0 mB mn1 _ _ hHeld)
        clear hK K
        refine wpAnyH_done (by kernel_rfl) ?_ _
        go_wp2_with fail
        go_meet
        exact Ocut.old hB.out hown1 hf1 hO1 (by simp) ho2 (.inl hM0.2) hown2 hE2 hf2 hs2 hO2 oW1.out.size oW2.out hM1.out hM.2
    case rest =>
      obtain ⟨lb, m, t3, t4, vp, vc, rfl, hL, hA, hf1, hf2, hS, ocx, hlb, n1, n2, n3, hO3, hO4⟩ := hcut
      obtain ⟨po, pc, rfl⟩ := rows_slice hA.pool.1
      obtain ⟨ccs0, ⟨hc1, _⟩, _⟩ := hA.classes
      obtain ⟨co, cc, rfl⟩ := rows_slice hc1
      clear hc1
      have hlt := hS.lt
      have hws1 := hWs.out
      have hws2 := hws.out
      have hR1 := hid (hR.out.only ocx (by simp; omega))
      have oW1 := hid (oW.out.trans ocx (by simp))
      have hA1 : Hid (MoAt (OwR wc (w.heap.size + 1) (fun g => g ≠ lb)) (.slice po m.pool.length pc) (.slice co m.classes.length cc) m) := hA.imp (owr_mono (by omega) (fun _ h _ _ => h))
      have HL := hid (sc_left hS)
      have c0 := hS.c0
      clear hR oW hA ocx hk hB hS0
      replace hO3 := hid hO3
      replace hO4 := hid hO4
      replace hS := hid hS
      replace hL := hid hL
      go_wp2_with fail
      refine HL.out.mono ?_
      rintro e w3 ⟨n, rfl, hn, hnu, rfl⟩
      clear HL
      replace hnu := hid hnu
      go_upto_if 37 with fail
      obtain ⟨w0, rfl⟩ : ∃ w0, w0 = wc := ⟨_, rfl⟩
      go_cut [] (fun wx => ∃ t5, Sc wx sb r d t5 ∧ Out (pEnd m) t4 m t5 ∧ Only [sb] w0 wx)
      case first =>
        by_cases h0 : 0 < n
        · have g0 : (0 : Int) < (n : Int) := by omega
          have HA := hid (sc_at hS.out)
          go_wp2_with fail
          refine HA.out.mono ?_
          rintro e w4 ⟨k, rfl, hk, rfl⟩
          have HR := hid (refuse_src hS.out (k : Int) 12 (by decide))
          replace hk := hid hk
          clear HA
          go_wp2_with fail
          refine HR.out.mono ?_
          rintro e w5 ⟨rfl, hs5, ho5⟩
          go_wp2_with fail
          go_meet
          exact ⟨_, hs5, out_end2 hnu.out hk.out h0, ho5⟩
        · have g0 : ¬ (0 : Int) < (n : Int) := by omega
          go_wp2_with fail
          go_meet
          exact ⟨t4, hS.out, out_end1 hnu.out (by omega), Only.refl _ _⟩
      case rest =>
        obtain ⟨t5, hS5, hO5, o5⟩ := hcut
        have hL5 := hid (hL.out.only o5 (by simp; omega))
        have hR5 := hid (hR1.out.only o5 (by simp; omega))
        have oW5 := hid (oW1.out.trans o5 (by simp))
        have hA5 : Hid (MoAt (OwR wc (w.heap.size + 1) fun _ => True) (.slice po m.pool.length pc) (.slice co m.classes.length cc) m) :=
          MoAt.own (hA1.out.imp fun _ _ _ _ _ g => ⟨g.1, fun _ _ => trivial⟩) o5 (by simp; omega)
        have hout : Hid (Out pModule t m t5) := out_bind hO2.out (out_bind hO3.out (out_bind hO4.out hO5))
        replace hS5 := hid hS5
        clear hL hR1 oW1 hA1 hO2 hO3 hO4 hO5 hS c0 hnu o5
        obtain ⟨l0, l1, _, _⟩ := hL5.out
        obtain ⟨e0, e1, z0, z1⟩ := hR5.out
        go_wp2_with fail
        refine bodyPost_ret (v := .agg #[.slice po m.pool.length pc, .slice co m.classes.length cc]) (by simp [results, Tryz.results32, go_sem, e0, e1]) rfl ?_
        obtain ⟨pp, qq⟩ := hR5.out.put (.slice po m.pool.length pc) (.slice co m.classes.length cc)
        exact ⟨m, _, _, _, rfl, hf1, mo_fit hf1 hf2, hA5.out.own qq (by simp), hS5.out.other (by simp) (.inl hR5.out.c0) (by omega) qq, hout.out, oW5.out.next qq (by simp)⟩

end Go.Proofs.YtildemmkhndhjaaGreatDoor
namespace Go.Proofs.YtildemmkhndhjaaGreatDoor
open Go.RowKit

/-- An error that says b: none, or a Bad in a block from B on. -/
inductive EB (w : World) (B : Nat) : Value → Bp → Prop where
  | no {b : Bp} (h : b.2.2.2 = 0) : EB w B .nilIface b
  | bad {b : Bp} {p : Nat} (h : b.2.2.2 ≠ 0) (hp : B ≤ p) (hb : BadAt w p b) : EB w B (badV p) b

theorem EB.ev {w : World} {B : Nat} {v : Value} {b : Bp} (h : EB w B v b) : EV w B v b := by
  cases h with
  | no h => exact .no h
  | bad h hp hb => exact .bad h hp hb

theorem EB.only {w w' : World} {S : List Nat} {B : Nat} {v : Value} {b : Bp} (h : EB w B v b) (ho : Only S w w') (hS : ∀ x ∈ S, x < B) : EB w' B v b := by
  cases h with
  | no h => exact .no h
  | bad h hp hb => exact .bad h hp (hb.only ho fun hm => by have := hS _ hm; omega)

theorem EB.down {w : World} {B C : Nat} {v : Value} {b : Bp} (h : EB w B v b) (hC : C ≤ B) : EB w C v b := by
  cases h with
  | no h => exact .no h
  | bad h hp hb => exact .bad h (by omega) hb

theorem EB.cases_nil {w : World} {B : Nat} {v : Value} {b : Bp} (h : EB w B v b) : (b.2.2.2 = 0 ∧ v = .nilIface) ∨ (b.2.2.2 ≠ 0 ∧ ∃ p, v = badV p ∧ B ≤ p ∧ BadAt w p b) := by
  cases h with
  | no h => exact .inl ⟨h, rfl⟩
  | bad h hp hb => exact .inr ⟨h, _, rfl, hp, hb⟩

end Go.Proofs.YtildemmkhndhjaaGreatDoor
namespace Go.Proofs.YtildemmkhndhjaaGreatDoor
open Go.RowKit

/-- What was wrong, as an error says it. -/
def tBad (t : St) : Bp := match t with
  | .inl f => (0, 0, f.1, f.2)
  | .inr _ => ok4

theorem keepF {w z z' : World} {sb r : Nat} (ho : z = z') (h : z.cell? ⟨sb, 0, none⟩ = some (.pointer (some ⟨r, 0, none⟩)) ∧ Only [] w z) : z'.cell? ⟨sb, 0, none⟩ = some (.pointer (some ⟨r, 0, none⟩)) ∧ Only [] w z' := by
  subst ho
  exact h

theorem keepA {w z : World} {sb r : Nat} (o : Obj) (h : z.cell? ⟨sb, 0, none⟩ = some (.pointer (some ⟨r, 0, none⟩)) ∧ Only [] w z) : (z.alloc o).cell? ⟨sb, 0, none⟩ = some (.pointer (some ⟨r, 0, none⟩)) ∧ Only [] w (z.alloc o) :=
  ⟨cell_alloc o h.1, h.2.alloc o⟩

theorem keepD {w z : World} {sb r : Nat} (h : z.cell? ⟨sb, 0, none⟩ = some (.pointer (some ⟨r, 0, none⟩)) ∧ Only [] w z) : z.drew.cell? ⟨sb, 0, none⟩ = some (.pointer (some ⟨r, 0, none⟩)) ∧ Only [] w z.drew := ⟨h.1, h.2.drew⟩

set_option maxHeartbeats 2000000 in
theorem fault_src {w : World} {sb r d : Nat} {t : St} (h : Sc w sb r d t) :
    Calls Tryz.prog 33 #[.pointer (some ⟨sb, 0, none⟩)] w fun e w' => ∃ v, e = .returned v ∧ EB w' sb v (tBad t) ∧ Only [] w w' := by
  have HF := hid (fine_src h)
  cases h with
  | fine h =>
    go_enter Tryz.func33, Tryz.ntmps33
    go_wp2_with (go_at_call 84; refine HF.out.mono ?_; rintro e w' ⟨rfl, rfl⟩)
    go_ret
    exact ⟨_, rfl, .no rfl, Only.refl _ _⟩
  | cut he h =>
    rename_i l n e
    have hlt : sb < w.heap.size := World.block_lt_of_cell? w _ h.c0
    have HA := hid (fun W (hW : Only [] w W) => at_any (h.rd.only hW (by simp) (by simp)))
    have HE := hid (fun W (hW : Only [] w W) => err_any (h.rd.only hW (by simp) (by simp)))
    simp only at HA HE
    obtain ⟨c0, c1, _⟩ := h
    have c0h := hid c0
    go_enter Tryz.func33, Tryz.ntmps33
    go_wp2_with (go_at_call 84; refine HF.out.mono ?_; rintro e w' ⟨rfl, rfl⟩)
    go_region_held3 (fun w' => w'.cell? ⟨sb, 0, none⟩ = some (.pointer (some ⟨r, 0, none⟩)) ∧ Only [] w w')
      (first | (with_reducible exact ⟨c0h.out, Only.refl _ _⟩) | (with_reducible exact keepD ⟨c0h.out, Only.refl _ _⟩) | (with_reducible exact keepF (by assumption) (by assumption)) | (with_reducible exact keepA _ (by assumption)))
      (first
        | (go_at_call 83; (with_reducible refine (HA.out _ ?_).mono ?_); (simp [*]); rintro e w1 ⟨rfl, hw1⟩)
        | (go_at_call 85; (with_reducible refine (HE.out _ ?_).mono ?_); (simp [*]); rintro e w1 ⟨rfl, hw1⟩))
    rename_i wx hwx hH
    have hO := hH.2
    have hsz : w.heap.size = w1.heap.size := by
      subst hwx
      subst hw1
      rfl
    clear hH
    go_wp2_with fail
    go_ret
    exact ⟨_, rfl, .bad he (by omega) (bad_new w1 0 0 (n : Int) e), hO⟩
  | bad he h hq hn =>
    obtain ⟨c0, c1, _⟩ := h
    go_enter Tryz.func33, Tryz.ntmps33
    go_wp2_with (go_at_call 84; refine HF.out.mono ?_; rintro e w' ⟨rfl, rfl⟩)
    go_ret
    exact ⟨_, rfl, .bad he (by omega) hq, Only.refl _ _⟩

end Go.Proofs.YtildemmkhndhjaaGreatDoor
namespace Go.Proofs.YtildemmkhndhjaaGreatDoor
open Go.RowKit

theorem orE_left {a b : Bp} (h : a.2.2.2 ≠ 0) : orE a b = a := by unfold orE; rw [if_neg h]
theorem orE_right {a b : Bp} (h : a.2.2.2 = 0) : orE a b = b := by unfold orE; rw [if_pos h]

set_option maxHeartbeats 4000000 in
theorem checkClass_any {w : World} (hg : Ety w) {P Q : Nat → Prop} (c : Cl) (hF : ClFit c) {vf vd vm ve : Value} (hC : ClAt (SlR w P) vf vd vm c) {pl : List En} (hEn : SlV w Q ve pl.length (ecs pl)) (hA : ∀ e ∈ pl, e.2.1.length ≤ 9223372036854775807) :
    Calls Tryz.prog 20 #[clV vf vd vm c, ve] w fun e w' => ∃ v, e = .returned v ∧ EV w' w.heap.size v (classE pl c) ∧ Only [] w w' := by
  obtain ⟨hc1, hc2, mcs, hc3, hc4⟩ := hC
  obtain ⟨fo, fc, fd, rfl, h1⟩ := hc1
  obtain ⟨dO, dc, dd, rfl, h2⟩ := hc2
  obtain ⟨mo, mc, md, rfl, h3⟩ := hc3
  have hEn0 := hEn
  obtain ⟨eo, ec, ed, rfl, _⟩ := hEn
  have o0 := ((Only.refl [] w).alloc (.cells #[.int .i64 c.flags, .string (str c.name), .string (str c.super), .slice fo c.faces.length fc, .slice dO c.fields.length dc, .slice mo c.methods.length mc] 28)).alloc (.cells #[.slice eo pl.length ec] 29)
  have hB := (clBlk_new w c (.slice fo c.faces.length fc) (.slice dO c.fields.length dc) (.slice mo c.methods.length mc)).only ((Only.refl [] _).alloc (.cells #[.slice eo pl.length ec] 29)) (by simp)
  have hb : ((w.alloc (.cells #[.int .i64 c.flags, .string (str c.name), .string (str c.super), .slice fo c.faces.length fc, .slice dO c.fields.length dc, .slice mo c.methods.length mc] 28)).alloc (.cells #[.slice eo pl.length ec] 29)).cell? ⟨w.heap.size + 1, 0, none⟩ = some (.slice eo pl.length ec) := by
    have := cell_new (w.alloc (.cells #[.int .i64 c.flags, .string (str c.name), .string (str c.super), .slice fo c.faces.length fc, .slice dO c.fields.length dc, .slice mo c.methods.length mc] 28)) #[.slice eo pl.length ec] 29 0
    rw [World.size_alloc] at this
    exact this
  have l1 : c.faces.length ≤ 9223372036854775807 := by have := h1.le; have := h1.max; omega
  have l2 : c.fields.length ≤ 9223372036854775807 := by have := h2.le; have := h2.max; omega
  have hsz : ((w.alloc (.cells #[.int .i64 c.flags, .string (str c.name), .string (str c.super), .slice fo c.faces.length fc, .slice dO c.fields.length dc, .slice mo c.methods.length mc] 28)).alloc (.cells #[.slice eo pl.length ec] 29)).heap.size = w.heap.size + 2 := by simp
  have HH := checkHead_any c (fo := fo) (dd := dO) (fc := fc) (dc := dc) (.slice mo c.methods.length mc) hF.name hF.super l1 l2
  have H1 := fun W (hW : Only [] w W) => members_str (hg.only0 hW) (cap := fc) (h1.rs.only0 hW) h1.le hF.faces 16 (by decide)
  have H2 := fun W (hW : Only [] w W) => members_fd (hg.only0 hW) (cap := dc) (h2.rs.only0 hW) h2.le hF.fields 64 (by decide)
  have H3 := fun W (hW : Only [] w W) (hcb : ClBlk W w.heap.size (.slice fo c.faces.length fc) (.slice dO c.fields.length dc) (.slice mo c.methods.length mc) c) (heb : W.cell? ⟨w.heap.size + 1, 0, none⟩ = some (.slice eo pl.length ec)) =>
    members_me (hg.only0 hW) (P := P) (Q := Q) (cap := mc) (h3.rs.only0 hW) (hc4.imp fun _ _ _ h => h.imp (slr_only hW (by simp))) h3.le hF.methods w.heap.size (w.heap.size + 1) hcb heb (SlV.only hEn0 hW (by simp)) hA 64 (by decide)
  obtain ⟨X, hX⟩ : ∃ X, X = classE pl c := ⟨_, rfl⟩
  rw [← hX]
  unfold classE at hX
  generalize headE c = he at *
  generalize membersE 16 (at0 faceE) c.faces = m1 at *
  generalize membersE 64 (at0 fieldE) c.fields = m2 at *
  generalize membersE 64 (methodE pl c.flags) c.methods = m3 at *
  unfold clV at HH ⊢
  replace HH := hid HH
  replace H1 := hid H1
  replace H2 := hid H2
  replace H3 := hid H3
  replace hB := hid hB
  replace hb := hid hb
  replace hX := hid hX
  replace hsz := hid hsz
  clear h1 h2 h3 hc4 hEn0 hA hF hg l1 l2
  go_enter Tryz.func20, Tryz.ntmps20
  go_wp2_with fail
  refine (HH.out _).mono ?_
  rintro e w1 ⟨rfl, ho1⟩
  obtain ⟨c0, c1, c2, c3, c4, c5⟩ := hB.out.only ho1 (by simp)
  have o1 := o0.next ho1 (by simp)
  by_cases h1 : he = 0
  · subst h1
    rw [bare_nil.2 rfl]
    go_wp2_with fail
    refine (H1.out _ o1).mono ?_
    rintro e w2 ⟨v1, rfl, hev1, ho2⟩
    obtain ⟨c0, c1, c2, c3, c4, c5⟩ := hB.out.only (ho1.next ho2 (by simp)) (by simp)
    have o2 := o1.next ho2 (by simp)
    rcases hev1.nil_iff with ⟨e1, rfl⟩ | ⟨e1, t, u, rfl⟩
    · go_wp2_with fail
      refine (H2.out _ o2).mono ?_
      rintro e w3 ⟨v2, rfl, hev2, ho3⟩
      have hB3 := hid (hB.out.only ((ho1.next ho2 (by simp)).next ho3 (by simp)) (by simp))
      obtain ⟨c0, c1, c2, c3, c4, c5⟩ := hB3.out
      have o3 := o2.next ho3 (by simp)
      rcases hev2.nil_iff with ⟨e2, rfl⟩ | ⟨e2, t, u, rfl⟩
      · have hb3 := hid ((((ho1.next ho2 (by simp)).next ho3 (by simp)).cell (p := ⟨w.heap.size + 1, 0, none⟩) (by have := hsz.out; show w.heap.size + 1 < _; omega) (by simp)).trans hb.out)
        go_wp2_with fail
        refine (H3.out _ o3 hB3.out hb3.out).mono ?_
        rintro e w4 ⟨v3, rfl, hev3, ho4⟩
        go_wp2_with fail
        go_ret
        refine ⟨v3, rfl, ?_, o3.next ho4 (by simp)⟩
        rw [hX.out, orE_right rfl, orE_right e1, orE_right e2]
        exact hev3.down o3.size
      · go_wp2_with fail
        go_ret
        refine ⟨_, rfl, ?_, o3⟩
        rw [hX.out, orE_right rfl, orE_right e1, orE_left e2]
        exact hev2.down o2.size
    · go_wp2_with fail
      go_ret
      refine ⟨_, rfl, ?_, o2⟩
      rw [hX.out, orE_right rfl, orE_left e1]
      exact hev1.down o1.size
  · have hbv : bareV he = .iface 63 (.int .i64 he) := by unfold bareV; rw [if_neg h1]
    rw [hbv]
    go_wp2_with fail
    go_ret
    refine ⟨_, rfl, ?_, o1⟩
    rw [hX.out, orE_left h1]
    exact .num h1

theorem classesE_drop (p : List En) (l : List Cl) (j : Nat) (h : j < l.length) : classesE p j (l.drop j) = if (classE p l[j]).2.2.2 = 0 then classesE p (j + 1) (l.drop (j + 1)) else inC j (classE p l[j]) := by
  rw [List.drop_eq_getElem_cons h, classesE]

theorem twiceE_drop (l : List Cl) (j : Nat) (h : j < l.length) : twiceE (l.take j) (l.drop j) = if (l.take j).any (fun d => decide (d.name = l[j].name)) = true then ((j : Int), 0, 0, 20) else twiceE (l.take (j + 1)) (l.drop (j + 1)) := by
  rw [List.drop_eq_getElem_cons h, twiceE, List.take_succ_eq_append_getElem h, List.length_take, Nat.min_eq_left (by omega)]

set_option maxHeartbeats 8000000 in
theorem mcheck_any {w : World} (hg : Ety w) {P : Nat → Prop} (m : Mo) (hF : MoFit m) {vp vc : Value} (hM : MoAt (SlR w P) vp vc m) :
    Calls Tryz.prog 9 #[.agg #[vp, vc]] w fun e w' => ∃ v, e = .returned v ∧ EB w' w.heap.size v (checkM m) ∧ Only [] w w' := by
  obtain ⟨hp0, ccs, hc0, hce⟩ := hM
  have hp := hp0
  obtain ⟨po, pc, pd, rfl, hp1⟩ := hp
  obtain ⟨co, cc, cd, rfl, hc1⟩ := hc0
  have lp : m.pool.length ≤ 9223372036854775807 := by have := hp1.le; have := hp1.max; omega
  have o0 := (Only.refl [] w).alloc (.cells #[.slice po m.pool.length pc, .slice co m.classes.length cc] 32)
  have b0 : (w.alloc (.cells #[.slice po m.pool.length pc, .slice co m.classes.length cc] 32)).cell? ⟨w.heap.size, 0, none⟩ = some (.slice po m.pool.length pc) := by rw [cell_new]; rfl
  have b1 : (w.alloc (.cells #[.slice po m.pool.length pc, .slice co m.classes.length cc] 32)).cell? ⟨w.heap.size, 1, none⟩ = some (.slice co m.classes.length cc) := by rw [cell_new]; rfl
  have HP := pcheck_any (cap := pc) (ES.of_rs (hp1.rs.only0 o0)) lp hF.pool
  have HC := fun W (hW : Only [] w W) (c : Cl) (hc : c ∈ m.classes) (vf vd vm : Value) (ha : ClAt (SlR w P) vf vd vm c) => checkClass_any (hg.only0 hW) (P := P) (Q := P) c (hF.classes c hc) (ha.only hW (by simp)) (SlV.only hp0 hW (by simp)) hF.pool
  have HR := fun W (hW : Only [] w W) => hc1.rs.only0 hW
  have hle := hc1.le
  have hmx := hc1.max
  have hsl := slice_hiG elCl Tryz.underlying30 co m.classes.length cc
  have hpos : w.heap.size < (w.alloc (.cells #[.slice po m.pool.length pc, .slice co m.classes.length cc] 32)).heap.size := by simp
  obtain ⟨X, hX⟩ : ∃ X, X = checkM m := ⟨_, rfl⟩
  rw [← hX]
  unfold checkM at hX
  generalize checkE m.pool = ce at *
  obtain ⟨ca, ce⟩ := ce
  simp only at hX HP
  clear hp0 hp1 hc1 hF lp
  obtain ⟨pool, l⟩ := m
  simp only at *
  replace HP := hid HP
  replace HC := hid HC
  replace HR := hid HR
  replace hX := hid hX
  replace hce := hid hce
  replace hsl := hid hsl
  replace hpos := hid hpos
  replace b0 := hid b0
  replace b1 := hid b1
  replace hg := hid hg
  go_enter Tryz.func9, Tryz.ntmps9
  go_wp2_with fail
  refine HP.out.mono ?_
  rintro e w1 ⟨rfl, ho1⟩
  have o1 := hid (o0.next ho1 (by simp))
  have k0 := (ho1.cell (p := ⟨w.heap.size, 0, none⟩) hpos.out (by simp)).trans b0.out
  have k1 := (ho1.cell (p := ⟨w.heap.size, 1, none⟩) hpos.out (by simp)).trans b1.out
  by_cases h1 : ce = 0
  · subst h1
    by_cases hmany : 64 < l.length
    · have gm : (64 : Int) < (l.length : Int) := by omega
      go_wp2_with fail
      go_ret
      refine ⟨_, rfl, ?_, o1.out.alloc _⟩
      rw [hX.out, orE_right rfl, if_pos hmany]
      exact .bad (by decide) o1.out.size (bad_new w1 0 0 0 4)
    have gm : ¬ (64 : Int) < (l.length : Int) := by omega
    rw [orE_right rfl, if_neg hmany] at hX
    have hlt64 : l.length ≤ 64 := by omega
    have k0h := hid k0
    have k1h := hid k1
    go_wp2_with fail
    clear k0 k1 b0 b1 o0 hpos HP ho1
    go_loopw [33] (fun i wr => ∃ (j : Nat), j ≤ l.length ∧ i = .int .i64 (j : Int) ∧ Hid (X = orE (classesE pool j (l.drop j)) (twiceE [] l)) ∧ Hid (wr.cell? ⟨w.heap.size, 0, none⟩ = some (.slice po pool.length pc)) ∧ Hid (wr.cell? ⟨w.heap.size, 1, none⟩ = some (.slice co l.length cc)) ∧ Hid (Only [] w wr)) (fun i _ => l.length - (intOf i).toNat)
    case atStart => exact ⟨0, by omega, rfl, hX, k0h, k1h, o1⟩
    case round =>
      obtain ⟨j, hj, rfl, hq, y0, y1, ho⟩ := hrel
      clear hX k0h k1h o1
      by_cases hlt : j < l.length
      · have g2 : ((j : Int) < (l.length : Int)) := by omega
        have hdr := classesE_drop pool l j hlt
        obtain ⟨off, vf, vd, vm, rfl, hcl, c0, c1, c2, c3, c4, c5⟩ := cl_cells (HR.out _ ho.out) hce.out hlt
        have HC0 := HC.out _ (ho.out.alloc (.cells #[.int .i64 l[j].flags, .string (str l[j].name), .string (str l[j].super), vf, vd, vm] 28)) l[j] (List.getElem_mem hlt) vf vd vm hcl
        obtain ⟨fo, fc, _, rfl, _⟩ := hcl.faces
        obtain ⟨dO, dc, _, rfl, _⟩ := hcl.fields
        obtain ⟨_, ⟨mo, mc, _, rfl, _⟩, _⟩ := hcl.methods
        unfold clV at HC0
        have a0 := cell_alloc (.cells #[.int .i64 l[j].flags, .string (str l[j].name), .string (str l[j].super), .slice fo l[j].faces.length fc, .slice dO l[j].fields.length dc, .slice mo l[j].methods.length mc] 28) y0.out
        have a1 := hid (cell_alloc (.cells #[.int .i64 l[j].flags, .string (str l[j].name), .string (str l[j].super), .slice fo l[j].faces.length fc, .slice dO l[j].fields.length dc, .slice mo l[j].methods.length mc] 28) y1.out)
        have oA := hid (ho.out.alloc (.cells #[.int .i64 l[j].flags, .string (str l[j].name), .string (str l[j].super), .slice fo l[j].faces.length fc, .slice dO l[j].fields.length dc, .slice mo l[j].methods.length mc] 28))
        have hwb : Hid (w.heap.size < wr.heap.size) := World.block_lt_of_cell? wr _ y0.out
        clear hcl
        generalize l[j] = c at *
        generalize classE pool c = x at *
        replace HC0 := hid HC0
        have A0 := hid a0
        go_wp2_with fail
        refine HC0.out.mono ?_
        rintro e w2 ⟨v, rfl, hev, ho2⟩
        rcases hev.nil_iff with ⟨e1, rfl⟩ | ⟨e1, t, u, rfl⟩
        · rw [if_pos e1] at hdr
          rw [hdr] at hq
          replace hdr := hid hdr
          go_wp2_with fail
          refine ⟨⟨j + 1, by omega, by go_num, hq, hid ((ho2.cell (p := ⟨w.heap.size, 0, none⟩) (by have := hwb.out; simp; omega) (by simp)).trans A0.out), hid ((ho2.cell (p := ⟨w.heap.size, 1, none⟩) (by have := hwb.out; simp; omega) (by simp)).trans a1.out), hid (oA.out.next ho2 (by simp))⟩, by simp [intOf]; omega⟩
        · rw [if_neg e1] at hdr
          rw [hdr, orE_left (by exact e1)] at hq
          have o2 := hid (oA.out.next ho2 (by simp))
          have HI := hid (inClass_any (hg.out.only0 o2.out) (B := wr.heap.size) (by have := ho2.size; simp at this; omega) (hev.down (by simp)) e1 (j : Int))
          clear hdr
          go_wp2_with fail
          refine HI.out.mono ?_
          rintro e w3 ⟨p, hp, rfl, hb, ho3, hp3⟩
          go_wp2_with fail
          go_ret
          refine ⟨_, rfl, ?_, o2.out.next ho3 (by simp; have := hwb.out; omega)⟩
          rw [hq.out]
          exact .bad e1 (by have := hwb.out; omega) hb
      · have g2 : ¬ ((j : Int) < (l.length : Int)) := by omega
        rw [List.drop_eq_nil_of_le (by omega)] at hq
        have hq2 : Hid (X = twiceE (l.take 0) (l.drop 0)) := by rw [hq.out]; rfl
        have k1 := y1.out
        clear hq HC
        go_wp2_with fail
        clear k1
        go_loopw [51] (fun i wr => ∃ (j : Nat), j ≤ l.length ∧ i = .int .i64 (j : Int) ∧ Hid (X = twiceE (l.take j) (l.drop j)) ∧ Hid (wr.cell? ⟨w.heap.size, 1, none⟩ = some (.slice co l.length cc)) ∧ Hid (Only [] w wr)) (fun i _ => l.length - (intOf i).toNat)
        case atStart => exact ⟨0, by omega, rfl, hq2, y1, ho⟩
        case round =>
          obtain ⟨j', hj', rfl, hq, z1, ho'⟩ := hrel
          clear hq2 y0 y1 ho
          by_cases hlt : j' < l.length
          · have g4 : ((j' : Int) < (l.length : Int)) := by omega
            have hdr := twiceE_drop l j' hlt
            rw [← hq.out] at hdr
            have hR := HR.out _ ho'.out
            obtain ⟨off, vf, vd, vm, rfl, hcl, c0, c1, c2, c3, c4, c5⟩ := cl_cells hR hce.out hlt
            obtain ⟨fo, fc, _, rfl, _⟩ := hcl.faces
            obtain ⟨dO, dc, _, rfl, _⟩ := hcl.fields
            obtain ⟨_, ⟨mo, mc, _, rfl, _⟩, _⟩ := hcl.methods
            have oA := hid ((Only.refl [] wr).alloc (.cells #[.int .i64 l[j'].flags, .string (str l[j'].name), .string (str l[j'].super), .slice fo l[j'].faces.length fc, .slice dO l[j'].fields.length dc, .slice mo l[j'].methods.length mc] 28))
            have hwb : Hid (w.heap.size < wr.heap.size) := World.block_lt_of_cell? wr _ z1.out
            have hlt2 : (l.take j').length = j' := by rw [List.length_take]; omega
            have HQ := contains_cl (cap := cc) ((hR.take (j' * 6)).only0 oA.out) (hce.out.take j' (by omega)) (by omega) wr.heap.size l[j'].name ((clBlk_new wr l[j'] _ _ _).c1)
            rw [hlt2] at HQ
            have ks := hsl.out j' (by omega)
            have a1 := cell_alloc (.cells #[.int .i64 l[j'].flags, .string (str l[j'].name), .string (str l[j'].super), .slice fo l[j'].faces.length fc, .slice dO l[j'].fields.length dc, .slice mo l[j'].methods.length mc] 28) z1.out
            have A1 := hid a1
            clear hcl hR hlt2 hq
            generalize ((l.take j').any fun d => decide (d.name = l[j'].name)) = z at *
            generalize l[j'] = c at *
            replace HQ := hid HQ
            cases z with
            | true =>
              rw [if_pos rfl] at hdr
              go_wp2_with fail
              refine HQ.out.mono ?_
              rintro e w2 ⟨rfl, ho2⟩
              have o2 := hid (ho'.out.next (oA.out.next ho2 (by simp)) (by simp))
              have HI := hid (inClass_any (hg.out.only0 o2.out) (B := wr.heap.size) (by have := ho2.size; simp at this; omega) (.num (e := 20) (by decide)) (by decide) (j' : Int))
              clear ks hsl
              go_wp2_with fail
              refine HI.out.mono ?_
              rintro e w3 ⟨p, hp, rfl, hb, ho3, hp3⟩
              go_wp2_with fail
              go_ret
              refine ⟨_, rfl, ?_, o2.out.next ho3 (by simp; have := hwb.out; omega)⟩
              rw [hdr]
              exact .bad (by simp) (by have := hwb.out; omega) hb
            | false =>
              rw [if_neg (by simp)] at hdr
              replace hdr := hid hdr
              go_wp2_with fail
              refine HQ.out.mono ?_
              rintro e w2 ⟨rfl, ho2⟩
              go_wp2_with fail
              refine ⟨⟨j' + 1, by omega, by go_num, hdr, hid ((ho2.cell (p := ⟨w.heap.size, 1, none⟩) (by have := hwb.out; simp; omega) (by simp)).trans A1.out), hid (ho'.out.next (oA.out.next ho2 (by simp)) (by simp))⟩, by simp [intOf]; omega⟩
          · have g4 : ¬ ((j' : Int) < (l.length : Int)) := by omega
            rw [List.drop_eq_nil_of_le (by omega)] at hq
            go_wp2_with fail
            go_ret
            refine ⟨_, rfl, ?_, ho'.out⟩
            rw [hq.out]
            exact .no rfl
  · have ge : (ce == 0) = false := by simpa using h1
    rw [orE_left (by exact h1), if_neg h1] at hX
    go_wp2_with fail
    go_ret
    refine ⟨_, rfl, ?_, o1.out.alloc _⟩
    rw [hX.out]
    exact .bad h1 o1.out.size (bad_new w1 0 0 ca ce)

end Go.Proofs.YtildemmkhndhjaaGreatDoor
