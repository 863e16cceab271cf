/-
  What the proof leans on, part 20 of 23. The conditions stand in each theorem.
-/
import Derived.Test.YtildemmkhndhjaaGreatDoorB19
import Derived.Test.YtildemmkhndhjaaGreatDoorB10
import Derived.Test.YtildemmkhndhjaaGreatDoorB12
import Derived.Test.YtildemmkhndhjaaGreatDoorB13
namespace Go.Proofs.YtildemmkhndhjaaGreatDoor
open Go.RowKit

theorem rde_apart {w : World} {r d : Nat} {bs : List UInt8} (h : RdE w r d (bs, 0, 0)) (h0 : 0 < r) : ∃ d', RdE w r d' (bs, 0, 0) ∧ d' ≠ r ∧ (d' = d ∨ d' = 0) := by
  obtain ⟨ao, cap, h⟩ := h
  by_cases e : bs = []
  · subst e
    exact ⟨0, ⟨ao, cap, h.c0, h.c1, h.c2, h.f0, h.f1, h.f2, BS.nil _ _ _, h.capLe, h.capMax, h.capNone, h.fit, fun e => absurd rfl e⟩, by omega, .inr rfl⟩
  · exact ⟨d, ⟨ao, cap, h⟩, h.ne e, .inl rfl⟩

theorem sc_new {w : World} {r d : Nat} {bs : List UInt8} (h : RdE w r d (bs, 0, 0)) (h1 : d ≠ r) (h2 : d < w.heap.size) (hl : bs.length ≤ 262144) : Sc (w.alloc (.cells #[.pointer (some ⟨r, 0, none⟩), .pointer none] 86)) w.heap.size r d (.inr (bs, 0)) := by
  have hr := h.lt
  have o := (Only.refl [] w).alloc (.cells #[.pointer (some ⟨r, 0, none⟩), .pointer none] 86)
  exact .fine ⟨by rw [cell_new]; rfl, by rw [cell_new]; rfl, frozen_new _ _ _ _, h.only o (by simp) (by simp), by omega, by omega, h1, by simp; omega, hl⟩

/-- What reading came to, by where the source stands. -/
theorem readM_of {bs : List UInt8} (hl : ¬ 262144 < bs.length) {m : Mo} {t : St} (h : Out pModule (.inr (bs, 0)) m t) :
    (∃ f, t = .inl f ∧ readM bs = (mo0, 0, 0, f.1, f.2)) ∨ (∃ u, t = .inr u ∧ readM bs = if (checkM m).2.2.2 = 0 then (m, ok4) else (mo0, checkM m)) := by
  unfold Out at h
  unfold readM
  rw [if_neg hl]
  simp only at h
  cases hp : pModule (bs, 0) with
  | inl f =>
    simp only [hp] at h
    exact .inl ⟨f, h, rfl⟩
  | inr z =>
    obtain ⟨y, u⟩ := z
    simp only [hp] at h
    obtain ⟨rfl, rfl⟩ := h
    exact .inr ⟨u, rfl, rfl⟩

theorem mo0_at (w : World) (B : Nat) (P : Nat → Prop) : MoAt (OwR w B P) (.slice none 0 0) (.slice none 0 0) mo0 :=
  ⟨⟨World.ownsRow_nil _ _ _ _, fun _ h => by cases h⟩, [], ⟨World.ownsRow_nil _ _ _ _, fun _ h => by cases h⟩, Els.nil _ _⟩

set_option maxHeartbeats 4000000 in
theorem mread_any {w : World} (hg : Ety w) {ao : Option Addr} {bs : List UInt8} {cap d0 : Nat} (hb : BS w ao bs d0) (hn : ao = none → cap = 0) (hsz : bs.length ≤ 1099511627776) :
    Calls Tryz.prog 12 #[.slice ao bs.length cap] w fun e w' => ∃ vp vc v, e = .returned (.tuple #[.agg #[vp, vc], v]) ∧ EB w' w.heap.size v (readM bs).2 ∧ MoFit (readM bs).1 ∧ AllFit EnFit (readM bs).1.pool ∧ MoAt (OwR w' w.heap.size fun _ => True) vp vc (readM bs).1 ∧ Only [] w w' := by
  have o0 := (Only.refl [] w).alloc (.cells #[.slice none 0 0, .slice none 0 0] 32)
  have R0 := mo2_new w (.slice none 0 0) (.slice none 0 0) 32
  have f0 : Hid (MoFit mo0 ∧ AllFit EnFit mo0.pool) := ⟨⟨by simp [mo0], by simp [mo0]⟩, fun _ h => by cases h⟩
  by_cases hbig : 262144 < bs.length
  · have gb : (262144 : Int) < (bs.length : Int) := by omega
    have hR : readM bs = (mo0, 0, 0, 0, 5) := by unfold readM; rw [if_pos hbig]
    rw [hR]
    obtain ⟨e0, e1, _, _⟩ := R0
    go_enter Tryz.func12, Tryz.ntmps12
    go_wp2
    refine bodyPost_ret (v := .tuple #[.agg #[.slice none 0 0, .slice none 0 0], badV (w.heap.size + 1)]) (by simp [results, Tryz.results12, go_sem, badV]) rfl ?_
    exact ⟨_, _, _, rfl, .bad (by decide) (by omega) (by have := bad_new (w.alloc (.cells #[.slice none 0 0, .slice none 0 0] 32)) 0 0 0 5; rw [World.size_alloc] at this; exact this), f0.out.1, f0.out.2, mo0_at _ _ _, o0.alloc _⟩
  · have gb : ¬ (262144 : Int) < (bs.length : Int) := by omega
    obtain ⟨R, hR0⟩ : ∃ R, R = readM bs := ⟨_, rfl⟩
    rw [← hR0]
    replace hR0 := hid hR0
    have HN := hid (newReader_any (cap := cap) (hb.only o0 (by simp)) hn (by omega))
    replace R0 := hid R0
    go_enter Tryz.func12, Tryz.ntmps12
    go_wp2_with fail
    refine HN.out.mono ?_
    rintro e w2 ⟨r, d, rfl, hr, ho2, hr1, hd1, hd2⟩
    have hrl := hr.lt
    simp only [World.size_alloc] at hr1 hd1
    obtain ⟨d', hr', hd', hdd⟩ := rde_apart hr (by omega)
    have hS := sc_new hr' hd' (by omega) (by omega)
    have oA := (Only.refl [] w2).alloc (.cells #[.pointer (some ⟨r, 0, none⟩), .pointer none] 86)
    have HM := hid (rmodule_any hS)
    have o2 := hid ((o0.trans ho2 (by simp)).trans oA (by simp))
    have R2 := hid ((R0.out.only ho2 (by simp)).only oA (by simp))
    have hs2 := ho2.size
    simp only [World.size_alloc] at hs2
    clear HN R0 hr hS hr' ho2 oA hb o0
    go_wp2_with fail
    refine HM.out.mono ?_
    rintro e w3 ⟨m, t, vp, vc, rfl, hf1, hf2, hA, hS3, hO, ho3⟩
    clear HM
    replace hf1 := hid hf1
    replace hf2 := hid hf2
    obtain ⟨po, pc, rfl⟩ := rows_slice hA.pool.1
    obtain ⟨ccs0, ⟨hc1, _⟩, _⟩ := hA.classes
    obtain ⟨co, cc, rfl⟩ := rows_slice hc1
    clear hc1
    have hs3 := ho3.size
    simp only [World.size_alloc] at hs3
    have q3 := (Only.refl [] w3).alloc (.cells #[.slice po m.pool.length pc, .slice co m.classes.length cc] 32)
    have HF := hid (fault_src (hS3.al (.cells #[.slice po m.pool.length pc, .slice co m.classes.length cc] 32)))
    have herr : ∀ f, t = .inl f → f.2 ≠ 0 := by
      intro f hf
      subst hf
      cases hS3 with
      | cut he _ => exact he
      | bad he _ _ _ => exact he
    have o3 := hid ((o2.out.next ho3 (by simp; omega)).trans q3 (by simp))
    have R3 := hid ((R2.out.only ho3 (by simp; omega)).only q3 (by simp))
    have L3 := hid (mo2_new w3 (.slice po m.pool.length pc) (.slice co m.classes.length cc) 32)
    have hA3 : Hid (MoAt (OwR (w3.alloc (.cells #[.slice po m.pool.length pc, .slice co m.classes.length cc] 32)) (w.heap.size + 1) fun _ => True) (.slice po m.pool.length pc) (.slice co m.classes.length cc) m) :=
      MoAt.own (hA.imp (owr_mono (by simp; omega) (fun _ _ _ _ => trivial))) q3 (by simp)
    clear hA hS3 ho3 q3 R2 o2
    go_wp2_with fail
    refine HF.out.mono ?_
    rintro e w4 ⟨v, rfl, hev, ho4⟩
    clear HF
    have o4 := hid (o3.out.trans ho4 (by simp))
    have R4 := hid (R3.out.only ho4 (by simp))
    have L4 := hid (L3.out.only ho4 (by simp))
    have hA4 := hid (hA3.out.own ho4 (by simp))
    have hs4 := ho4.size
    simp only [World.size_alloc] at hs4
    clear o3 R3 L3 hA3 ho4
    rcases readM_of hbig hO with ⟨f, rfl, hR⟩ | ⟨u, rfl, hR⟩
    · rcases hev.cases_nil with ⟨h, _⟩ | ⟨he, p, rfl, hp, hbp⟩
      · exact absurd h (herr f rfl)
      obtain rfl := hR0.out.trans hR
      clear herr hO hev
      replace hbp := hid hbp
      obtain ⟨e0, e1, z0, z1⟩ := R4.out
      unfold badV
      go_wp2
      refine bodyPost_ret (v := .tuple #[.agg #[.slice none 0 0, .slice none 0 0], badV p]) (by simp [results, Tryz.results12, go_sem, badV, e0, e1]) rfl ?_
      obtain ⟨pp, qq⟩ := R4.out.put (.slice none 0 0) (.slice none 0 0)
      exact ⟨_, _, _, rfl, .bad he (by omega) (hbp.out.only qq (by simp; omega)), f0.out.1, f0.out.2, mo0_at _ _ _, o4.out.next qq (by simp)⟩
    · obtain rfl : v = .nilIface := by
        rcases hev.cases_nil with ⟨_, h⟩ | ⟨h, _⟩
        · exact h
        · exact absurd rfl h
      clear herr hO hev
      have HC := hid (mcheck_any (hg.only0 o4.out) (P := fun _ => True) m hf2.out (hA4.out.imp fun _ _ _ _ _ g => owr_slice g))
      obtain ⟨l0, l1, _, _⟩ := L4.out
      go_wp2_with fail
      refine HC.out.mono ?_
      rintro e w5 ⟨v5, rfl, hev5, ho5⟩
      clear HC l0 l1
      have o5 := hid (o4.out.trans ho5 (by simp))
      have R5 := hid (R4.out.only ho5 (by simp))
      have L5 := hid (L4.out.only ho5 (by simp))
      have hA5 := hid (hA4.out.own ho5 (by simp))
      have hs5 := ho5.size
      clear o4 R4 L4 hA4 ho5
      rcases hev5.cases_nil with ⟨h, rfl⟩ | ⟨he, p, rfl, hp, hbp⟩
      · rw [if_pos h] at hR
        obtain rfl := hR0.out.trans hR
        clear hev5
        obtain ⟨l0, l1, _, _⟩ := L5.out
        obtain ⟨e0, e1, z0, z1⟩ := R5.out
        go_wp2
        refine bodyPost_ret (v := .tuple #[.agg #[.slice po m.pool.length pc, .slice co m.classes.length cc], .nilIface]) (by simp [results, Tryz.results12, go_sem, e0, e1]) rfl ?_
        obtain ⟨pp, qq⟩ := R5.out.put (.slice po m.pool.length pc) (.slice co m.classes.length cc)
        exact ⟨_, _, _, rfl, .no rfl, hf2.out, hf1.out, (hA5.out.own qq (by simp)).imp (owr_mono (by omega) fun _ h _ _ => h), o5.out.next qq (by simp)⟩
      · rw [if_neg he] at hR
        obtain rfl := hR0.out.trans hR
        clear hev5
        replace hbp := hid hbp
        obtain ⟨e0, e1, z0, z1⟩ := R5.out
        unfold badV
        go_wp2
        refine bodyPost_ret (v := .tuple #[.agg #[.slice none 0 0, .slice none 0 0], badV p]) (by simp [results, Tryz.results12, go_sem, badV, e0, e1]) rfl ?_
        obtain ⟨pp, qq⟩ := R5.out.put (.slice none 0 0) (.slice none 0 0)
        exact ⟨_, _, _, rfl, .bad he (by omega) (hbp.out.only qq (by simp; omega)), f0.out.1, f0.out.2, mo0_at _ _ _, o5.out.next qq (by simp)⟩

end Go.Proofs.YtildemmkhndhjaaGreatDoor
namespace Go.Proofs.YtildemmkhndhjaaGreatDoor
open Go.RowKit

theorem WTo.alloc {w0 w : World} {B p g : Nat} {s : List UInt8 × Int} (h : WTo w0 B p g w s) (o : Obj) : WTo w0 B p g (w.alloc o) s := by
  obtain ⟨g', h1, h2, h3⟩ := h
  exact ⟨g', h1.only ((Only.refl [] w).alloc o) (by simp) (by simp), h2, h3.alloc o⟩

theorem WTo.only {w0 w : World} {B p g : Nat} {s : List UInt8 × Int} (h : WTo w0 B p g w s) : Only [p, g] w0 w := h.choose_spec.2.2

/-- A call that goes on from where a writer came to. -/
theorem WTo.step {w0 w : World} {B p g : Nat} {s s' : List UInt8 × Int} (h : WTo w0 B p g w s) {f : FuncId} {args : Array Value} (hc : ∀ g', WrE w B p g' s → (g' = g ∨ w0.heap.size ≤ g') → Calls Tryz.prog f args w fun e w' => e = .returned (.tuple #[]) ∧ WTo w B p g' w' s') :
    Calls Tryz.prog f args w fun e w' => e = .returned (.tuple #[]) ∧ WTo w0 B p g w' s' := by
  obtain ⟨g', h1, h2, h3⟩ := h
  exact (hc g' h1 h2).mono fun _ _ h => ⟨h.1, wto_trans h3 h2 h.2⟩

/-- The same, where a block was laid ahead of the call. -/
theorem WTo.step1 {w0 w : World} {B p g : Nat} {s s' : List UInt8 × Int} (h : WTo w0 B p g w s) (o : Obj) {f : FuncId} {args : Array Value} (hc : ∀ g', WrE (w.alloc o) B p g' s → g' < w.heap.size → p < w.heap.size → Calls Tryz.prog f args (w.alloc o) fun e w' => e = .returned (.tuple #[]) ∧ WTo (w.alloc o) B p g' w' s') :
    Calls Tryz.prog f args (w.alloc o) fun e w' => e = .returned (.tuple #[]) ∧ WTo w0 B p g w' s' := by
  obtain ⟨g', h1, h2, h3⟩ := h
  have hl := h1.lt
  exact (hc g' (h1.only ((Only.refl [] w).alloc o) (by simp) (by simp)) hl.2.1 hl.1).mono fun _ _ h => ⟨h.1, wto_trans (h3.alloc o) h2 h.2⟩

theorem wAll_fit {k : Nat} (enc : Int → List UInt8) (he : ∀ n, enc n = toBE n.toNat k) : ∀ (ns : List Int) (out : List UInt8), (∀ n ∈ ns, 0 ≤ n ∧ n < (256 : Int) ^ k) → wAll k (out, 0) ns = (out ++ ns.flatMap enc, 0) := by
  intro ns
  induction ns with
  | nil => intro out _; simp [wAll]
  | cons n ns ih =>
    intro out h
    have hn := h n (by simp)
    have h1 : wOne k (out, 0) n = (out ++ enc n, 0) := by
      unfold wOne
      rw [if_pos rfl, if_neg (by omega), he]
    have := ih (out ++ enc n) fun x hx => h x (by simp [hx])
    unfold wAll at this ⊢
    rw [List.foldl_cons, h1, this, List.flatMap_cons, List.append_assoc]

theorem e1_be (n : Int) : e1 n = toBE n.toNat 1 := by simp [e1, toBE]
theorem e2_be (n : Int) : e2 n = toBE n.toNat 2 := rfl

theorem wTx_fit : ∀ (ss : List (List UInt8)) (out : List UInt8), (∀ s ∈ ss, s.length ≤ 255) → wTx (out, 0) (ss.map str) = (out ++ ss.flatMap eT, 0) := by
  intro ss
  induction ss with
  | nil => intro out _; simp [wTx]
  | cons s ss ih =>
    intro out h
    have hs := h s (by simp)
    have h1 : wTx1 (out, 0) (str s) = (out ++ eT s, 0) := by
      unfold wTx1
      rw [if_pos rfl, if_neg (by rw [str_size]; omega), str_size, str_data]
      rfl
    have := ih (out ++ eT s) fun x hx => h x (by simp [hx])
    unfold wTx at this ⊢
    rw [List.map_cons, List.foldl_cons, h1, this, List.flatMap_cons, List.append_assoc]

theorem nx_new (w : World) (k : IntKind) (ns : List Int) (t : TypeId) : NX k (w.alloc (.cells (ns.map fun n => Value.int k n).toArray t)) (some ⟨w.heap.size, 0, none⟩) ns w.heap.size :=
  .inr ⟨0, rfl, fun j hj => by rw [Nat.zero_add, cell_new]; simp [hj]⟩

theorem sx_new (w : World) (ss : List (List UInt8)) (t : TypeId) : SX (w.alloc (.cells (ss.map fun s => Value.string (str s)).toArray t)) (some ⟨w.heap.size, 0, none⟩) (ss.map str) w.heap.size :=
  .inr ⟨0, rfl, fun j hj => by
    have hj' : j < ss.length := by simpa using hj
    rw [Nat.zero_add, cell_new]
    simp [hj']⟩

theorem bs_of_rs {w : World} {ao : Option Addr} {bs : List UInt8} {d : Nat} (h : RS w ao (bcs bs) d) : BS w ao bs d := by
  rcases h with h | ⟨off, ha, hc⟩
  · left
    cases bs with
    | nil => rfl
    | cons b l => simp [bcs] at h
  · exact .inr ⟨off, ha, fun j hj => hc j _ (bcs_get bs j hj)⟩

theorem sx_of_rs {w : World} {ao : Option Addr} {ss : List (List UInt8)} {d : Nat} (h : RS w ao (scs ss) d) : SX w ao (ss.map str) d := by
  rcases h with h | ⟨off, ha, hc⟩
  · left
    cases ss with
    | nil => rfl
    | cons b l => simp [scs, scC] at h
  · refine .inr ⟨off, ha, fun j hj => ?_⟩
    have hj' : j < ss.length := by simpa using hj
    rw [hc j _ (scs_get ss j hj')]
    simp

/-- U1 of numbers. -/
theorem u1_lift {w0 w : World} {B p g : Nat} {out : List UInt8} (h : WTo w0 B p g w (out, 0)) (ns : List Int) (hn : ∀ n ∈ ns, 0 ≤ n ∧ n < 256) (hsz : out.length + ns.length ≤ 200000000000000) :
    Calls Tryz.prog 61 #[.pointer (some ⟨p, 0, none⟩), .slice (some ⟨w.heap.size, 0, none⟩) ns.length ns.length] (w.alloc (.cells (ns.map fun n => Value.int .i64 n).toArray 3)) fun e w' => e = .returned (.tuple #[]) ∧ WTo w0 B p g w' (out ++ ns.flatMap e1, 0) := by
  rw [← wAll_fit e1 e1_be ns out (by simpa using hn)]
  exact h.step1 _ fun g' hw hg hp => wu1_any hw (nx_new w .i64 ns 3) (fun _ => by simp; omega) (by simp only; omega)

theorem u2_lift {w0 w : World} {B p g : Nat} {out : List UInt8} (h : WTo w0 B p g w (out, 0)) (ns : List Int) (hn : ∀ n ∈ ns, 0 ≤ n ∧ n < 65536) (hsz : out.length + 2 * ns.length ≤ 200000000000000) :
    Calls Tryz.prog 59 #[.pointer (some ⟨p, 0, none⟩), .slice (some ⟨w.heap.size, 0, none⟩) ns.length ns.length] (w.alloc (.cells (ns.map fun n => Value.int .i64 n).toArray 3)) fun e w' => e = .returned (.tuple #[]) ∧ WTo w0 B p g w' (out ++ ns.flatMap e2, 0) := by
  rw [← wAll_fit e2 e2_be ns out (by simpa using hn)]
  exact h.step1 _ fun g' hw hg hp => wu2_any hw (nx_new w .i64 ns 3) (fun _ => by simp; omega) (by simp only; omega)

theorem n8_lift {w0 w : World} {B p g : Nat} {out : List UInt8} (h : WTo w0 B p g w (out, 0)) (n : Int) (hsz : out.length + 8 ≤ 200000000000000) :
    Calls Tryz.prog 130 #[.pointer (some ⟨p, 0, none⟩), .slice (some ⟨w.heap.size, 0, none⟩) 1 1] (w.alloc (.cells #[.int .i64 n] 2)) fun e w' => e = .returned (.tuple #[]) ∧ WTo w0 B p g w' (out ++ e8 n, 0) := by
  have e : wN8 (out, 0) [n] = (out ++ e8 n, 0) := by simp [wN8, wPut, e8]
  rw [← e]
  exact h.step1 _ fun g' hw hg hp => wn8_any (ns := [n]) hw (nx_new w .i64 [n] 2) (fun _ => by simp; omega) (by simp only [List.length_singleton]; omega)

theorem tx_lift {w0 w : World} {B p g : Nat} {out : List UInt8} (h : WTo w0 B p g w (out, 0)) (ss : List (List UInt8)) (hs : ∀ s ∈ ss, s.length ≤ 255) (hsz : out.length + 256 * ss.length ≤ 200000000000000) :
    Calls Tryz.prog 129 #[.pointer (some ⟨p, 0, none⟩), .slice (some ⟨w.heap.size, 0, none⟩) ss.length ss.length] (w.alloc (.cells (ss.map fun s => Value.string (str s)).toArray 9)) fun e w' => e = .returned (.tuple #[]) ∧ WTo w0 B p g w' (out ++ ss.flatMap eT, 0) := by
  rw [← wTx_fit ss out hs]
  have := h.step1 (s' := wTx (out, 0) (ss.map str)) (.cells (ss.map fun s => Value.string (str s)).toArray 9) (f := 129) (args := #[.pointer (some ⟨p, 0, none⟩), .slice (some ⟨w.heap.size, 0, none⟩) (ss.map str).length ss.length]) fun g' hw hg hp =>
    wtext_any hw (sx_new w ss 9) (fun _ => by simp; omega) (by simp only [List.length_map]; omega) (fun b hb => by
      obtain ⟨s, hs', rfl⟩ := List.mem_map.1 hb
      rw [str_size]
      have := hs s hs'
      omega)
  rwa [List.length_map] at this

theorem txs_lift {w0 w : World} {B p g : Nat} {out : List UInt8} (h : WTo w0 B p g w (out, 0)) {ao : Option Addr} {cap d : Nat} (ss : List (List UInt8)) (hR : RS w ao (scs ss) d) (hd : scs ss ≠ [] → d < B) (hs : ∀ s ∈ ss, s.length ≤ 255) (hsz : out.length + 256 * ss.length ≤ 200000000000000) :
    Calls Tryz.prog 129 #[.pointer (some ⟨p, 0, none⟩), .slice ao ss.length cap] w fun e w' => e = .returned (.tuple #[]) ∧ WTo w0 B p g w' (out ++ ss.flatMap eT, 0) := by
  rw [← wTx_fit ss out hs]
  have := h.step (s' := wTx (out, 0) (ss.map str)) (f := 129) (args := #[.pointer (some ⟨p, 0, none⟩), .slice ao (ss.map str).length cap]) fun g' hw hg =>
    wtext_any hw (sx_of_rs hR) (fun hne => by
      have := hd (fun e => hne (by cases ss with | nil => rfl | cons a l => simp [scs, scC] at e))
      have := hw.lt
      simp
      omega) (by simp only [List.length_map]; omega) (fun b hb => by
      obtain ⟨s, hs', rfl⟩ := List.mem_map.1 hb
      rw [str_size]
      have := hs s hs'
      omega)
  rwa [List.length_map] at this

theorem bytes_lift {w0 w : World} {B p g : Nat} {out : List UInt8} (h : WTo w0 B p g w (out, 0)) {ao : Option Addr} {cap d : Nat} {bs : List UInt8} (hR : RS w ao (bcs bs) d) (hn : ao = none → cap = 0) (hsz : out.length + bs.length ≤ 200000000000000) :
    Calls Tryz.prog 58 #[.pointer (some ⟨p, 0, none⟩), .slice ao bs.length cap] w fun e w' => e = .returned (.tuple #[]) ∧ WTo w0 B p g w' (out ++ bs, 0) := by
  have e : wPut (out, 0) bs = (out ++ bs, 0) := by simp [wPut]
  rw [← e]
  exact h.step fun g' hw hg => wbytes_any hw (bs_of_rs hR) hn (by simp only; omega)

end Go.Proofs.YtildemmkhndhjaaGreatDoor
namespace Go.Proofs.YtildemmkhndhjaaGreatDoor
open Go.RowKit

def tgV (p : Nat) : Value := .agg #[.pointer (some ⟨p, 0, none⟩)]

/-- A box of a call that writes stays as it is. -/
theorem WTo.box {w1 w : World} {B p g : Nat} {s : List UInt8 × Int} (h : WTo w1 B p g w s) {b i : Nat} {v : Value} (hb : w1.cell? ⟨b, i, none⟩ = some v) (hp : b ≠ p) (hg : b ≠ g) : w.cell? ⟨b, i, none⟩ = some v :=
  (h.only.cell (p := ⟨b, i, none⟩) (World.block_lt_of_cell? w1 _ hb) (by simp [hp, hg])).trans hb

theorem box2 (w : World) (cs : Array Value) (t : TypeId) (o : Obj) {i : Nat} {v : Value} (h : cs[i]? = some v) : ((w.alloc o).alloc (.cells cs t)).cell? ⟨w.heap.size + 1, i, none⟩ = some v := by
  have := cell_new (w.alloc o) cs t i
  rw [World.size_alloc] at this
  rw [this, h]

theorem box1 (w : World) (cs : Array Value) (t : TypeId) (o : Obj) {i : Nat} {v : Value} (h : cs[i]? = some v) : ((w.alloc (.cells cs t)).alloc o).cell? ⟨w.heap.size, i, none⟩ = some v :=
  cell_alloc _ (by rw [cell_new, h])

set_option maxHeartbeats 4000000 in
theorem wentry_any {w : World} {B p g : Nat} {out : List UInt8} (h : WrE w B p g (out, 0)) (e : En) (he : EnGood e) (hsz : out.length ≤ 100000000000000) :
    Calls Tryz.prog 60 #[tgV p, enV e] w fun r w' => r = .returned (.tuple #[]) ∧ WTo w B p g w' (out ++ encEn e, 0) := by
  obtain ⟨k, s, nn, a, b, c⟩ := e
  obtain ⟨hk, _, ht, _, ha, hb, hc⟩ := he
  simp only at hk ht ha hb hc
  unfold enV encEn
  simp only
  have hl := h.lt
  have hT1 := WTo.refl (h.only (((Only.refl [] w).alloc (.cells #[.pointer (some ⟨p, 0, none⟩)] 76)).alloc (.cells #[.int .i64 k, .string (str s), .int .i64 nn, .int .i64 a, .int .i64 b, .int .i64 c] 90)) (by simp) (by simp))
  have hO := hid (((Only.refl [p, g] w).alloc (.cells #[.pointer (some ⟨p, 0, none⟩)] 76)).alloc (.cells #[.int .i64 k, .string (str s), .int .i64 nn, .int .i64 a, .int .i64 b, .int .i64 c] 90))
  have q := box1 w #[.pointer (some ⟨p, 0, none⟩)] 76 (.cells #[.int .i64 k, .string (str s), .int .i64 nn, .int .i64 a, .int .i64 b, .int .i64 c] 90) (i := 0) rfl
  have q0 := box2 w #[.int .i64 k, .string (str s), .int .i64 nn, .int .i64 a, .int .i64 b, .int .i64 c] 90 (.cells #[.pointer (some ⟨p, 0, none⟩)] 76) (i := 0) rfl
  have q1 := box2 w #[.int .i64 k, .string (str s), .int .i64 nn, .int .i64 a, .int .i64 b, .int .i64 c] 90 (.cells #[.pointer (some ⟨p, 0, none⟩)] 76) (i := 1) rfl
  have q2 := box2 w #[.int .i64 k, .string (str s), .int .i64 nn, .int .i64 a, .int .i64 b, .int .i64 c] 90 (.cells #[.pointer (some ⟨p, 0, none⟩)] 76) (i := 2) rfl
  have q3 := box2 w #[.int .i64 k, .string (str s), .int .i64 nn, .int .i64 a, .int .i64 b, .int .i64 c] 90 (.cells #[.pointer (some ⟨p, 0, none⟩)] 76) (i := 3) rfl
  have q4 := box2 w #[.int .i64 k, .string (str s), .int .i64 nn, .int .i64 a, .int .i64 b, .int .i64 c] 90 (.cells #[.pointer (some ⟨p, 0, none⟩)] 76) (i := 4) rfl
  have q5 := box2 w #[.int .i64 k, .string (str s), .int .i64 nn, .int .i64 a, .int .i64 b, .int .i64 c] 90 (.cells #[.pointer (some ⟨p, 0, none⟩)] 76) (i := 5) rfl
  have Q := hid (And.intro q ((And.intro q0 (And.intro q1 (And.intro q2 (And.intro q3 (And.intro q4 q5)))))))
  clear q q0 q1 q2 q3 q4 q5
  have hp1 : w.heap.size ≠ p := by omega
  have hg1 : w.heap.size ≠ g := by omega
  have hp2 : w.heap.size + 1 ≠ p := by omega
  have hg2 : w.heap.size + 1 ≠ g := by omega
  unfold tgV
  have HU := u1_lift hT1 [k] (by simp; omega) (by simp; omega)
  simp only [World.size_alloc] at HU
  simp only [List.map_cons, List.map_nil, List.length_cons, List.length_nil, Nat.zero_add, List.flatMap_cons, List.flatMap_nil, List.append_nil] at HU
  replace HU := hid HU
  clear hT1
  by_cases k1 : k = 1
  · subst k1
    rw [if_pos rfl]
    go_enter Tryz.func60, Tryz.ntmps60
    obtain ⟨q, q0, q1, q2, q3, q4, q5⟩ := Q.out
    go_wp2_with fail
    refine HU.out.mono ?_
    rintro e w2 ⟨rfl, hT2⟩
    obtain ⟨q, q0, q1, q2, q3, q4, q5⟩ := Q.out
    replace q := hT2.box q hp1 hg1
    replace q0 := hT2.box q0 hp2 hg2
    replace q1 := hT2.box q1 hp2 hg2
    replace q2 := hT2.box q2 hp2 hg2
    replace q3 := hT2.box q3 hp2 hg2
    replace q4 := hT2.box q4 hp2 hg2
    replace q5 := hT2.box q5 hp2 hg2
    clear HU
    have HV := tx_lift hT2 [s] (by simpa using ht) (by simp [e1]; omega)
    simp only [List.map_cons, List.map_nil, List.length_cons, List.length_nil, Nat.zero_add, List.flatMap_cons, List.flatMap_nil, List.append_nil] at HV
    replace HV := hid HV
    go_wp2_with fail
    refine HV.out.mono ?_
    rintro e w3 ⟨rfl, hT3⟩
    go_wp2_with fail
    go_end0
    refine ⟨rfl, ?_⟩
    have := wto_trans hO.out (.inl rfl) hT3
    rwa [List.append_assoc] at this
  have k1' : (k == 1) = false := by simpa using k1
  rw [if_neg k1]
  by_cases k2 : k = 2
  · subst k2
    rw [if_pos rfl]
    go_enter Tryz.func60, Tryz.ntmps60
    obtain ⟨q, q0, q1, q2, q3, q4, q5⟩ := Q.out
    go_wp2_with fail
    refine HU.out.mono ?_
    rintro e w2 ⟨rfl, hT2⟩
    obtain ⟨q, q0, q1, q2, q3, q4, q5⟩ := Q.out
    replace q := hT2.box q hp1 hg1
    replace q0 := hT2.box q0 hp2 hg2
    replace q1 := hT2.box q1 hp2 hg2
    replace q2 := hT2.box q2 hp2 hg2
    replace q3 := hT2.box q3 hp2 hg2
    replace q4 := hT2.box q4 hp2 hg2
    replace q5 := hT2.box q5 hp2 hg2
    clear HU
    have HV := hid (n8_lift hT2 nn (by simp [e1]; omega))
    go_wp2_with fail
    refine HV.out.mono ?_
    rintro e w3 ⟨rfl, hT3⟩
    go_wp2_with fail
    go_end0
    refine ⟨rfl, ?_⟩
    have := wto_trans hO.out (.inl rfl) hT3
    rwa [List.append_assoc] at this
  have k2' : (k == 2) = false := by simpa using k2
  rw [if_neg k2]
  by_cases k3 : k = 3 ∨ k = 4
  · rw [if_pos k3]
    rcases k3 with rfl | rfl
    all_goals
      go_enter Tryz.func60, Tryz.ntmps60
      obtain ⟨q, q0, q1, q2, q3, q4, q5⟩ := Q.out
      go_wp2_with fail
      refine HU.out.mono ?_
      rintro e w2 ⟨rfl, hT2⟩
      obtain ⟨q, q0, q1, q2, q3, q4, q5⟩ := Q.out
      replace q := hT2.box q hp1 hg1
      replace q0 := hT2.box q0 hp2 hg2
      replace q1 := hT2.box q1 hp2 hg2
      replace q2 := hT2.box q2 hp2 hg2
      replace q3 := hT2.box q3 hp2 hg2
      replace q4 := hT2.box q4 hp2 hg2
      replace q5 := hT2.box q5 hp2 hg2
      clear HU
      have HV := u2_lift hT2 [a] (by simpa using ha) (by simp [e1]; omega)
      simp only [List.map_cons, List.map_nil, List.length_cons, List.length_nil, Nat.zero_add, List.flatMap_cons, List.flatMap_nil, List.append_nil] at HV
      replace HV := hid HV
      go_wp2_with fail
      refine HV.out.mono ?_
      rintro e w3 ⟨rfl, hT3⟩
      go_wp2_with fail
      go_end0
      refine ⟨rfl, ?_⟩
      have := wto_trans hO.out (.inl rfl) hT3
      rwa [List.append_assoc] at this
  · rw [if_neg k3]
    have k5 : k = 5 ∨ k = 6 := by omega
    clear k3 k1 k2 k1' k2'
    rcases k5 with rfl | rfl
    all_goals
      go_enter Tryz.func60, Tryz.ntmps60
      obtain ⟨q, q0, q1, q2, q3, q4, q5⟩ := Q.out
      go_wp2_with fail
      refine HU.out.mono ?_
      rintro e w2 ⟨rfl, hT2⟩
      obtain ⟨q, q0, q1, q2, q3, q4, q5⟩ := Q.out
      replace q := hT2.box q hp1 hg1
      replace q0 := hT2.box q0 hp2 hg2
      replace q1 := hT2.box q1 hp2 hg2
      replace q2 := hT2.box q2 hp2 hg2
      replace q3 := hT2.box q3 hp2 hg2
      replace q4 := hT2.box q4 hp2 hg2
      replace q5 := hT2.box q5 hp2 hg2
      clear HU
      have HV := u2_lift hT2 [a, b, c] (by simp; omega) (by simp [e1]; omega)
      simp only [List.map_cons, List.map_nil, List.length_cons, List.length_nil, Nat.zero_add, List.flatMap_cons, List.flatMap_nil, List.append_nil, Nat.reduceAdd] at HV
      replace HV := hid HV
      go_wp2_with fail
      refine HV.out.mono ?_
      rintro e w3 ⟨rfl, hT3⟩
      go_wp2_with fail
      go_end0
      refine ⟨rfl, ?_⟩
      have := wto_trans hO.out (.inl rfl) hT3
      rwa [List.append_assoc] at this

set_option maxHeartbeats 4000000 in
theorem wfield_any {w : World} {B p g : Nat} {out : List UInt8} (h : WrE w B p g (out, 0)) (f : Fd) (hf : FdGood f) (hsz : out.length ≤ 100000000000000) :
    Calls Tryz.prog 131 #[tgV p, fdV f] w fun r w' => r = .returned (.tuple #[]) ∧ WTo w B p g w' (out ++ encFd f, 0) := by
  obtain ⟨k, s, td, tn⟩ := f
  obtain ⟨hk, hs, ht⟩ := hf
  simp only at hk hs ht
  unfold fdV encFd
  simp only
  have hl := h.lt
  have hT1 := WTo.refl (h.only (((Only.refl [] w).alloc (.cells #[.pointer (some ⟨p, 0, none⟩)] 76)).alloc (.cells #[.int .i64 k, .string (str s), .int .i64 td, .string (str tn)] 44)) (by simp) (by simp))
  have hO := hid (((Only.refl [p, g] w).alloc (.cells #[.pointer (some ⟨p, 0, none⟩)] 76)).alloc (.cells #[.int .i64 k, .string (str s), .int .i64 td, .string (str tn)] 44))
  have q := box1 w #[.pointer (some ⟨p, 0, none⟩)] 76 (.cells #[.int .i64 k, .string (str s), .int .i64 td, .string (str tn)] 44) (i := 0) rfl
  have q0 := box2 w #[.int .i64 k, .string (str s), .int .i64 td, .string (str tn)] 44 (.cells #[.pointer (some ⟨p, 0, none⟩)] 76) (i := 0) rfl
  have q1 := box2 w #[.int .i64 k, .string (str s), .int .i64 td, .string (str tn)] 44 (.cells #[.pointer (some ⟨p, 0, none⟩)] 76) (i := 1) rfl
  have q2 := box2 w #[.int .i64 k, .string (str s), .int .i64 td, .string (str tn)] 44 (.cells #[.pointer (some ⟨p, 0, none⟩)] 76) (i := 2) rfl
  have q3 := box2 w #[.int .i64 k, .string (str s), .int .i64 td, .string (str tn)] 44 (.cells #[.pointer (some ⟨p, 0, none⟩)] 76) (i := 3) rfl
  have Q := hid (And.intro q ((And.intro q0 (And.intro q1 (And.intro q2 q3)))))
  clear q q0 q1 q2 q3
  have hp1 : w.heap.size ≠ p := by omega
  have hg1 : w.heap.size ≠ g := by omega
  have hp2 : w.heap.size + 1 ≠ p := by omega
  have hg2 : w.heap.size + 1 ≠ g := by omega
  unfold tgV
  have HK := typeText_any (td, tn) (by have := (check_fit ht).2.2; omega) (((w.alloc (.cells #[.pointer (some ⟨p, 0, none⟩)] 76)).alloc (.cells #[.int .i64 k, .string (str s), .int .i64 td, .string (str tn)] 44)))
  have hL := tyText_len ht
  have htt : ttR (td, tn) = tyText (td, tn) := by unfold ttR; rw [if_pos ht]
  rw [htt] at HK
  generalize tyText (td, tn) = tx at *
  unfold tyV at HK
  replace HK := hid HK
  go_enter Tryz.func131, Tryz.ntmps131
  obtain ⟨q, q0, q1, q2, q3⟩ := Q.out
  go_wp2_with fail
  refine HK.out.mono ?_
  rintro e w1 ⟨rfl, ho1⟩
  have hT2 : WTo ((w.alloc (.cells #[.pointer (some ⟨p, 0, none⟩)] 76)).alloc (.cells #[.int .i64 k, .string (str s), .int .i64 td, .string (str tn)] 44)) B p g w1 (out, 0) := by
    obtain ⟨g', hw', hg', ho'⟩ := hT1
    exact ⟨g', hw'.only ho1 (by simp) (by simp), hg', ho'.next ho1 (by simp)⟩
  obtain ⟨q, q0, q1, q2, q3⟩ := Q.out
  replace q := hT2.box q hp1 hg1
  replace q0 := hT2.box q0 hp2 hg2
  replace q1 := hT2.box q1 hp2 hg2
  replace q2 := hT2.box q2 hp2 hg2
  replace q3 := hT2.box q3 hp2 hg2
  have HU := u1_lift hT2 [k] (by simp; omega) (by simp; omega)
  simp only [List.map_cons, List.map_nil, List.length_cons, List.length_nil, Nat.zero_add, List.flatMap_cons, List.flatMap_nil, List.append_nil] at HU
  replace HU := hid HU
  go_wp2_with fail
  refine HU.out.mono ?_
  rintro e w2 ⟨rfl, hT3⟩
  obtain ⟨q, q0, q1, q2, q3⟩ := Q.out
  replace q := hT3.box q hp1 hg1
  replace q0 := hT3.box q0 hp2 hg2
  replace q1 := hT3.box q1 hp2 hg2
  replace q2 := hT3.box q2 hp2 hg2
  replace q3 := hT3.box q3 hp2 hg2
  have HV := tx_lift hT3 [s, tx] (by simp; omega) (by simp [e1]; omega)
  simp only [List.map_cons, List.map_nil, List.length_cons, List.length_nil, Nat.zero_add, List.flatMap_cons, List.flatMap_nil, List.append_nil, Nat.reduceAdd] at HV
  replace HV := hid HV
  go_wp2_with fail
  refine HV.out.mono ?_
  rintro e w3 ⟨rfl, hT4⟩
  go_wp2_with fail
  go_end0
  refine ⟨rfl, ?_⟩
  have := wto_trans hO.out (.inl rfl) hT4
  rwa [List.append_assoc] at this

end Go.Proofs.YtildemmkhndhjaaGreatDoor
namespace Go.Proofs.YtildemmkhndhjaaGreatDoor
open Go.RowKit

theorem flat_le {α : Type} (f : α → List UInt8) (k : Nat) : ∀ l : List α, (∀ x ∈ l, (f x).length ≤ k) → (l.flatMap f).length ≤ l.length * k := by
  intro l
  induction l with
  | nil => intro _; simp
  | cons x l ih =>
    intro h
    have h1 := h x (by simp)
    have h2 := ih fun y hy => h y (by simp [hy])
    rw [List.flatMap_cons, List.length_append, List.length_cons, Nat.add_mul]
    omega

theorem flat_take_succ {α β : Type} (f : α → List β) (l : List α) (j : Nat) (h : j < l.length) : (l.take (j + 1)).flatMap f = (l.take j).flatMap f ++ f l[j] := by
  rw [List.take_succ_eq_append_getElem h, List.flatMap_append]
  simp

theorem encHd_len {h : Hd} (g : HdGood h) : (encHd h).length ≤ 39 := by
  have := g.name
  simp [encHd, e2, eT, toBE_length]
  omega

theorem WTo.quiet {w0 w w' : World} {B p g : Nat} {s : List UInt8 × Int} (h : WTo w0 B p g w s) (ho : Only [] w w') : WTo w0 B p g w' s := by
  obtain ⟨g', h1, h2, h3⟩ := h
  exact ⟨g', h1.only ho (by simp) (by simp), h2, h3.next ho (by simp)⟩

/-- From where a writer stands on, by itself. -/
theorem WTo.here {w0 w : World} {B p g : Nat} {s : List UInt8 × Int} (h : WTo w0 B p g w s) : ∃ g', WTo w B p g' w s ∧ g' < w.heap.size ∧ p < w.heap.size ∧ ∀ w' s', WTo w B p g' w' s' → WTo w0 B p g w' s' := by
  obtain ⟨g', h1, h2, h3⟩ := h
  exact ⟨g', WTo.refl h1, h1.lt.2.1, h1.lt.1, fun w' s' h => wto_trans h3 h2 h⟩

/-- The same, a block laid first. -/
theorem WTo.hereA {w0 w : World} {B p g : Nat} {s : List UInt8 × Int} (h : WTo w0 B p g w s) (o : Obj) : ∃ g', WTo (w.alloc o) B p g' (w.alloc o) s ∧ g' < w.heap.size ∧ p < w.heap.size ∧ ∀ w' s', WTo (w.alloc o) B p g' w' s' → WTo w0 B p g w' s' := by
  obtain ⟨g', h1, h2, h3⟩ := h
  exact ⟨g', WTo.refl (h1.only ((Only.refl [] w).alloc o) (by simp) (by simp)), h1.lt.2.1, h1.lt.1, fun w' s' h => wto_trans (h3.alloc o) h2 h⟩

set_option maxHeartbeats 4000000 in
theorem wmeth_any {w : World} {B p g : Nat} {out : List UInt8} (h : WrE w B p g (out, 0)) (m : Me) (hg : MeGood m) (hF : MeFit m) {P : Nat → Prop} {vp vc vh : Value} (hM : MeAt (SlR w P) vp vc vh m) (hPB : ∀ d, P d → d < B) (hsz : out.length ≤ 100000000000000) :
    Calls Tryz.prog 132 #[tgV p, meV vp vc vh m] w fun r w' => r = .returned (.tuple #[]) ∧ WTo w B p g w' (out ++ encMe m, 0) := by
  obtain ⟨po, pc, pd, rfl, hP0⟩ := hM.params
  obtain ⟨co, cc, cd, rfl, hC0⟩ := hM.code
  obtain ⟨ho, hc, hd, rfl, hH0⟩ := hM.hands
  clear hM
  have hFp := hF.params
  have hFr := hF.res
  clear hF
  obtain ⟨fl, nm, ⟨ps, vo, td, tn⟩, st, lo, code, hs⟩ := m
  obtain ⟨hfl, hnm, hsg, htx, hno, hst0, hlo0, hcl, hhl, hhd⟩ := hg
  clear hno
  simp only at hfl hnm hsg htx hst0 hlo0 hcl hhl hhd hP0 hC0 hH0 hFp hFr
  unfold meV encMe
  simp only
  have hl := h.lt
  have hT1 := WTo.refl (h.only (((Only.refl [] w).alloc (.cells #[.pointer (some ⟨p, 0, none⟩)] 76)).alloc (.cells #[.int .i64 fl, .string (str nm), .slice po ps.length pc, .bool vo, .int .i64 td, .string (str tn), .int .i64 st, .int .i64 lo, .slice co code.length cc, .slice ho hs.length hc] 41)) (by simp) (by simp))
  have hO := hid (((Only.refl [p, g] w).alloc (.cells #[.pointer (some ⟨p, 0, none⟩)] 76)).alloc (.cells #[.int .i64 fl, .string (str nm), .slice po ps.length pc, .bool vo, .int .i64 td, .string (str tn), .int .i64 st, .int .i64 lo, .slice co code.length cc, .slice ho hs.length hc] 41))
  have q := box1 w #[.pointer (some ⟨p, 0, none⟩)] 76 (.cells #[.int .i64 fl, .string (str nm), .slice po ps.length pc, .bool vo, .int .i64 td, .string (str tn), .int .i64 st, .int .i64 lo, .slice co code.length cc, .slice ho hs.length hc] 41) (i := 0) rfl
  have q0 := box2 w #[.int .i64 fl, .string (str nm), .slice po ps.length pc, .bool vo, .int .i64 td, .string (str tn), .int .i64 st, .int .i64 lo, .slice co code.length cc, .slice ho hs.length hc] 41 (.cells #[.pointer (some ⟨p, 0, none⟩)] 76) (i := 0) rfl
  have q1 := box2 w #[.int .i64 fl, .string (str nm), .slice po ps.length pc, .bool vo, .int .i64 td, .string (str tn), .int .i64 st, .int .i64 lo, .slice co code.length cc, .slice ho hs.length hc] 41 (.cells #[.pointer (some ⟨p, 0, none⟩)] 76) (i := 1) rfl
  have q2 := box2 w #[.int .i64 fl, .string (str nm), .slice po ps.length pc, .bool vo, .int .i64 td, .string (str tn), .int .i64 st, .int .i64 lo, .slice co code.length cc, .slice ho hs.length hc] 41 (.cells #[.pointer (some ⟨p, 0, none⟩)] 76) (i := 2) rfl
  have q3 := box2 w #[.int .i64 fl, .string (str nm), .slice po ps.length pc, .bool vo, .int .i64 td, .string (str tn), .int .i64 st, .int .i64 lo, .slice co code.length cc, .slice ho hs.length hc] 41 (.cells #[.pointer (some ⟨p, 0, none⟩)] 76) (i := 3) rfl
  have q4 := box2 w #[.int .i64 fl, .string (str nm), .slice po ps.length pc, .bool vo, .int .i64 td, .string (str tn), .int .i64 st, .int .i64 lo, .slice co code.length cc, .slice ho hs.length hc] 41 (.cells #[.pointer (some ⟨p, 0, none⟩)] 76) (i := 4) rfl
  have q5 := box2 w #[.int .i64 fl, .string (str nm), .slice po ps.length pc, .bool vo, .int .i64 td, .string (str tn), .int .i64 st, .int .i64 lo, .slice co code.length cc, .slice ho hs.length hc] 41 (.cells #[.pointer (some ⟨p, 0, none⟩)] 76) (i := 5) rfl
  have q6 := box2 w #[.int .i64 fl, .string (str nm), .slice po ps.length pc, .bool vo, .int .i64 td, .string (str tn), .int .i64 st, .int .i64 lo, .slice co code.length cc, .slice ho hs.length hc] 41 (.cells #[.pointer (some ⟨p, 0, none⟩)] 76) (i := 6) rfl
  have q7 := box2 w #[.int .i64 fl, .string (str nm), .slice po ps.length pc, .bool vo, .int .i64 td, .string (str tn), .int .i64 st, .int .i64 lo, .slice co code.length cc, .slice ho hs.length hc] 41 (.cells #[.pointer (some ⟨p, 0, none⟩)] 76) (i := 7) rfl
  have q8 := box2 w #[.int .i64 fl, .string (str nm), .slice po ps.length pc, .bool vo, .int .i64 td, .string (str tn), .int .i64 st, .int .i64 lo, .slice co code.length cc, .slice ho hs.length hc] 41 (.cells #[.pointer (some ⟨p, 0, none⟩)] 76) (i := 8) rfl
  have q9 := box2 w #[.int .i64 fl, .string (str nm), .slice po ps.length pc, .bool vo, .int .i64 td, .string (str tn), .int .i64 st, .int .i64 lo, .slice co code.length cc, .slice ho hs.length hc] 41 (.cells #[.pointer (some ⟨p, 0, none⟩)] 76) (i := 9) rfl
  have Q := hid (And.intro q ((And.intro q0 (And.intro q1 (And.intro q2 (And.intro q3 (And.intro q4 (And.intro q5 (And.intro q6 (And.intro q7 (And.intro q8 q9)))))))))))
  clear q q0 q1 q2 q3 q4 q5 q6 q7 q8 q9
  have hp1 : w.heap.size ≠ p := by omega
  have hg1 : w.heap.size ≠ g := by omega
  have hp2 : w.heap.size + 1 ≠ p := by omega
  have hg2 : w.heap.size + 1 ≠ g := by omega
  unfold tgV
  have hL : (sgText (ps, vo, td, tn)).length ≤ 255 := htx
  have HK := sigText_any (cap := pc) (TS.of_rs (hP0.rs.only0 (((Only.refl [] w).alloc (.cells #[.pointer (some ⟨p, 0, none⟩)] 76)).alloc (.cells #[.int .i64 fl, .string (str nm), .slice po ps.length pc, .bool vo, .int .i64 td, .string (str tn), .int .i64 st, .int .i64 lo, .slice co code.length cc, .slice ho hs.length hc] 41)))) (by have := hP0.le; have := hP0.max; omega) hFp vo (td, tn) hFr
  have hst : stR ps vo (td, tn) = sgText (ps, vo, td, tn) := by unfold stR; rw [if_pos hsg]; rfl
  rw [hst] at HK
  unfold sigV at HK
  generalize sgText (ps, vo, td, tn) = tx at *
  replace HK := hid HK
  have hB := hid hl
  clear hst hsg htx hP0 hFp hFr
  have RC := hid hC0
  have RH := hid hH0
  clear hC0 hH0
  have hHd := hid hhd
  clear hhd
  by_cases f2 : fl = 2
  · subst f2
    rw [if_pos rfl]
    clear RC RH
    go_enter Tryz.func132, Tryz.ntmps132
    obtain ⟨q, q0, q1, q2, q3, q4, q5, q6, q7, q8, q9⟩ := Q.out
    go_wp2_with fail
    refine HK.out.mono ?_
    rintro e w1 ⟨rfl, ho1⟩
    have hT2 := hT1.quiet ho1
    obtain ⟨q, q0, q1, q2, q3, q4, q5, q6, q7, q8, q9⟩ := Q.out
    replace q := hT2.box q hp1 hg1
    replace q0 := hT2.box q0 hp2 hg2
    replace q1 := hT2.box q1 hp2 hg2
    replace q2 := hT2.box q2 hp2 hg2
    replace q3 := hT2.box q3 hp2 hg2
    replace q4 := hT2.box q4 hp2 hg2
    replace q5 := hT2.box q5 hp2 hg2
    replace q6 := hT2.box q6 hp2 hg2
    replace q7 := hT2.box q7 hp2 hg2
    replace q8 := hT2.box q8 hp2 hg2
    replace q9 := hT2.box q9 hp2 hg2
    have HV := u1_lift hT2 [(2 : Int)] (by simp) (by simp; omega)
    simp only [List.map_cons, List.map_nil, List.length_cons, List.length_nil, Nat.zero_add, List.flatMap_cons, List.flatMap_nil, List.append_nil] at HV
    replace HV := hid HV
    go_wp2_with fail
    refine HV.out.mono ?_
    rintro e w9 ⟨rfl, hT3⟩
    clear HV
    obtain ⟨q, q0, q1, q2, q3, q4, q5, q6, q7, q8, q9⟩ := Q.out
    replace q := hT3.box q hp1 hg1
    replace q0 := hT3.box q0 hp2 hg2
    replace q1 := hT3.box q1 hp2 hg2
    replace q2 := hT3.box q2 hp2 hg2
    replace q3 := hT3.box q3 hp2 hg2
    replace q4 := hT3.box q4 hp2 hg2
    replace q5 := hT3.box q5 hp2 hg2
    replace q6 := hT3.box q6 hp2 hg2
    replace q7 := hT3.box q7 hp2 hg2
    replace q8 := hT3.box q8 hp2 hg2
    replace q9 := hT3.box q9 hp2 hg2
    have HV := tx_lift hT3 [nm, tx] (by simp; omega) (by simp [e1]; omega)
    simp only [List.map_cons, List.map_nil, List.length_cons, List.length_nil, Nat.zero_add, List.flatMap_cons, List.flatMap_nil, List.append_nil, Nat.reduceAdd] at HV
    replace HV := hid HV
    go_wp2_with fail
    refine HV.out.mono ?_
    rintro e w9 ⟨rfl, hT4⟩
    clear HV
    obtain ⟨q, q0, q1, q2, q3, q4, q5, q6, q7, q8, q9⟩ := Q.out
    replace q0 := hT4.box q0 hp2 hg2
    clear q q1 q2 q3 q4 q5 q6 q7 q8 q9
    go_wp2_with fail
    refine bodyPost_ret (results_none rfl _ _ _) rfl ?_
    refine ⟨rfl, ?_⟩
    have := wto_trans hO.out (.inl rfl) hT4
    simpa using this
  · rw [if_neg f2]
    have f2' : (fl == 2) = false := by simpa using f2
    go_enter Tryz.func132, Tryz.ntmps132
    obtain ⟨q, q0, q1, q2, q3, q4, q5, q6, q7, q8, q9⟩ := Q.out
    go_wp2_with fail
    refine HK.out.mono ?_
    rintro e w1 ⟨rfl, ho1⟩
    have hT2 := hT1.quiet ho1
    obtain ⟨q, q0, q1, q2, q3, q4, q5, q6, q7, q8, q9⟩ := Q.out
    replace q := hT2.box q hp1 hg1
    replace q0 := hT2.box q0 hp2 hg2
    replace q1 := hT2.box q1 hp2 hg2
    replace q2 := hT2.box q2 hp2 hg2
    replace q3 := hT2.box q3 hp2 hg2
    replace q4 := hT2.box q4 hp2 hg2
    replace q5 := hT2.box q5 hp2 hg2
    replace q6 := hT2.box q6 hp2 hg2
    replace q7 := hT2.box q7 hp2 hg2
    replace q8 := hT2.box q8 hp2 hg2
    replace q9 := hT2.box q9 hp2 hg2
    have HV := u1_lift hT2 [fl] (by simp; omega) (by simp; omega)
    simp only [List.map_cons, List.map_nil, List.length_cons, List.length_nil, Nat.zero_add, List.flatMap_cons, List.flatMap_nil, List.append_nil] at HV
    replace HV := hid HV
    go_wp2_with fail
    refine HV.out.mono ?_
    rintro e w9 ⟨rfl, hT3⟩
    clear HV
    obtain ⟨q, q0, q1, q2, q3, q4, q5, q6, q7, q8, q9⟩ := Q.out
    replace q := hT3.box q hp1 hg1
    replace q0 := hT3.box q0 hp2 hg2
    replace q1 := hT3.box q1 hp2 hg2
    replace q2 := hT3.box q2 hp2 hg2
    replace q3 := hT3.box q3 hp2 hg2
    replace q4 := hT3.box q4 hp2 hg2
    replace q5 := hT3.box q5 hp2 hg2
    replace q6 := hT3.box q6 hp2 hg2
    replace q7 := hT3.box q7 hp2 hg2
    replace q8 := hT3.box q8 hp2 hg2
    replace q9 := hT3.box q9 hp2 hg2
    have HV := tx_lift hT3 [nm, tx] (by simp; omega) (by simp [e1]; omega)
    simp only [List.map_cons, List.map_nil, List.length_cons, List.length_nil, Nat.zero_add, List.flatMap_cons, List.flatMap_nil, List.append_nil, Nat.reduceAdd] at HV
    replace HV := hid HV
    go_wp2_with fail
    refine HV.out.mono ?_
    rintro e w9 ⟨rfl, hT4⟩
    clear HV
    obtain ⟨q, q0, q1, q2, q3, q4, q5, q6, q7, q8, q9⟩ := Q.out
    replace q := hT4.box q hp1 hg1
    replace q0 := hT4.box q0 hp2 hg2
    replace q1 := hT4.box q1 hp2 hg2
    replace q2 := hT4.box q2 hp2 hg2
    replace q3 := hT4.box q3 hp2 hg2
    replace q4 := hT4.box q4 hp2 hg2
    replace q5 := hT4.box q5 hp2 hg2
    replace q6 := hT4.box q6 hp2 hg2
    replace q7 := hT4.box q7 hp2 hg2
    replace q8 := hT4.box q8 hp2 hg2
    replace q9 := hT4.box q9 hp2 hg2
    have HV := u1_lift hT4 [st, lo] (by simp; omega) (by simp [e1, eT]; omega)
    simp only [List.map_cons, List.map_nil, List.length_cons, List.length_nil, Nat.zero_add, List.flatMap_cons, List.flatMap_nil, List.append_nil, Nat.reduceAdd] at HV
    replace HV := hid HV
    go_wp2_with fail
    refine HV.out.mono ?_
    rintro e w9 ⟨rfl, hT5⟩
    clear HV
    obtain ⟨q, q0, q1, q2, q3, q4, q5, q6, q7, q8, q9⟩ := Q.out
    replace q := hT5.box q hp1 hg1
    replace q0 := hT5.box q0 hp2 hg2
    replace q1 := hT5.box q1 hp2 hg2
    replace q2 := hT5.box q2 hp2 hg2
    replace q3 := hT5.box q3 hp2 hg2
    replace q4 := hT5.box q4 hp2 hg2
    replace q5 := hT5.box q5 hp2 hg2
    replace q6 := hT5.box q6 hp2 hg2
    replace q7 := hT5.box q7 hp2 hg2
    replace q8 := hT5.box q8 hp2 hg2
    replace q9 := hT5.box q9 hp2 hg2
    have HV := u2_lift hT5 [(code.length : Int)] (by simp; omega) (by simp [e1, eT]; omega)
    simp only [List.map_cons, List.map_nil, List.length_cons, List.length_nil, Nat.zero_add, List.flatMap_cons, List.flatMap_nil, List.append_nil] at HV
    replace HV := hid HV
    go_wp2_with fail
    refine HV.out.mono ?_
    rintro e w9 ⟨rfl, hT6⟩
    clear HV
    obtain ⟨q, q0, q1, q2, q3, q4, q5, q6, q7, q8, q9⟩ := Q.out
    replace q := hT6.box q hp1 hg1
    replace q0 := hT6.box q0 hp2 hg2
    replace q1 := hT6.box q1 hp2 hg2
    replace q2 := hT6.box q2 hp2 hg2
    replace q3 := hT6.box q3 hp2 hg2
    replace q4 := hT6.box q4 hp2 hg2
    replace q5 := hT6.box q5 hp2 hg2
    replace q6 := hT6.box q6 hp2 hg2
    replace q7 := hT6.box q7 hp2 hg2
    replace q8 := hT6.box q8 hp2 hg2
    replace q9 := hT6.box q9 hp2 hg2
    have RC2 := RC.out.rs.only (((((Only.refl [p, g] w).alloc (.cells #[.pointer (some ⟨p, 0, none⟩)] 76)).alloc (.cells #[.int .i64 fl, .string (str nm), .slice po ps.length pc, .bool vo, .int .i64 td, .string (str tn), .int .i64 st, .int .i64 lo, .slice co code.length cc, .slice ho hs.length hc] 41)).trans hT6.only (by simp))) (fun hn => by have := hPB _ (RC.out.ok hn); have := hB.out; simp; omega)
    have HV := bytes_lift hT6 (cap := cc) RC2 RC.out.no (by simp [e1, e2, eT, toBE_length]; omega)
    replace HV := hid HV
    go_wp2_with fail
    refine HV.out.mono ?_
    rintro e w9 ⟨rfl, hT7⟩
    clear HV
    obtain ⟨q, q0, q1, q2, q3, q4, q5, q6, q7, q8, q9⟩ := Q.out
    replace q := hT7.box q hp1 hg1
    replace q0 := hT7.box q0 hp2 hg2
    replace q1 := hT7.box q1 hp2 hg2
    replace q2 := hT7.box q2 hp2 hg2
    replace q3 := hT7.box q3 hp2 hg2
    replace q4 := hT7.box q4 hp2 hg2
    replace q5 := hT7.box q5 hp2 hg2
    replace q6 := hT7.box q6 hp2 hg2
    replace q7 := hT7.box q7 hp2 hg2
    replace q8 := hT7.box q8 hp2 hg2
    replace q9 := hT7.box q9 hp2 hg2
    have HV := u1_lift hT7 [(hs.length : Int)] (by simp; omega) (by simp [e1, e2, eT, toBE_length]; omega)
    simp only [List.map_cons, List.map_nil, List.length_cons, List.length_nil, Nat.zero_add, List.flatMap_cons, List.flatMap_nil, List.append_nil] at HV
    replace HV := hid HV
    go_wp2_with fail
    refine HV.out.mono ?_
    rintro e w9 ⟨rfl, hT8⟩
    clear HV
    obtain ⟨q, q0, q1, q2, q3, q4, q5, q6, q7, q8, q9⟩ := Q.out
    replace q := hT8.box q hp1 hg1
    replace q0 := hT8.box q0 hp2 hg2
    replace q1 := hT8.box q1 hp2 hg2
    replace q2 := hT8.box q2 hp2 hg2
    replace q3 := hT8.box q3 hp2 hg2
    replace q4 := hT8.box q4 hp2 hg2
    replace q5 := hT8.box q5 hp2 hg2
    replace q6 := hT8.box q6 hp2 hg2
    replace q7 := hT8.box q7 hp2 hg2
    replace q8 := hT8.box q8 hp2 hg2
    replace q9 := hT8.box q9 hp2 hg2
    go_wp2_with fail
    obtain ⟨OUT, hOUT⟩ : ∃ O, O = out ++ e1 fl ++ (eT nm ++ eT tx) ++ (e1 st ++ e1 lo) ++ e2 (code.length : Int) ++ code ++ e1 (hs.length : Int) := ⟨_, rfl⟩
    rw [← hOUT] at hT8
    have hlen : OUT.length ≤ out.length + 5000 := by rw [hOUT]; simp [e1, e2, eT, toBE_length]; omega
    replace hOUT := hid hOUT
    have hst : Hid (WTo ((w.alloc (.cells #[.pointer (some ⟨p, 0, none⟩)] 76)).alloc (.cells #[.int .i64 fl, .string (str nm), .slice po ps.length pc, .bool vo, .int .i64 td, .string (str tn), .int .i64 st, .int .i64 lo, .slice co code.length cc, .slice ho hs.length hc] 41)) B p g w9 (OUT ++ (hs.take 0).flatMap encHd, 0)) := by simpa [Hid] using hT8
    clear q q0 q1 q2 q3 q4 q5 q6 q7 q8 q9 hT2 hT3 hT4 hT5 hT6 hT7 hT8 RC RC2
    go_loopw [60] (fun i wr => ∃ (j : Nat), j ≤ hs.length ∧ i = .int .i64 (j : Int) ∧ Hid (WTo ((w.alloc (.cells #[.pointer (some ⟨p, 0, none⟩)] 76)).alloc (.cells #[.int .i64 fl, .string (str nm), .slice po ps.length pc, .bool vo, .int .i64 td, .string (str tn), .int .i64 st, .int .i64 lo, .slice co code.length cc, .slice ho hs.length hc] 41)) B p g wr (OUT ++ (hs.take j).flatMap encHd, 0))) (fun i _ => hs.length - (intOf i).toNat)
    case atStart => exact ⟨0, by omega, rfl, hst⟩
    case round =>
      obtain ⟨j, hj, rfl, hT⟩ := hrel
      clear hst
      by_cases hlt : j < hs.length
      · have g4 : ((j : Int) < (hs.length : Int)) := by omega
        have RH2 := RH.out.rs.only (((((Only.refl [p, g] w).alloc (.cells #[.pointer (some ⟨p, 0, none⟩)] 76)).alloc (.cells #[.int .i64 fl, .string (str nm), .slice po ps.length pc, .bool vo, .int .i64 td, .string (str tn), .int .i64 st, .int .i64 lo, .slice co code.length cc, .slice ho hs.length hc] 41)).trans hT.out.only (by simp))) (fun hn => by have := hPB _ (RH.out.ok hn); have := hB.out; simp; omega)
        obtain ⟨off, rfl, y0, y1, y2, y3⟩ := hd_cells RH2 hlt
        have hy := hHd.out hs[j] (List.getElem_mem hlt)
        have hfl : ((hs.take j).flatMap encHd).length ≤ 2000 := by
          have := flat_le encHd 39 (hs.take j) fun x hx => encHd_len (hHd.out x (List.mem_of_mem_take hx))
          have h2 : (hs.take j).length ≤ 32 := by rw [List.length_take]; omega
          omega
        have hsucc := hid (flat_take_succ encHd hs j hlt)
        obtain ⟨q, _⟩ := Q.out
        replace q := hT.out.box q hp1 hg1
        clear RH2
        generalize hs[j] = y at *
        generalize (hs.take j).flatMap encHd = fl2 at *
        obtain ⟨ya, yb, yc, ys⟩ := y
        obtain ⟨ha, hb, hc2, hn⟩ := hy
        simp only at ha hb hc2 hn y0 y1 y2 y3
        have qa := cell_alloc (.cells #[.int .i64 ya, .int .i64 yb, .int .i64 yc, .string (str ys)] 46) q
        obtain ⟨g', hT2, hgl, hpl, hback⟩ := hT.out.hereA (.cells #[.int .i64 ya, .int .i64 yb, .int .i64 yc, .string (str ys)] 46)
        have z0 : (wr.alloc (.cells #[.int .i64 ya, .int .i64 yb, .int .i64 yc, .string (str ys)] 46)).cell? ⟨wr.heap.size, 3, none⟩ = some (.string (str ys)) := by rw [cell_new]; rfl
        have HU := u2_lift hT2 [ya, yb, yc] (by simp; omega) (by simp; omega)
        simp only [World.size_alloc] at HU
        simp only [List.map_cons, List.map_nil, List.length_cons, List.length_nil, Nat.zero_add, List.flatMap_cons, List.flatMap_nil, List.append_nil, Nat.reduceAdd] at HU
        replace HU := hid HU
        go_wp2_with fail
        refine HU.out.mono ?_
        rintro e w2 ⟨rfl, hT3⟩
        clear HU
        have z1 := hT3.box z0 (by omega) (by omega)
        obtain ⟨q', _⟩ := Q.out
        replace q' := (hback _ _ hT3).box q' hp1 hg1
        have HV := tx_lift hT3 [ys] (by simp; omega) (by simp [e2, toBE_length]; omega)
        simp only [List.map_cons, List.map_nil, List.length_cons, List.length_nil, Nat.zero_add, List.flatMap_cons, List.flatMap_nil, List.append_nil] at HV
        replace HV := hid HV
        go_wp2_with fail
        refine HV.out.mono ?_
        rintro e w3 ⟨rfl, hT4⟩
        clear HV
        go_wp2_with fail
        refine ⟨⟨j + 1, by omega, by go_num, ?_⟩, by simp [intOf]; omega⟩
        have := hback _ _ hT4
        rw [hsucc.out]
        simpa [encHd, Hid] using this
      · have g4 : ¬ ((j : Int) < (hs.length : Int)) := by omega
        go_wp2_with fail
        go_end0
        refine ⟨rfl, ?_⟩
        have := wto_trans hO.out (.inl rfl) hT.out
        rw [List.take_of_length_le (by omega), hOUT.out] at this
        simpa using this

end Go.Proofs.YtildemmkhndhjaaGreatDoor
