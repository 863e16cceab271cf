/-
  What the proof leans on, part 20 of 28. The conditions stand in each theorem.
-/
import Derived.Test.YtildemmkhndhjaaGreatDoorB19
import Derived.Test.YtildemmkhndhjaaGreatDoorB11
import Derived.Lib.SmallJoins
namespace Go.Proofs.YtildemmkhndhjaaGreatDoor
open Go.RowKit

def tgV (p : Nat) : Value := .agg #[.pointer (some ⟨p, 0, none⟩)]

/-- A box of a call that writes stays as it is. -/
theorem WTo.box {w1 w : World} {B p g : Nat} {s : List UInt8 × Int} (h : WTo w1 B p g w s) {b i : Nat} {v : Value} (hb : w1.cell? ⟨b, i, none⟩ = some v) (hp : b ≠ p) (hg : b ≠ g) : w.cell? ⟨b, i, none⟩ = some v :=
 (h.only.cell (p := ⟨b, i, none⟩) (World.block_lt_of_cell? w1 _ hb) (by simp [hp, hg])).trans hb

theorem box2 (w : World) (cs : Array Value) (t : TypeId) (o : Obj) {i : Nat} {v : Value} (h : cs[i]? = some v) : ((w.alloc o).alloc (.cells cs t)).cell? ⟨w.heap.size + 1, i, none⟩ = some v := by
 have := cell_new (w.alloc o) cs t i
 rw [World.size_alloc] at this
 rw [this, h]

theorem box1 (w : World) (cs : Array Value) (t : TypeId) (o : Obj) {i : Nat} {v : Value} (h : cs[i]? = some v) : ((w.alloc (.cells cs t)).alloc o).cell? ⟨w.heap.size, i, none⟩ = some v :=
 cell_alloc _ (by rw [cell_new, h])

set_option maxHeartbeats 4000000 in
theorem wentry_any {w : World} {B p g : Nat} {out : List UInt8} (h : WrE w B p g (out, 0)) (e : En) (he : EnGood e) (hsz : out.length ≤ 100000000000000) :
  Calls Tryz.prog 60 #[tgV p, enV e] w fun r w' => r = .returned (.tuple #[]) ∧ WTo w B p g w' (out ++ encEn e, 0) := by
 obtain ⟨k, s, nn, a, b, c⟩ := e
 obtain ⟨hk, _, ht, _, ha, hb, hc⟩ := he
 simp only at hk ht ha hb hc
 unfold enV encEn
 simp only
 have hl := h.lt
 have hT1 := WTo.refl (h.only (((Only.refl [] w).alloc (.cells #[.pointer (some ⟨p, 0, none⟩)] 76)).alloc (.cells #[.int .i64 k, .string (str s), .int .i64 nn, .int .i64 a, .int .i64 b, .int .i64 c] 90)) (by simp) (by simp))
 have hO := hid (((Only.refl [p, g] w).alloc (.cells #[.pointer (some ⟨p, 0, none⟩)] 76)).alloc (.cells #[.int .i64 k, .string (str s), .int .i64 nn, .int .i64 a, .int .i64 b, .int .i64 c] 90))
 have q := box1 w #[.pointer (some ⟨p, 0, none⟩)] 76 (.cells #[.int .i64 k, .string (str s), .int .i64 nn, .int .i64 a, .int .i64 b, .int .i64 c] 90) (i := 0) rfl
 have q0 := box2 w #[.int .i64 k, .string (str s), .int .i64 nn, .int .i64 a, .int .i64 b, .int .i64 c] 90 (.cells #[.pointer (some ⟨p, 0, none⟩)] 76) (i := 0) rfl
 have q1 := box2 w #[.int .i64 k, .string (str s), .int .i64 nn, .int .i64 a, .int .i64 b, .int .i64 c] 90 (.cells #[.pointer (some ⟨p, 0, none⟩)] 76) (i := 1) rfl
 have q2 := box2 w #[.int .i64 k, .string (str s), .int .i64 nn, .int .i64 a, .int .i64 b, .int .i64 c] 90 (.cells #[.pointer (some ⟨p, 0, none⟩)] 76) (i := 2) rfl
 have q3 := box2 w #[.int .i64 k, .string (str s), .int .i64 nn, .int .i64 a, .int .i64 b, .int .i64 c] 90 (.cells #[.pointer (some ⟨p, 0, none⟩)] 76) (i := 3) rfl
 have q4 := box2 w #[.int .i64 k, .string (str s), .int .i64 nn, .int .i64 a, .int .i64 b, .int .i64 c] 90 (.cells #[.pointer (some ⟨p, 0, none⟩)] 76) (i := 4) rfl
 have q5 := box2 w #[.int .i64 k, .string (str s), .int .i64 nn, .int .i64 a, .int .i64 b, .int .i64 c] 90 (.cells #[.pointer (some ⟨p, 0, none⟩)] 76) (i := 5) rfl
 have Q := hid (And.intro q ((And.intro q0 (And.intro q1 (And.intro q2 (And.intro q3 (And.intro q4 q5)))))))
 clear q q0 q1 q2 q3 q4 q5
 have hp1 : w.heap.size ≠ p := by omega
 have hg1 : w.heap.size ≠ g := by omega
 have hp2 : w.heap.size + 1 ≠ p := by omega
 have hg2 : w.heap.size + 1 ≠ g := by omega
 unfold tgV
 have HU := u1_lift hT1 [k] (by simp; omega) (by simp; omega)
 simp only [World.size_alloc] at HU
 simp only [List.map_cons, List.map_nil, List.length_cons, List.length_nil, Nat.zero_add, List.flatMap_cons, List.flatMap_nil, List.append_nil] at HU
 replace HU := hid HU
 clear hT1
 by_cases k1 : k = 1
 ·subst k1
  rw [if_pos rfl]
  go_enter Tryz.func60, Tryz.ntmps60
  obtain ⟨q, q0, q1, q2, q3, q4, q5⟩ := Q.out
  go_wp2_with fail
  refine HU.out.mono ?_
  rintro e w2 ⟨rfl, hT2⟩
  obtain ⟨q, q0, q1, q2, q3, q4, q5⟩ := Q.out
  replace q := hT2.box q hp1 hg1
  replace q0 := hT2.box q0 hp2 hg2
  replace q1 := hT2.box q1 hp2 hg2
  replace q2 := hT2.box q2 hp2 hg2
  replace q3 := hT2.box q3 hp2 hg2
  replace q4 := hT2.box q4 hp2 hg2
  replace q5 := hT2.box q5 hp2 hg2
  clear HU
  have HV := tx_lift hT2 [s] (by simpa using ht) (by simp [e1]; omega)
  simp only [List.map_cons, List.map_nil, List.length_cons, List.length_nil, Nat.zero_add, List.flatMap_cons, List.flatMap_nil, List.append_nil] at HV
  replace HV := hid HV
  go_wp2_with fail
  refine HV.out.mono ?_
  rintro e w3 ⟨rfl, hT3⟩
  go_wp2_with fail
  go_end0
  refine ⟨rfl, ?_⟩
  have := wto_trans hO.out (.inl rfl) hT3
  rwa [List.append_assoc] at this
 have k1' : (k == 1) = false := by simpa using k1
 rw [if_neg k1]
 by_cases k2 : k = 2
 ·subst k2
  rw [if_pos rfl]
  go_enter Tryz.func60, Tryz.ntmps60
  obtain ⟨q, q0, q1, q2, q3, q4, q5⟩ := Q.out
  go_wp2_with fail
  refine HU.out.mono ?_
  rintro e w2 ⟨rfl, hT2⟩
  obtain ⟨q, q0, q1, q2, q3, q4, q5⟩ := Q.out
  replace q := hT2.box q hp1 hg1
  replace q0 := hT2.box q0 hp2 hg2
  replace q1 := hT2.box q1 hp2 hg2
  replace q2 := hT2.box q2 hp2 hg2
  replace q3 := hT2.box q3 hp2 hg2
  replace q4 := hT2.box q4 hp2 hg2
  replace q5 := hT2.box q5 hp2 hg2
  clear HU
  have HV := hid (n8_lift hT2 nn (by simp [e1]; omega))
  go_wp2_with fail
  refine HV.out.mono ?_
  rintro e w3 ⟨rfl, hT3⟩
  go_wp2_with fail
  go_end0
  refine ⟨rfl, ?_⟩
  have := wto_trans hO.out (.inl rfl) hT3
  rwa [List.append_assoc] at this
 have k2' : (k == 2) = false := by simpa using k2
 rw [if_neg k2]
 by_cases k3 : k = 3 ∨ k = 4
 ·rw [if_pos k3]
  rcases k3 with rfl | rfl
  all_goals
   go_enter Tryz.func60, Tryz.ntmps60
   obtain ⟨q, q0, q1, q2, q3, q4, q5⟩ := Q.out
   go_wp2_with fail
   refine HU.out.mono ?_
   rintro e w2 ⟨rfl, hT2⟩
   obtain ⟨q, q0, q1, q2, q3, q4, q5⟩ := Q.out
   replace q := hT2.box q hp1 hg1
   replace q0 := hT2.box q0 hp2 hg2
   replace q1 := hT2.box q1 hp2 hg2
   replace q2 := hT2.box q2 hp2 hg2
   replace q3 := hT2.box q3 hp2 hg2
   replace q4 := hT2.box q4 hp2 hg2
   replace q5 := hT2.box q5 hp2 hg2
   clear HU
   have HV := u2_lift hT2 [a] (by simpa using ha) (by simp [e1]; omega)
   simp only [List.map_cons, List.map_nil, List.length_cons, List.length_nil, Nat.zero_add, List.flatMap_cons, List.flatMap_nil, List.append_nil] at HV
   replace HV := hid HV
   go_wp2_with fail
   refine HV.out.mono ?_
   rintro e w3 ⟨rfl, hT3⟩
   go_wp2_with fail
   go_end0
   refine ⟨rfl, ?_⟩
   have := wto_trans hO.out (.inl rfl) hT3
   rwa [List.append_assoc] at this
 ·rw [if_neg k3]
  have k5 : k = 5 ∨ k = 6 := by omega
  clear k3 k1 k2 k1' k2'
  rcases k5 with rfl | rfl
  all_goals
   go_enter Tryz.func60, Tryz.ntmps60
   obtain ⟨q, q0, q1, q2, q3, q4, q5⟩ := Q.out
   go_wp2_with fail
   refine HU.out.mono ?_
   rintro e w2 ⟨rfl, hT2⟩
   obtain ⟨q, q0, q1, q2, q3, q4, q5⟩ := Q.out
   replace q := hT2.box q hp1 hg1
   replace q0 := hT2.box q0 hp2 hg2
   replace q1 := hT2.box q1 hp2 hg2
   replace q2 := hT2.box q2 hp2 hg2
   replace q3 := hT2.box q3 hp2 hg2
   replace q4 := hT2.box q4 hp2 hg2
   replace q5 := hT2.box q5 hp2 hg2
   clear HU
   have HV := u2_lift hT2 [a, b, c] (by simp; omega) (by simp [e1]; omega)
   simp only [List.map_cons, List.map_nil, List.length_cons, List.length_nil, Nat.zero_add, List.flatMap_cons, List.flatMap_nil, List.append_nil, Nat.reduceAdd] at HV
   replace HV := hid HV
   go_wp2_with fail
   refine HV.out.mono ?_
   rintro e w3 ⟨rfl, hT3⟩
   go_wp2_with fail
   go_end0
   refine ⟨rfl, ?_⟩
   have := wto_trans hO.out (.inl rfl) hT3
   rwa [List.append_assoc] at this

set_option maxHeartbeats 4000000 in
theorem wfield_any {w : World} {B p g : Nat} {out : List UInt8} (h : WrE w B p g (out, 0)) (f : Fd) (hf : FdGood f) (hsz : out.length ≤ 100000000000000) :
  Calls Tryz.prog 131 #[tgV p, fdV f] w fun r w' => r = .returned (.tuple #[]) ∧ WTo w B p g w' (out ++ encFd f, 0) := by
 obtain ⟨k, s, td, tn⟩ := f
 obtain ⟨hk, hs, ht⟩ := hf
 simp only at hk hs ht
 unfold fdV encFd
 simp only
 have hl := h.lt
 have hT1 := WTo.refl (h.only (((Only.refl [] w).alloc (.cells #[.pointer (some ⟨p, 0, none⟩)] 76)).alloc (.cells #[.int .i64 k, .string (str s), .int .i64 td, .string (str tn)] 44)) (by simp) (by simp))
 have hO := hid (((Only.refl [p, g] w).alloc (.cells #[.pointer (some ⟨p, 0, none⟩)] 76)).alloc (.cells #[.int .i64 k, .string (str s), .int .i64 td, .string (str tn)] 44))
 have q := box1 w #[.pointer (some ⟨p, 0, none⟩)] 76 (.cells #[.int .i64 k, .string (str s), .int .i64 td, .string (str tn)] 44) (i := 0) rfl
 have q0 := box2 w #[.int .i64 k, .string (str s), .int .i64 td, .string (str tn)] 44 (.cells #[.pointer (some ⟨p, 0, none⟩)] 76) (i := 0) rfl
 have q1 := box2 w #[.int .i64 k, .string (str s), .int .i64 td, .string (str tn)] 44 (.cells #[.pointer (some ⟨p, 0, none⟩)] 76) (i := 1) rfl
 have q2 := box2 w #[.int .i64 k, .string (str s), .int .i64 td, .string (str tn)] 44 (.cells #[.pointer (some ⟨p, 0, none⟩)] 76) (i := 2) rfl
 have q3 := box2 w #[.int .i64 k, .string (str s), .int .i64 td, .string (str tn)] 44 (.cells #[.pointer (some ⟨p, 0, none⟩)] 76) (i := 3) rfl
 have Q := hid (And.intro q ((And.intro q0 (And.intro q1 (And.intro q2 q3)))))
 clear q q0 q1 q2 q3
 have hp1 : w.heap.size ≠ p := by omega
 have hg1 : w.heap.size ≠ g := by omega
 have hp2 : w.heap.size + 1 ≠ p := by omega
 have hg2 : w.heap.size + 1 ≠ g := by omega
 unfold tgV
 have HK := typeText_any (td, tn) (by have := (check_fit ht).2.2; omega) (((w.alloc (.cells #[.pointer (some ⟨p, 0, none⟩)] 76)).alloc (.cells #[.int .i64 k, .string (str s), .int .i64 td, .string (str tn)] 44)))
 have hL := tyText_len ht
 have htt : ttR (td, tn) = tyText (td, tn) := by unfold ttR; rw [if_pos ht]
 rw [htt] at HK
 generalize tyText (td, tn) = tx at *
 unfold tyV at HK
 replace HK := hid HK
 go_enter Tryz.func131, Tryz.ntmps131
 obtain ⟨q, q0, q1, q2, q3⟩ := Q.out
 go_wp2_with fail
 refine HK.out.mono ?_
 rintro e w1 ⟨rfl, ho1⟩
 have hT2 : WTo ((w.alloc (.cells #[.pointer (some ⟨p, 0, none⟩)] 76)).alloc (.cells #[.int .i64 k, .string (str s), .int .i64 td, .string (str tn)] 44)) B p g w1 (out, 0) := by
  obtain ⟨g', hw', hg', ho'⟩ := hT1
  exact ⟨g', hw'.only ho1 (by simp) (by simp), hg', ho'.next ho1 (by simp)⟩
 obtain ⟨q, q0, q1, q2, q3⟩ := Q.out
 replace q := hT2.box q hp1 hg1
 replace q0 := hT2.box q0 hp2 hg2
 replace q1 := hT2.box q1 hp2 hg2
 replace q2 := hT2.box q2 hp2 hg2
 replace q3 := hT2.box q3 hp2 hg2
 have HU := u1_lift hT2 [k] (by simp; omega) (by simp; omega)
 simp only [List.map_cons, List.map_nil, List.length_cons, List.length_nil, Nat.zero_add, List.flatMap_cons, List.flatMap_nil, List.append_nil] at HU
 replace HU := hid HU
 go_wp2_with fail
 refine HU.out.mono ?_
 rintro e w2 ⟨rfl, hT3⟩
 obtain ⟨q, q0, q1, q2, q3⟩ := Q.out
 replace q := hT3.box q hp1 hg1
 replace q0 := hT3.box q0 hp2 hg2
 replace q1 := hT3.box q1 hp2 hg2
 replace q2 := hT3.box q2 hp2 hg2
 replace q3 := hT3.box q3 hp2 hg2
 have HV := tx_lift hT3 [s, tx] (by simp; omega) (by simp [e1]; omega)
 simp only [List.map_cons, List.map_nil, List.length_cons, List.length_nil, Nat.zero_add, List.flatMap_cons, List.flatMap_nil, List.append_nil, Nat.reduceAdd] at HV
 replace HV := hid HV
 go_wp2_with fail
 refine HV.out.mono ?_
 rintro e w3 ⟨rfl, hT4⟩
 go_wp2_with fail
 go_end0
 refine ⟨rfl, ?_⟩
 have := wto_trans hO.out (.inl rfl) hT4
 rwa [List.append_assoc] at this

theorem flat_le {α : Type} (f : α → List UInt8) (k : Nat) : ∀ l : List α, (∀ x ∈ l, (f x).length ≤ k) → (l.flatMap f).length ≤ l.length * k := by
 intro l
 induction l with
 | nil => intro _; simp
 | cons x l ih =>
  intro h
  have h1 := h x (by simp)
  have h2 := ih fun y hy => h y (by simp [hy])
  rw [List.flatMap_cons, List.length_append, List.length_cons, Nat.add_mul]
  omega

theorem flat_take_succ {α β : Type} (f : α → List β) (l : List α) (j : Nat) (h : j < l.length) : (l.take (j + 1)).flatMap f = (l.take j).flatMap f ++ f l[j] := by
 rw [List.take_succ_eq_append_getElem h, List.flatMap_append]
 simp

theorem encHd_len {h : Hd} (g : HdGood h) : (encHd h).length ≤ 39 := by
 have := g.name
 simp [encHd, e2, eT, toBE_length]
 omega

theorem WTo.quiet {w0 w w' : World} {B p g : Nat} {s : List UInt8 × Int} (h : WTo w0 B p g w s) (ho : Only [] w w') : WTo w0 B p g w' s := by
 obtain ⟨g', h1, h2, h3⟩ := h
 exact ⟨g', h1.only ho (by simp) (by simp), h2, h3.next ho (by simp)⟩

/-- The same, a block laid first. -/
theorem WTo.hereA {w0 w : World} {B p g : Nat} {s : List UInt8 × Int} (h : WTo w0 B p g w s) (o : Obj) : ∃ g', WTo (w.alloc o) B p g' (w.alloc o) s ∧ g' < w.heap.size ∧ p < w.heap.size ∧ ∀ w' s', WTo (w.alloc o) B p g' w' s' → WTo w0 B p g w' s' := by
 obtain ⟨g', h1, h2, h3⟩ := h
 exact ⟨g', WTo.refl (h1.only ((Only.refl [] w).alloc o) (by simp) (by simp)), h1.lt.2.1, h1.lt.1, fun w' s' h => wto_trans (h3.alloc o) h2 h⟩

set_option maxHeartbeats 4000000 in
theorem wmeth_any {w : World} {B p g : Nat} {out : List UInt8} (h : WrE w B p g (out, 0)) (m : Me) (hg : MeGood m) (hF : MeFit m) {P : Nat → Prop} {vp vc vh : Value} (hM : MeAt (SlR w P) vp vc vh m) (hPB : ∀ d, P d → d < B) (hsz : out.length ≤ 100000000000000) :
  Calls Tryz.prog 132 #[tgV p, meV vp vc vh m] w fun r w' => r = .returned (.tuple #[]) ∧ WTo w B p g w' (out ++ encMe m, 0) := by
 obtain ⟨po, pc, pd, rfl, hP0⟩ := hM.params
 obtain ⟨co, cc, cd, rfl, hC0⟩ := hM.code
 obtain ⟨ho, hc, hd, rfl, hH0⟩ := hM.hands
 clear hM
 have hFp := hF.params
 have hFr := hF.res
 clear hF
 obtain ⟨fl, nm, ⟨ps, vo, td, tn⟩, st, lo, code, hs⟩ := m
 obtain ⟨hfl, hnm, hsg, htx, hno, hst0, hlo0, hcl, hhl, hhd⟩ := hg
 clear hno
 simp only at hfl hnm hsg htx hst0 hlo0 hcl hhl hhd hP0 hC0 hH0 hFp hFr
 unfold meV encMe
 simp only
 have hl := h.lt
 have hT1 := WTo.refl (h.only (((Only.refl [] w).alloc (.cells #[.pointer (some ⟨p, 0, none⟩)] 76)).alloc (.cells #[.int .i64 fl, .string (str nm), .slice po ps.length pc, .bool vo, .int .i64 td, .string (str tn), .int .i64 st, .int .i64 lo, .slice co code.length cc, .slice ho hs.length hc] 41)) (by simp) (by simp))
 have hO := hid (((Only.refl [p, g] w).alloc (.cells #[.pointer (some ⟨p, 0, none⟩)] 76)).alloc (.cells #[.int .i64 fl, .string (str nm), .slice po ps.length pc, .bool vo, .int .i64 td, .string (str tn), .int .i64 st, .int .i64 lo, .slice co code.length cc, .slice ho hs.length hc] 41))
 have q := box1 w #[.pointer (some ⟨p, 0, none⟩)] 76 (.cells #[.int .i64 fl, .string (str nm), .slice po ps.length pc, .bool vo, .int .i64 td, .string (str tn), .int .i64 st, .int .i64 lo, .slice co code.length cc, .slice ho hs.length hc] 41) (i := 0) rfl
 have q0 := box2 w #[.int .i64 fl, .string (str nm), .slice po ps.length pc, .bool vo, .int .i64 td, .string (str tn), .int .i64 st, .int .i64 lo, .slice co code.length cc, .slice ho hs.length hc] 41 (.cells #[.pointer (some ⟨p, 0, none⟩)] 76) (i := 0) rfl
 have q1 := box2 w #[.int .i64 fl, .string (str nm), .slice po ps.length pc, .bool vo, .int .i64 td, .string (str tn), .int .i64 st, .int .i64 lo, .slice co code.length cc, .slice ho hs.length hc] 41 (.cells #[.pointer (some ⟨p, 0, none⟩)] 76) (i := 1) rfl
 have q2 := box2 w #[.int .i64 fl, .string (str nm), .slice po ps.length pc, .bool vo, .int .i64 td, .string (str tn), .int .i64 st, .int .i64 lo, .slice co code.length cc, .slice ho hs.length hc] 41 (.cells #[.pointer (some ⟨p, 0, none⟩)] 76) (i := 2) rfl
 have q3 := box2 w #[.int .i64 fl, .string (str nm), .slice po ps.length pc, .bool vo, .int .i64 td, .string (str tn), .int .i64 st, .int .i64 lo, .slice co code.length cc, .slice ho hs.length hc] 41 (.cells #[.pointer (some ⟨p, 0, none⟩)] 76) (i := 3) rfl
 have q4 := box2 w #[.int .i64 fl, .string (str nm), .slice po ps.length pc, .bool vo, .int .i64 td, .string (str tn), .int .i64 st, .int .i64 lo, .slice co code.length cc, .slice ho hs.length hc] 41 (.cells #[.pointer (some ⟨p, 0, none⟩)] 76) (i := 4) rfl
 have q5 := box2 w #[.int .i64 fl, .string (str nm), .slice po ps.length pc, .bool vo, .int .i64 td, .string (str tn), .int .i64 st, .int .i64 lo, .slice co code.length cc, .slice ho hs.length hc] 41 (.cells #[.pointer (some ⟨p, 0, none⟩)] 76) (i := 5) rfl
 have q6 := box2 w #[.int .i64 fl, .string (str nm), .slice po ps.length pc, .bool vo, .int .i64 td, .string (str tn), .int .i64 st, .int .i64 lo, .slice co code.length cc, .slice ho hs.length hc] 41 (.cells #[.pointer (some ⟨p, 0, none⟩)] 76) (i := 6) rfl
 have q7 := box2 w #[.int .i64 fl, .string (str nm), .slice po ps.length pc, .bool vo, .int .i64 td, .string (str tn), .int .i64 st, .int .i64 lo, .slice co code.length cc, .slice ho hs.length hc] 41 (.cells #[.pointer (some ⟨p, 0, none⟩)] 76) (i := 7) rfl
 have q8 := box2 w #[.int .i64 fl, .string (str nm), .slice po ps.length pc, .bool vo, .int .i64 td, .string (str tn), .int .i64 st, .int .i64 lo, .slice co code.length cc, .slice ho hs.length hc] 41 (.cells #[.pointer (some ⟨p, 0, none⟩)] 76) (i := 8) rfl
 have q9 := box2 w #[.int .i64 fl, .string (str nm), .slice po ps.length pc, .bool vo, .int .i64 td, .string (str tn), .int .i64 st, .int .i64 lo, .slice co code.length cc, .slice ho hs.length hc] 41 (.cells #[.pointer (some ⟨p, 0, none⟩)] 76) (i := 9) rfl
 have Q := hid (And.intro q ((And.intro q0 (And.intro q1 (And.intro q2 (And.intro q3 (And.intro q4 (And.intro q5 (And.intro q6 (And.intro q7 (And.intro q8 q9)))))))))))
 clear q q0 q1 q2 q3 q4 q5 q6 q7 q8 q9
 have hp1 : w.heap.size ≠ p := by omega
 have hg1 : w.heap.size ≠ g := by omega
 have hp2 : w.heap.size + 1 ≠ p := by omega
 have hg2 : w.heap.size + 1 ≠ g := by omega
 unfold tgV
 have hL : (sgText (ps, vo, td, tn)).length ≤ 255 := htx
 have HK := sigText_any (cap := pc) (TS.of_rs (hP0.rs.only0 (((Only.refl [] w).alloc (.cells #[.pointer (some ⟨p, 0, none⟩)] 76)).alloc (.cells #[.int .i64 fl, .string (str nm), .slice po ps.length pc, .bool vo, .int .i64 td, .string (str tn), .int .i64 st, .int .i64 lo, .slice co code.length cc, .slice ho hs.length hc] 41)))) (by have := hP0.le; have := hP0.max; omega) hFp vo (td, tn) hFr
 have hst : stR ps vo (td, tn) = sgText (ps, vo, td, tn) := by unfold stR; rw [if_pos hsg]; rfl
 rw [hst] at HK
 unfold sigV at HK
 generalize sgText (ps, vo, td, tn) = tx at *
 replace HK := hid HK
 have hB := hid hl
 clear hst hsg htx hP0 hFp hFr
 have RC := hid hC0
 have RH := hid hH0
 clear hC0 hH0
 have hHd := hid hhd
 clear hhd
 by_cases f2 : fl = 2
 ·subst f2
  rw [if_pos rfl]
  clear RC RH
  go_enter Tryz.func132, Tryz.ntmps132
  obtain ⟨q, q0, q1, q2, q3, q4, q5, q6, q7, q8, q9⟩ := Q.out
  go_wp2_with fail
  refine HK.out.mono ?_
  rintro e w1 ⟨rfl, ho1⟩
  have hT2 := hT1.quiet ho1
  obtain ⟨q, q0, q1, q2, q3, q4, q5, q6, q7, q8, q9⟩ := Q.out
  replace q := hT2.box q hp1 hg1
  replace q0 := hT2.box q0 hp2 hg2
  replace q1 := hT2.box q1 hp2 hg2
  replace q2 := hT2.box q2 hp2 hg2
  replace q3 := hT2.box q3 hp2 hg2
  replace q4 := hT2.box q4 hp2 hg2
  replace q5 := hT2.box q5 hp2 hg2
  replace q6 := hT2.box q6 hp2 hg2
  replace q7 := hT2.box q7 hp2 hg2
  replace q8 := hT2.box q8 hp2 hg2
  replace q9 := hT2.box q9 hp2 hg2
  have HV := u1_lift hT2 [(2 : Int)] (by simp) (by simp; omega)
  simp only [List.map_cons, List.map_nil, List.length_cons, List.length_nil, Nat.zero_add, List.flatMap_cons, List.flatMap_nil, List.append_nil] at HV
  replace HV := hid HV
  go_wp2_with fail
  refine HV.out.mono ?_
  rintro e w9 ⟨rfl, hT3⟩
  clear HV
  obtain ⟨q, q0, q1, q2, q3, q4, q5, q6, q7, q8, q9⟩ := Q.out
  replace q := hT3.box q hp1 hg1
  replace q0 := hT3.box q0 hp2 hg2
  replace q1 := hT3.box q1 hp2 hg2
  replace q2 := hT3.box q2 hp2 hg2
  replace q3 := hT3.box q3 hp2 hg2
  replace q4 := hT3.box q4 hp2 hg2
  replace q5 := hT3.box q5 hp2 hg2
  replace q6 := hT3.box q6 hp2 hg2
  replace q7 := hT3.box q7 hp2 hg2
  replace q8 := hT3.box q8 hp2 hg2
  replace q9 := hT3.box q9 hp2 hg2
  have HV := tx_lift hT3 [nm, tx] (by simp; omega) (by simp [e1]; omega)
  simp only [List.map_cons, List.map_nil, List.length_cons, List.length_nil, Nat.zero_add, List.flatMap_cons, List.flatMap_nil, List.append_nil, Nat.reduceAdd] at HV
  replace HV := hid HV
  go_wp2_with fail
  refine HV.out.mono ?_
  rintro e w9 ⟨rfl, hT4⟩
  clear HV
  obtain ⟨q, q0, q1, q2, q3, q4, q5, q6, q7, q8, q9⟩ := Q.out
  replace q0 := hT4.box q0 hp2 hg2
  clear q q1 q2 q3 q4 q5 q6 q7 q8 q9
  go_wp2_with fail
  refine bodyPost_ret (results_none rfl _ _ _) rfl ?_
  refine ⟨rfl, ?_⟩
  have := wto_trans hO.out (.inl rfl) hT4
  simpa using this
 ·rw [if_neg f2]
  have f2' : (fl == 2) = false := by simpa using f2
  go_enter Tryz.func132, Tryz.ntmps132
  obtain ⟨q, q0, q1, q2, q3, q4, q5, q6, q7, q8, q9⟩ := Q.out
  go_wp2_with fail
  refine HK.out.mono ?_
  rintro e w1 ⟨rfl, ho1⟩
  have hT2 := hT1.quiet ho1
  obtain ⟨q, q0, q1, q2, q3, q4, q5, q6, q7, q8, q9⟩ := Q.out
  replace q := hT2.box q hp1 hg1
  replace q0 := hT2.box q0 hp2 hg2
  replace q1 := hT2.box q1 hp2 hg2
  replace q2 := hT2.box q2 hp2 hg2
  replace q3 := hT2.box q3 hp2 hg2
  replace q4 := hT2.box q4 hp2 hg2
  replace q5 := hT2.box q5 hp2 hg2
  replace q6 := hT2.box q6 hp2 hg2
  replace q7 := hT2.box q7 hp2 hg2
  replace q8 := hT2.box q8 hp2 hg2
  replace q9 := hT2.box q9 hp2 hg2
  have HV := u1_lift hT2 [fl] (by simp; omega) (by simp; omega)
  simp only [List.map_cons, List.map_nil, List.length_cons, List.length_nil, Nat.zero_add, List.flatMap_cons, List.flatMap_nil, List.append_nil] at HV
  replace HV := hid HV
  go_wp2_with fail
  refine HV.out.mono ?_
  rintro e w9 ⟨rfl, hT3⟩
  clear HV
  obtain ⟨q, q0, q1, q2, q3, q4, q5, q6, q7, q8, q9⟩ := Q.out
  replace q := hT3.box q hp1 hg1
  replace q0 := hT3.box q0 hp2 hg2
  replace q1 := hT3.box q1 hp2 hg2
  replace q2 := hT3.box q2 hp2 hg2
  replace q3 := hT3.box q3 hp2 hg2
  replace q4 := hT3.box q4 hp2 hg2
  replace q5 := hT3.box q5 hp2 hg2
  replace q6 := hT3.box q6 hp2 hg2
  replace q7 := hT3.box q7 hp2 hg2
  replace q8 := hT3.box q8 hp2 hg2
  replace q9 := hT3.box q9 hp2 hg2
  have HV := tx_lift hT3 [nm, tx] (by simp; omega) (by simp [e1]; omega)
  simp only [List.map_cons, List.map_nil, List.length_cons, List.length_nil, Nat.zero_add, List.flatMap_cons, List.flatMap_nil, List.append_nil, Nat.reduceAdd] at HV
  replace HV := hid HV
  go_wp2_with fail
  refine HV.out.mono ?_
  rintro e w9 ⟨rfl, hT4⟩
  clear HV
  obtain ⟨q, q0, q1, q2, q3, q4, q5, q6, q7, q8, q9⟩ := Q.out
  replace q := hT4.box q hp1 hg1
  replace q0 := hT4.box q0 hp2 hg2
  replace q1 := hT4.box q1 hp2 hg2
  replace q2 := hT4.box q2 hp2 hg2
  replace q3 := hT4.box q3 hp2 hg2
  replace q4 := hT4.box q4 hp2 hg2
  replace q5 := hT4.box q5 hp2 hg2
  replace q6 := hT4.box q6 hp2 hg2
  replace q7 := hT4.box q7 hp2 hg2
  replace q8 := hT4.box q8 hp2 hg2
  replace q9 := hT4.box q9 hp2 hg2
  have HV := u1_lift hT4 [st, lo] (by simp; omega) (by simp [e1, eT]; omega)
  simp only [List.map_cons, List.map_nil, List.length_cons, List.length_nil, Nat.zero_add, List.flatMap_cons, List.flatMap_nil, List.append_nil, Nat.reduceAdd] at HV
  replace HV := hid HV
  go_wp2_with fail
  refine HV.out.mono ?_
  rintro e w9 ⟨rfl, hT5⟩
  clear HV
  obtain ⟨q, q0, q1, q2, q3, q4, q5, q6, q7, q8, q9⟩ := Q.out
  replace q := hT5.box q hp1 hg1
  replace q0 := hT5.box q0 hp2 hg2
  replace q1 := hT5.box q1 hp2 hg2
  replace q2 := hT5.box q2 hp2 hg2
  replace q3 := hT5.box q3 hp2 hg2
  replace q4 := hT5.box q4 hp2 hg2
  replace q5 := hT5.box q5 hp2 hg2
  replace q6 := hT5.box q6 hp2 hg2
  replace q7 := hT5.box q7 hp2 hg2
  replace q8 := hT5.box q8 hp2 hg2
  replace q9 := hT5.box q9 hp2 hg2
  have HV := u2_lift hT5 [(code.length : Int)] (by simp; omega) (by simp [e1, eT]; omega)
  simp only [List.map_cons, List.map_nil, List.length_cons, List.length_nil, Nat.zero_add, List.flatMap_cons, List.flatMap_nil, List.append_nil] at HV
  replace HV := hid HV
  go_wp2_with fail
  refine HV.out.mono ?_
  rintro e w9 ⟨rfl, hT6⟩
  clear HV
  obtain ⟨q, q0, q1, q2, q3, q4, q5, q6, q7, q8, q9⟩ := Q.out
  replace q := hT6.box q hp1 hg1
  replace q0 := hT6.box q0 hp2 hg2
  replace q1 := hT6.box q1 hp2 hg2
  replace q2 := hT6.box q2 hp2 hg2
  replace q3 := hT6.box q3 hp2 hg2
  replace q4 := hT6.box q4 hp2 hg2
  replace q5 := hT6.box q5 hp2 hg2
  replace q6 := hT6.box q6 hp2 hg2
  replace q7 := hT6.box q7 hp2 hg2
  replace q8 := hT6.box q8 hp2 hg2
  replace q9 := hT6.box q9 hp2 hg2
  have RC2 := RC.out.rs.only (((((Only.refl [p, g] w).alloc (.cells #[.pointer (some ⟨p, 0, none⟩)] 76)).alloc (.cells #[.int .i64 fl, .string (str nm), .slice po ps.length pc, .bool vo, .int .i64 td, .string (str tn), .int .i64 st, .int .i64 lo, .slice co code.length cc, .slice ho hs.length hc] 41)).trans hT6.only (by simp))) (fun hn => by have := hPB _ (RC.out.ok hn); have := hB.out; simp; omega)
  have HV := bytes_lift hT6 (cap := cc) RC2 RC.out.no (by simp [e1, e2, eT, toBE_length]; omega)
  replace HV := hid HV
  go_wp2_with fail
  refine HV.out.mono ?_
  rintro e w9 ⟨rfl, hT7⟩
  clear HV
  obtain ⟨q, q0, q1, q2, q3, q4, q5, q6, q7, q8, q9⟩ := Q.out
  replace q := hT7.box q hp1 hg1
  replace q0 := hT7.box q0 hp2 hg2
  replace q1 := hT7.box q1 hp2 hg2
  replace q2 := hT7.box q2 hp2 hg2
  replace q3 := hT7.box q3 hp2 hg2
  replace q4 := hT7.box q4 hp2 hg2
  replace q5 := hT7.box q5 hp2 hg2
  replace q6 := hT7.box q6 hp2 hg2
  replace q7 := hT7.box q7 hp2 hg2
  replace q8 := hT7.box q8 hp2 hg2
  replace q9 := hT7.box q9 hp2 hg2
  have HV := u1_lift hT7 [(hs.length : Int)] (by simp; omega) (by simp [e1, e2, eT, toBE_length]; omega)
  simp only [List.map_cons, List.map_nil, List.length_cons, List.length_nil, Nat.zero_add, List.flatMap_cons, List.flatMap_nil, List.append_nil] at HV
  replace HV := hid HV
  go_wp2_with fail
  refine HV.out.mono ?_
  rintro e w9 ⟨rfl, hT8⟩
  clear HV
  obtain ⟨q, q0, q1, q2, q3, q4, q5, q6, q7, q8, q9⟩ := Q.out
  replace q := hT8.box q hp1 hg1
  replace q0 := hT8.box q0 hp2 hg2
  replace q1 := hT8.box q1 hp2 hg2
  replace q2 := hT8.box q2 hp2 hg2
  replace q3 := hT8.box q3 hp2 hg2
  replace q4 := hT8.box q4 hp2 hg2
  replace q5 := hT8.box q5 hp2 hg2
  replace q6 := hT8.box q6 hp2 hg2
  replace q7 := hT8.box q7 hp2 hg2
  replace q8 := hT8.box q8 hp2 hg2
  replace q9 := hT8.box q9 hp2 hg2
  go_wp2_with fail
  obtain ⟨OUT, hOUT⟩ : ∃ O, O = out ++ e1 fl ++ (eT nm ++ eT tx) ++ (e1 st ++ e1 lo) ++ e2 (code.length : Int) ++ code ++ e1 (hs.length : Int) := ⟨_, rfl⟩
  rw [← hOUT] at hT8
  have hlen : OUT.length ≤ out.length + 5000 := by rw [hOUT]; simp [e1, e2, eT, toBE_length]; omega
  replace hOUT := hid hOUT
  have hst : Hid (WTo ((w.alloc (.cells #[.pointer (some ⟨p, 0, none⟩)] 76)).alloc (.cells #[.int .i64 fl, .string (str nm), .slice po ps.length pc, .bool vo, .int .i64 td, .string (str tn), .int .i64 st, .int .i64 lo, .slice co code.length cc, .slice ho hs.length hc] 41)) B p g w9 (OUT ++ (hs.take 0).flatMap encHd, 0)) := by simpa [Hid] using hT8
  clear q q0 q1 q2 q3 q4 q5 q6 q7 q8 q9 hT2 hT3 hT4 hT5 hT6 hT7 hT8 RC RC2
  go_loopw [60] (fun i wr => ∃ (j : Nat), j ≤ hs.length ∧ i = .int .i64 (j : Int) ∧ Hid (WTo ((w.alloc (.cells #[.pointer (some ⟨p, 0, none⟩)] 76)).alloc (.cells #[.int .i64 fl, .string (str nm), .slice po ps.length pc, .bool vo, .int .i64 td, .string (str tn), .int .i64 st, .int .i64 lo, .slice co code.length cc, .slice ho hs.length hc] 41)) B p g wr (OUT ++ (hs.take j).flatMap encHd, 0))) (fun i _ => hs.length - (intOf i).toNat)
  case atStart => exact ⟨0, by omega, rfl, hst⟩
  case round =>
   obtain ⟨j, hj, rfl, hT⟩ := hrel
   clear hst
   by_cases hlt : j < hs.length
   ·have g4 : ((j : Int) < (hs.length : Int)) := by omega
    have RH2 := RH.out.rs.only (((((Only.refl [p, g] w).alloc (.cells #[.pointer (some ⟨p, 0, none⟩)] 76)).alloc (.cells #[.int .i64 fl, .string (str nm), .slice po ps.length pc, .bool vo, .int .i64 td, .string (str tn), .int .i64 st, .int .i64 lo, .slice co code.length cc, .slice ho hs.length hc] 41)).trans hT.out.only (by simp))) (fun hn => by have := hPB _ (RH.out.ok hn); have := hB.out; simp; omega)
    obtain ⟨off, rfl, y0, y1, y2, y3⟩ := hd_cells RH2 hlt
    have hy := hHd.out hs[j] (List.getElem_mem hlt)
    have hfl : ((hs.take j).flatMap encHd).length ≤ 2000 := by
     have := flat_le encHd 39 (hs.take j) fun x hx => encHd_len (hHd.out x (List.mem_of_mem_take hx))
     have h2 : (hs.take j).length ≤ 32 := by rw [List.length_take]; omega
     omega
    have hsucc := hid (flat_take_succ encHd hs j hlt)
    obtain ⟨q, _⟩ := Q.out
    replace q := hT.out.box q hp1 hg1
    clear RH2
    generalize hs[j] = y at *
    generalize (hs.take j).flatMap encHd = fl2 at *
    obtain ⟨ya, yb, yc, ys⟩ := y
    obtain ⟨ha, hb, hc2, hn⟩ := hy
    simp only at ha hb hc2 hn y0 y1 y2 y3
    have qa := cell_alloc (.cells #[.int .i64 ya, .int .i64 yb, .int .i64 yc, .string (str ys)] 46) q
    obtain ⟨g', hT2, hgl, hpl, hback⟩ := hT.out.hereA (.cells #[.int .i64 ya, .int .i64 yb, .int .i64 yc, .string (str ys)] 46)
    have z0 : (wr.alloc (.cells #[.int .i64 ya, .int .i64 yb, .int .i64 yc, .string (str ys)] 46)).cell? ⟨wr.heap.size, 3, none⟩ = some (.string (str ys)) := by rw [cell_new]; rfl
    have HU := u2_lift hT2 [ya, yb, yc] (by simp; omega) (by simp; omega)
    simp only [World.size_alloc] at HU
    simp only [List.map_cons, List.map_nil, List.length_cons, List.length_nil, Nat.zero_add, List.flatMap_cons, List.flatMap_nil, List.append_nil, Nat.reduceAdd] at HU
    replace HU := hid HU
    go_wp2_with fail
    refine HU.out.mono ?_
    rintro e w2 ⟨rfl, hT3⟩
    clear HU
    have z1 := hT3.box z0 (by omega) (by omega)
    obtain ⟨q', _⟩ := Q.out
    replace q' := (hback _ _ hT3).box q' hp1 hg1
    have HV := tx_lift hT3 [ys] (by simp; omega) (by simp [e2, toBE_length]; omega)
    simp only [List.map_cons, List.map_nil, List.length_cons, List.length_nil, Nat.zero_add, List.flatMap_cons, List.flatMap_nil, List.append_nil] at HV
    replace HV := hid HV
    go_wp2_with fail
    refine HV.out.mono ?_
    rintro e w3 ⟨rfl, hT4⟩
    clear HV
    go_wp2_with fail
    refine ⟨⟨j + 1, by omega, by go_num, ?_⟩, by simp [intOf]; omega⟩
    have := hback _ _ hT4
    rw [hsucc.out]
    simpa [encHd, Hid] using this
   ·have g4 : ¬ ((j : Int) < (hs.length : Int)) := by omega
    go_wp2_with fail
    go_end0
    refine ⟨rfl, ?_⟩
    have := wto_trans hO.out (.inl rfl) hT.out
    rw [List.take_of_length_le (by omega), hOUT.out] at this
    simpa using this

theorem encFd_len {f : Fd} (g : FdGood f) : (encFd f).length ≤ 300 := by
 have := g.name
 have := tyText_len g.type
 simp [encFd, e1, eT]
 omega

theorem encMe_len {m : Me} (g : MeGood m) : (encMe m).length ≤ 3000 := by
 have h1 := g.name
 have h2 := g.text
 have h3 := g.code
 have h4 := flat_le encHd 39 m.hands fun x hx => encHd_len (g.hands x hx)
 have h5 := g.many
 unfold encMe
 split
 ·simp [e1, eT]
  omega
 ·simp only [List.length_append, e1, e2, eT, toBE_length, List.length_cons, List.length_nil]
  omega

theorem encEn_len {e : En} (g : EnGood e) : (encEn e).length ≤ 300 := by
 have h1 := g.text
 unfold encEn
 split
 ·simp [e1, eT]
  omega
 ·split
  ·simp [e1, e8, toBE_length]
  ·split
   ·simp [e1, e2, toBE_length]
   ·simp [e1, e2, toBE_length]

theorem encCl_len {c : Cl} (g : ClGood c) : (encCl c).length ≤ 300000 := by
 have h1 := g.name
 have h2 := g.super
 have h3 := flat_le eT 40 c.faces fun x hx => by have := g.faces x hx; simp [eT]; omega
 have h4 := flat_le encFd 300 c.fields fun x hx => encFd_len (g.fields x hx)
 have h5 := flat_le encMe 3000 c.methods fun x hx => encMe_len (g.methods x hx)
 have h6 := g.manyF
 have h7 := g.manyD
 have h8 := g.manyM
 unfold encCl
 simp only [List.length_append, e1, eT, List.length_cons, List.length_nil] at h3 h4 h5 ⊢
 omega

set_option maxHeartbeats 4000000 in
theorem wcl_any {w : World} {B p g : Nat} {out : List UInt8} (h : WrE w B p g (out, 0)) (c : Cl) (hg : ClGood c) (hF : ClFit c) {P : Nat → Prop} {vf vd vm : Value} (hC : ClAt (SlR w P) vf vd vm c) (hPB : ∀ d, P d → d < B) (hsz : out.length ≤ 50000000000000) :
  Calls Tryz.prog 62 #[tgV p, clV vf vd vm c] w fun r w' => r = .returned (.tuple #[]) ∧ WTo w B p g w' (out ++ encCl c, 0) := by
 obtain ⟨hc1, hc2, mcs, hc3, hME⟩ := hC
 obtain ⟨fo, fc, fd, rfl, hA0⟩ := hc1
 obtain ⟨dO, dc, dd, rfl, hF0⟩ := hc2
 obtain ⟨mo, mc, md, rfl, hM0⟩ := hc3
 have hmeF := hF.methods
 clear hF
 obtain ⟨fl, nm, su, fa, fi, me⟩ := c
 obtain ⟨hfl, hnm, hsu, hmf, hmd, hmm, hfaG, hfiG, hmeG⟩ := hg
 simp only at hfl hnm hsu hmf hmd hmm hfaG hfiG hmeG hmeF hA0 hF0 hM0 hME
 unfold clV encCl
 simp only
 have hl := h.lt
 have hT1 := WTo.refl (h.only (((Only.refl [] w).alloc (.cells #[.pointer (some ⟨p, 0, none⟩)] 76)).alloc (.cells #[.int .i64 fl, .string (str nm), .string (str su), .slice fo fa.length fc, .slice dO fi.length dc, .slice mo me.length mc] 28)) (by simp) (by simp))
 have hO := hid (((Only.refl [p, g] w).alloc (.cells #[.pointer (some ⟨p, 0, none⟩)] 76)).alloc (.cells #[.int .i64 fl, .string (str nm), .string (str su), .slice fo fa.length fc, .slice dO fi.length dc, .slice mo me.length mc] 28))
 have q := box1 w #[.pointer (some ⟨p, 0, none⟩)] 76 (.cells #[.int .i64 fl, .string (str nm), .string (str su), .slice fo fa.length fc, .slice dO fi.length dc, .slice mo me.length mc] 28) (i := 0) rfl
 have q0 := box2 w #[.int .i64 fl, .string (str nm), .string (str su), .slice fo fa.length fc, .slice dO fi.length dc, .slice mo me.length mc] 28 (.cells #[.pointer (some ⟨p, 0, none⟩)] 76) (i := 0) rfl
 have q1 := box2 w #[.int .i64 fl, .string (str nm), .string (str su), .slice fo fa.length fc, .slice dO fi.length dc, .slice mo me.length mc] 28 (.cells #[.pointer (some ⟨p, 0, none⟩)] 76) (i := 1) rfl
 have q2 := box2 w #[.int .i64 fl, .string (str nm), .string (str su), .slice fo fa.length fc, .slice dO fi.length dc, .slice mo me.length mc] 28 (.cells #[.pointer (some ⟨p, 0, none⟩)] 76) (i := 2) rfl
 have q3 := box2 w #[.int .i64 fl, .string (str nm), .string (str su), .slice fo fa.length fc, .slice dO fi.length dc, .slice mo me.length mc] 28 (.cells #[.pointer (some ⟨p, 0, none⟩)] 76) (i := 3) rfl
 have q4 := box2 w #[.int .i64 fl, .string (str nm), .string (str su), .slice fo fa.length fc, .slice dO fi.length dc, .slice mo me.length mc] 28 (.cells #[.pointer (some ⟨p, 0, none⟩)] 76) (i := 4) rfl
 have q5 := box2 w #[.int .i64 fl, .string (str nm), .string (str su), .slice fo fa.length fc, .slice dO fi.length dc, .slice mo me.length mc] 28 (.cells #[.pointer (some ⟨p, 0, none⟩)] 76) (i := 5) rfl
 have Q := hid (And.intro q ((And.intro q0 (And.intro q1 (And.intro q2 (And.intro q3 (And.intro q4 q5)))))))
 clear q q0 q1 q2 q3 q4 q5
 have hp1 : w.heap.size ≠ p := by omega
 have hg1 : w.heap.size ≠ g := by omega
 have hp2 : w.heap.size + 1 ≠ p := by omega
 have hg2 : w.heap.size + 1 ≠ g := by omega
 unfold tgV
 have hB := hid hl
 have RA := hid hA0
 have RF := hid hF0
 have RM := hid hM0
 have RME := hid hME
 have hGa := hid hfaG
 have hGf := hid hfiG
 have hGm := hid hmeG
 have hFm := hid hmeF
 clear hA0 hF0 hM0 hME hfaG hfiG hmeG hmeF
 have hFlen : (fi.flatMap encFd).length ≤ 19300 := by
  have := flat_le encFd 300 fi fun x hx => encFd_len (hGf.out x hx)
  omega
 have hAlen : (fa.flatMap eT).length ≤ 700 := by
  have := flat_le eT 40 fa fun x hx => by have := hGa.out x hx; simp [eT]; omega
  omega
 have HU := u1_lift hT1 [fl] (by simp; omega) (by simp; omega)
 simp only [World.size_alloc] at HU
 simp only [List.map_cons, List.map_nil, List.length_cons, List.length_nil, Nat.zero_add, List.flatMap_cons, List.flatMap_nil, List.append_nil] at HU
 replace HU := hid HU
 go_enter Tryz.func62, Tryz.ntmps62
 obtain ⟨q, q0, q1, q2, q3, q4, q5⟩ := Q.out
 go_wp2_with fail
 refine HU.out.mono ?_
 rintro e w2 ⟨rfl, hT2⟩
 clear HU
 obtain ⟨q, q0, q1, q2, q3, q4, q5⟩ := Q.out
 replace q := hT2.box q hp1 hg1
 replace q0 := hT2.box q0 hp2 hg2
 replace q1 := hT2.box q1 hp2 hg2
 replace q2 := hT2.box q2 hp2 hg2
 replace q3 := hT2.box q3 hp2 hg2
 replace q4 := hT2.box q4 hp2 hg2
 replace q5 := hT2.box q5 hp2 hg2
 have HV := tx_lift hT2 [nm, su] (by simp; omega) (by simp [e1]; omega)
 simp only [List.map_cons, List.map_nil, List.length_cons, List.length_nil, Nat.zero_add, List.flatMap_cons, List.flatMap_nil, List.append_nil, Nat.reduceAdd] at HV
 replace HV := hid HV
 go_wp2_with fail
 refine HV.out.mono ?_
 rintro e w9 ⟨rfl, hT3⟩
 clear HV
 obtain ⟨q, q0, q1, q2, q3, q4, q5⟩ := Q.out
 replace q := hT3.box q hp1 hg1
 replace q0 := hT3.box q0 hp2 hg2
 replace q1 := hT3.box q1 hp2 hg2
 replace q2 := hT3.box q2 hp2 hg2
 replace q3 := hT3.box q3 hp2 hg2
 replace q4 := hT3.box q4 hp2 hg2
 replace q5 := hT3.box q5 hp2 hg2
 have HV := u1_lift hT3 [(fa.length : Int)] (by simp; omega) (by simp [e1, eT]; omega)
 simp only [List.map_cons, List.map_nil, List.length_cons, List.length_nil, Nat.zero_add, List.flatMap_cons, List.flatMap_nil, List.append_nil] at HV
 replace HV := hid HV
 go_wp2_with fail
 refine HV.out.mono ?_
 rintro e w9 ⟨rfl, hT4⟩
 clear HV
 obtain ⟨q, q0, q1, q2, q3, q4, q5⟩ := Q.out
 replace q := hT4.box q hp1 hg1
 replace q0 := hT4.box q0 hp2 hg2
 replace q1 := hT4.box q1 hp2 hg2
 replace q2 := hT4.box q2 hp2 hg2
 replace q3 := hT4.box q3 hp2 hg2
 replace q4 := hT4.box q4 hp2 hg2
 replace q5 := hT4.box q5 hp2 hg2
 have RA2 := RA.out.rs.only (((((Only.refl [p, g] w).alloc (.cells #[.pointer (some ⟨p, 0, none⟩)] 76)).alloc (.cells #[.int .i64 fl, .string (str nm), .string (str su), .slice fo fa.length fc, .slice dO fi.length dc, .slice mo me.length mc] 28)).trans hT4.only (by simp))) (fun hn => by have := hPB _ (RA.out.ok hn); have := hB.out; simp; omega)
 have HV := txs_lift hT4 (cap := fc) fa RA2 (fun hn => hPB _ (RA.out.ok hn)) (fun s hs => by have := hGa.out s hs; omega) (by simp [e1, eT]; omega)
 replace HV := hid HV
 go_wp2_with fail
 refine HV.out.mono ?_
 rintro e w9 ⟨rfl, hT5⟩
 clear HV
 obtain ⟨q, q0, q1, q2, q3, q4, q5⟩ := Q.out
 replace q := hT5.box q hp1 hg1
 replace q0 := hT5.box q0 hp2 hg2
 replace q1 := hT5.box q1 hp2 hg2
 replace q2 := hT5.box q2 hp2 hg2
 replace q3 := hT5.box q3 hp2 hg2
 replace q4 := hT5.box q4 hp2 hg2
 replace q5 := hT5.box q5 hp2 hg2
 have HV := u1_lift hT5 [(fi.length : Int)] (by simp; omega) (by simp [e1, eT] at hAlen ⊢; omega)
 simp only [List.map_cons, List.map_nil, List.length_cons, List.length_nil, Nat.zero_add, List.flatMap_cons, List.flatMap_nil, List.append_nil] at HV
 replace HV := hid HV
 go_wp2_with fail
 refine HV.out.mono ?_
 rintro e w9 ⟨rfl, hT6⟩
 clear HV
 obtain ⟨q, q0, q1, q2, q3, q4, q5⟩ := Q.out
 replace q := hT6.box q hp1 hg1
 replace q0 := hT6.box q0 hp2 hg2
 replace q1 := hT6.box q1 hp2 hg2
 replace q2 := hT6.box q2 hp2 hg2
 replace q3 := hT6.box q3 hp2 hg2
 replace q4 := hT6.box q4 hp2 hg2
 replace q5 := hT6.box q5 hp2 hg2
 go_wp2_with fail
 obtain ⟨OUT, hOUT⟩ : ∃ O, O = out ++ e1 fl ++ (eT nm ++ eT su) ++ e1 (fa.length : Int) ++ fa.flatMap eT ++ e1 (fi.length : Int) := ⟨_, rfl⟩
 rw [← hOUT] at hT6
 have hlen : OUT.length ≤ out.length + 5000 := by rw [hOUT]; simp [e1, eT] at hAlen ⊢; omega
 replace hOUT := hid hOUT
 have hst : Hid (WTo ((w.alloc (.cells #[.pointer (some ⟨p, 0, none⟩)] 76)).alloc (.cells #[.int .i64 fl, .string (str nm), .string (str su), .slice fo fa.length fc, .slice dO fi.length dc, .slice mo me.length mc] 28)) B p g w9 (OUT ++ (fi.take 0).flatMap encFd, 0)) := by simpa [Hid] using hT6
 clear q q0 q1 q2 q3 q4 q5 hT2 hT3 hT4 hT5 hT6 RA RA2 hAlen
 go_loopw [44] (fun i wr => ∃ (j : Nat), j ≤ fi.length ∧ i = .int .i64 (j : Int) ∧ Hid (WTo ((w.alloc (.cells #[.pointer (some ⟨p, 0, none⟩)] 76)).alloc (.cells #[.int .i64 fl, .string (str nm), .string (str su), .slice fo fa.length fc, .slice dO fi.length dc, .slice mo me.length mc] 28)) B p g wr (OUT ++ (fi.take j).flatMap encFd, 0))) (fun i _ => fi.length - (intOf i).toNat)
 case atStart => exact ⟨0, by omega, rfl, hst⟩
 case round =>
  obtain ⟨j, hj, rfl, hT⟩ := hrel
  clear hst
  by_cases hlt : j < fi.length
  ·have g4 : ((j : Int) < (fi.length : Int)) := by omega
   have hOw := ((((Only.refl [p, g] w).alloc (.cells #[.pointer (some ⟨p, 0, none⟩)] 76)).alloc (.cells #[.int .i64 fl, .string (str nm), .string (str su), .slice fo fa.length fc, .slice dO fi.length dc, .slice mo me.length mc] 28)).trans hT.out.only (by simp))
   have RH2 := RF.out.rs.only hOw (fun hn => by have := hPB _ (RF.out.ok hn); have := hB.out; simp; omega)
   obtain ⟨off, rfl, c0, c1, c2, c3⟩ := fd_cells RH2 hlt
   have hy := hGf.out fi[j] (List.getElem_mem hlt)
   have hfl : ((fi.take j).flatMap encFd).length ≤ 20000 := by
    have := flat_le encFd 300 (fi.take j) fun x hx => encFd_len (hGf.out x (List.mem_of_mem_take hx))
    have h2 : (fi.take j).length ≤ 64 := by rw [List.length_take]; omega
    omega
   have hsucc := hid (flat_take_succ encFd fi j hlt)
   obtain ⟨q, _⟩ := Q.out
   replace q := hT.out.box q hp1 hg1
   clear RH2
   generalize fi[j] = y at *
   generalize (fi.take j).flatMap encFd = fl2 at *
   have qa := cell_alloc (.cells #[.int .i64 y.1, .string (str y.2.1), .int .i64 y.2.2.1, .string (str y.2.2.2)] 44) q
   obtain ⟨g', hT2, hgl, hpl, hback⟩ := hT.out.hereA (.cells #[.int .i64 y.1, .string (str y.2.1), .int .i64 y.2.2.1, .string (str y.2.2.2)] 44)
   obtain ⟨gz, hW2, hz2, hz3⟩ := hT2
   have HV := (wfield_any hW2 y hy (by simp; omega)).mono fun _ _ h => And.intro h.1 (wto_trans hz3 hz2 h.2)
   unfold tgV fdV at HV
   clear hOw
   replace HV := hid HV
   go_wp2_with fail
   refine HV.out.mono ?_
   rintro e w3 ⟨rfl, hT4⟩
   clear HV
   go_wp2_with fail
   refine ⟨⟨j + 1, by omega, by go_num, ?_⟩, by simp [intOf]; omega⟩
   have := hback _ _ hT4
   rw [hsucc.out]
   simpa [Hid] using this
  ·have g4 : ¬ ((j : Int) < (fi.length : Int)) := by omega
   rw [List.take_of_length_le (by omega)] at hT
   have hT7 := hT.out
   obtain ⟨q, q0, q1, q2, q3, q4, q5⟩ := Q.out
   replace q := hT7.box q hp1 hg1
   replace q0 := hT7.box q0 hp2 hg2
   replace q1 := hT7.box q1 hp2 hg2
   replace q2 := hT7.box q2 hp2 hg2
   replace q3 := hT7.box q3 hp2 hg2
   replace q4 := hT7.box q4 hp2 hg2
   replace q5 := hT7.box q5 hp2 hg2
   clear hT
   have HV := u1_lift hT7 [(me.length : Int)] (by simp; omega) (by rw [List.length_append]; simp only [List.length_cons, List.length_nil]; omega)
   simp only [List.map_cons, List.map_nil, List.length_cons, List.length_nil, Nat.zero_add, List.flatMap_cons, List.flatMap_nil, List.append_nil] at HV
   replace HV := hid HV
   go_wp2_with fail
   refine HV.out.mono ?_
   rintro e w10 ⟨rfl, hT8⟩
   clear HV
   obtain ⟨q, q0, q1, q2, q3, q4, q5⟩ := Q.out
   replace q := hT8.box q hp1 hg1
   replace q0 := hT8.box q0 hp2 hg2
   replace q1 := hT8.box q1 hp2 hg2
   replace q2 := hT8.box q2 hp2 hg2
   replace q3 := hT8.box q3 hp2 hg2
   replace q4 := hT8.box q4 hp2 hg2
   replace q5 := hT8.box q5 hp2 hg2
   go_wp2_with fail
   obtain ⟨OUT2, hOUT2⟩ : ∃ O, O = OUT ++ fi.flatMap encFd ++ e1 (me.length : Int) := ⟨_, rfl⟩
   rw [← hOUT2] at hT8
   have hlen2 : OUT2.length ≤ OUT.length + 20000 := by rw [hOUT2, List.length_append, List.length_append]; simp only [e1, List.length_cons, List.length_nil]; omega
   replace hOUT2 := hid hOUT2
   have hst : Hid (WTo ((w.alloc (.cells #[.pointer (some ⟨p, 0, none⟩)] 76)).alloc (.cells #[.int .i64 fl, .string (str nm), .string (str su), .slice fo fa.length fc, .slice dO fi.length dc, .slice mo me.length mc] 28)) B p g w10 (OUT2 ++ (me.take 0).flatMap encMe, 0)) := by simpa [Hid] using hT8
   clear q q0 q1 q2 q3 q4 q5 hT7 hT8
   go_loopw [62] (fun i wr => ∃ (j : Nat), j ≤ me.length ∧ i = .int .i64 (j : Int) ∧ Hid (WTo ((w.alloc (.cells #[.pointer (some ⟨p, 0, none⟩)] 76)).alloc (.cells #[.int .i64 fl, .string (str nm), .string (str su), .slice fo fa.length fc, .slice dO fi.length dc, .slice mo me.length mc] 28)) B p g wr (OUT2 ++ (me.take j).flatMap encMe, 0))) (fun i _ => me.length - (intOf i).toNat)
   case atStart => exact ⟨0, by omega, rfl, hst⟩
   case round =>
    obtain ⟨j, hj, rfl, hT⟩ := hrel
    clear hst
    by_cases hlt : j < me.length
    ·have g4 : ((j : Int) < (me.length : Int)) := by omega
     have hOw := ((((Only.refl [p, g] w).alloc (.cells #[.pointer (some ⟨p, 0, none⟩)] 76)).alloc (.cells #[.int .i64 fl, .string (str nm), .string (str su), .slice fo fa.length fc, .slice dO fi.length dc, .slice mo me.length mc] 28)).trans hT.out.only (by simp))
     have RH2 := RM.out.rs.only hOw (fun hn => by have := hPB _ (RM.out.ok hn); have := hB.out; simp; omega)
     obtain ⟨off, vp, vc, vh, rfl, hMA, c0, c1, c2, c3, c4, c5, c6, c7, c8, c9⟩ := me_cells RH2 RME.out hlt
     obtain ⟨po, pc, _, rfl, _⟩ := hMA.params
     obtain ⟨co, cc, _, rfl, _⟩ := hMA.code
     obtain ⟨ho, hc, _, rfl, _⟩ := hMA.hands
     have hyF := hFm.out me[j] (List.getElem_mem hlt)
     have hy := hGm.out me[j] (List.getElem_mem hlt)
     have hfl : ((me.take j).flatMap encMe).length ≤ 200000 := by
      have := flat_le encMe 3000 (me.take j) fun x hx => encMe_len (hGm.out x (List.mem_of_mem_take hx))
      have h2 : (me.take j).length ≤ 64 := by rw [List.length_take]; omega
      omega
     have hsucc := hid (flat_take_succ encMe me j hlt)
     obtain ⟨q, _⟩ := Q.out
     replace q := hT.out.box q hp1 hg1
     clear RH2
     generalize me[j] = y at *
     generalize (me.take j).flatMap encMe = fl2 at *
     have qa := cell_alloc (.cells #[.int .i64 y.flags, .string (str y.name), .slice po y.sig.1.length pc, .bool y.sig.2.1, .int .i64 y.sig.2.2.1, .string (str y.sig.2.2.2), .int .i64 y.stack, .int .i64 y.locals, .slice co y.code.length cc, .slice ho y.hands.length hc] 41) q
     obtain ⟨g', hT2, hgl, hpl, hback⟩ := hT.out.hereA (.cells #[.int .i64 y.flags, .string (str y.name), .slice po y.sig.1.length pc, .bool y.sig.2.1, .int .i64 y.sig.2.2.1, .string (str y.sig.2.2.2), .int .i64 y.stack, .int .i64 y.locals, .slice co y.code.length cc, .slice ho y.hands.length hc] 41)
     obtain ⟨gz, hW2, hz2, hz3⟩ := hT2
     have hMA2 := hMA.only (hOw.alloc (.cells #[.int .i64 y.flags, .string (str y.name), .slice po y.sig.1.length pc, .bool y.sig.2.1, .int .i64 y.sig.2.2.1, .string (str y.sig.2.2.2), .int .i64 y.stack, .int .i64 y.locals, .slice co y.code.length cc, .slice ho y.hands.length hc] 41)) (fun d hd => by have := hPB d hd; have := hB.out; simp; omega)
     have HV := (wmeth_any hW2 y hy hyF hMA2 hPB (by simp; omega)).mono fun _ _ h => And.intro h.1 (wto_trans hz3 hz2 h.2)
     unfold tgV meV at HV
     clear hMA hMA2 hOw
     replace HV := hid HV
     go_wp2_with fail
     refine HV.out.mono ?_
     rintro e w3 ⟨rfl, hT4⟩
     clear HV
     go_wp2_with fail
     refine ⟨⟨j + 1, by omega, by go_num, ?_⟩, by simp [intOf]; omega⟩
     have := hback _ _ hT4
     rw [hsucc.out]
     simpa [Hid] using this
    ·have g4 : ¬ ((j : Int) < (me.length : Int)) := by omega
     go_wp2_with fail
     go_end0
     refine ⟨rfl, ?_⟩
     have := wto_trans hO.out (.inl rfl) hT.out
     rw [List.take_of_length_le (by omega), hOUT2.out, hOUT.out] at this
     simpa using this

theorem rs_fresh (w : World) (cs : Array Value) (t : TypeId) (fr : Nat × Nat) : RS (w.alloc (.cells cs t fr)) (some ⟨w.heap.size, 0, none⟩) cs.toList w.heap.size :=
 .inr ⟨0, rfl, fun j u hj => by
  rw [Nat.zero_add, World.cell?_alloc_mark]
  simpa using hj⟩

set_option maxHeartbeats 4000000 in
theorem wmod_any {w : World} {B p g : Nat} {out : List UInt8} (h : WrE w B p g (out, 0)) (m : Mo) (hg : MoGood m) (hF : MoFit m) {P : Nat → Prop} {vp vc : Value} (hM : MoAt (SlR w P) vp vc m) (hPB : ∀ d, P d → d < B) (hsz : out.length ≤ 1000000000000) :
  Calls Tryz.prog 25 #[tgV p, .agg #[vp, vc]] w fun r w' => r = .returned (.tuple #[]) ∧ WTo w B p g w' (out ++ encM m, 0) := by
 obtain ⟨hp0, ccs, hc0, hCE⟩ := hM
 obtain ⟨po, pc, pd, rfl, hP0⟩ := hp0
 obtain ⟨co, cc, cd, rfl, hC0⟩ := hc0
 have hclF := hF.classes
 clear hF
 obtain ⟨pl, cl⟩ := m
 obtain ⟨hmp, hmc, hplG, hclG⟩ := hg
 simp only at hmp hmc hplG hclG hclF hP0 hC0 hCE
 unfold encM
 simp only
 have hl := h.lt
 have hT1 := WTo.refl (h.only (((Only.refl [] w).alloc (.cells #[.pointer (some ⟨p, 0, none⟩)] 76)).alloc (.cells #[.slice po pl.length pc, .slice co cl.length cc] 32)) (by simp) (by simp))
 have hO := hid (((Only.refl [p, g] w).alloc (.cells #[.pointer (some ⟨p, 0, none⟩)] 76)).alloc (.cells #[.slice po pl.length pc, .slice co cl.length cc] 32))
 have q := box1 w #[.pointer (some ⟨p, 0, none⟩)] 76 (.cells #[.slice po pl.length pc, .slice co cl.length cc] 32) (i := 0) rfl
 have q0 := box2 w #[.slice po pl.length pc, .slice co cl.length cc] 32 (.cells #[.pointer (some ⟨p, 0, none⟩)] 76) (i := 0) rfl
 have q1 := box2 w #[.slice po pl.length pc, .slice co cl.length cc] 32 (.cells #[.pointer (some ⟨p, 0, none⟩)] 76) (i := 1) rfl
 have Q := hid (And.intro q ((And.intro q0 q1)))
 clear q q0 q1
 have hp1 : w.heap.size ≠ p := by omega
 have hg1 : w.heap.size ≠ g := by omega
 have hp2 : w.heap.size + 1 ≠ p := by omega
 have hg2 : w.heap.size + 1 ≠ g := by omega
 unfold tgV
 have hB := hid hl
 have RP := hid hP0
 have RC := hid hC0
 have RCE := hid hCE
 have hGe := hid hplG
 have hGc := hid hclG
 have hFc := hid hclF
 clear hP0 hC0 hCE hplG hclG hclF
 have hElen : (pl.flatMap encEn).length ≤ 1250000 := by
  have := flat_le encEn 300 pl fun x hx => encEn_len (hGe.out x hx)
  omega
 have HM := bytes_lift (hT1.alloc (.cells #[.int .u8 75, .int .u8 69, .int .u8 89, .int .u8 49] 5 (4, 5))) (bs := magicL) (cap := 4) (rs_fresh _ #[.int .u8 75, .int .u8 69, .int .u8 89, .int .u8 49] 5 (4, 5)) (by simp) (by simp [magicL]; omega)
 simp only [World.size_alloc] at HM
 replace HM := hid HM
 have kc := Joins.run_convert_bytes_const_at (P := Tryz.prog) ((w.alloc (.cells #[.pointer (some ⟨p, 0, none⟩)] 76)).alloc (.cells #[.slice po pl.length pc, .slice co cl.length cc] 32)) 38 5 #[.int .u8 75, .int .u8 69, .int .u8 89, .int .u8 49] 4 4 (w.heap.size + 1 + 1) (by simp) Tryz.underlying38 Tryz.underlying5
 go_enter Tryz.func25, Tryz.ntmps25
 obtain ⟨q, q0, q1⟩ := Q.out
 go_wp2_with fail
 refine HM.out.mono ?_
 rintro e w2 ⟨rfl, hT2⟩
 clear HM
 obtain ⟨q, q0, q1⟩ := Q.out
 replace q := hT2.box q hp1 hg1
 replace q0 := hT2.box q0 hp2 hg2
 replace q1 := hT2.box q1 hp2 hg2
 have HV := u2_lift hT2 [(pl.length : Int)] (by simp; omega) (by simp [magicL]; omega)
 simp only [List.map_cons, List.map_nil, List.length_cons, List.length_nil, Nat.zero_add, List.flatMap_cons, List.flatMap_nil, List.append_nil] at HV
 replace HV := hid HV
 go_wp2_with fail
 refine HV.out.mono ?_
 rintro e w9 ⟨rfl, hT3⟩
 clear HV
 obtain ⟨q, q0, q1⟩ := Q.out
 replace q := hT3.box q hp1 hg1
 replace q0 := hT3.box q0 hp2 hg2
 replace q1 := hT3.box q1 hp2 hg2
 go_wp2_with fail
 obtain ⟨OUT, hOUT⟩ : ∃ O, O = out ++ magicL ++ e2 (pl.length : Int) := ⟨_, rfl⟩
 rw [← hOUT] at hT3
 have hlen : OUT.length ≤ out.length + 10 := by rw [hOUT]; simp [e2, magicL, toBE_length]
 replace hOUT := hid hOUT
 have hst : Hid (WTo ((w.alloc (.cells #[.pointer (some ⟨p, 0, none⟩)] 76)).alloc (.cells #[.slice po pl.length pc, .slice co cl.length cc] 32)) B p g w9 (OUT ++ (pl.take 0).flatMap encEn, 0)) := by simpa [Hid] using hT3
 clear q q0 q1 hT2 hT3
 go_loopw [23] (fun i wr => ∃ (j : Nat), j ≤ pl.length ∧ i = .int .i64 (j : Int) ∧ Hid (WTo ((w.alloc (.cells #[.pointer (some ⟨p, 0, none⟩)] 76)).alloc (.cells #[.slice po pl.length pc, .slice co cl.length cc] 32)) B p g wr (OUT ++ (pl.take j).flatMap encEn, 0))) (fun i _ => pl.length - (intOf i).toNat)
 case atStart => exact ⟨0, by omega, rfl, hst⟩
 case round =>
  obtain ⟨j, hj, rfl, hT⟩ := hrel
  clear hst
  by_cases hlt : j < pl.length
  ·have g4 : ((j : Int) < (pl.length : Int)) := by omega
   have hOw := ((((Only.refl [p, g] w).alloc (.cells #[.pointer (some ⟨p, 0, none⟩)] 76)).alloc (.cells #[.slice po pl.length pc, .slice co cl.length cc] 32)).trans hT.out.only (by simp))
   have RH2 := RP.out.rs.only hOw (fun hn => by have := hPB _ (RP.out.ok hn); have := hB.out; simp; omega)
   obtain ⟨off, rfl, hcell⟩ : ∃ off, po = some ⟨pd, off, none⟩ ∧ _ := (ES.of_rs RH2).resolve_left (fun e => by rw [e] at hlt; simp at hlt)
   obtain ⟨c0, c1, c2, c3, c4, c5⟩ := hcell j hlt
   clear hcell
   have hy := hGe.out pl[j] (List.getElem_mem hlt)
   have hfl : ((pl.take j).flatMap encEn).length ≤ 1300000 := by
    have := flat_le encEn 300 (pl.take j) fun x hx => encEn_len (hGe.out x (List.mem_of_mem_take hx))
    have h2 : (pl.take j).length ≤ 4096 := by rw [List.length_take]; omega
    omega
   have hsucc := hid (flat_take_succ encEn pl j hlt)
   obtain ⟨q, _⟩ := Q.out
   replace q := hT.out.box q hp1 hg1
   clear RH2
   generalize pl[j] = y at *
   generalize (pl.take j).flatMap encEn = fl2 at *
   have qa := cell_alloc (.cells #[.int .i64 y.1, .string (str y.2.1), .int .i64 y.2.2.1, .int .i64 y.2.2.2.1, .int .i64 y.2.2.2.2.1, .int .i64 y.2.2.2.2.2] 90) q
   obtain ⟨g', hT2, hgl, hpl, hback⟩ := hT.out.hereA (.cells #[.int .i64 y.1, .string (str y.2.1), .int .i64 y.2.2.1, .int .i64 y.2.2.2.1, .int .i64 y.2.2.2.2.1, .int .i64 y.2.2.2.2.2] 90)
   obtain ⟨gz, hW2, hz2, hz3⟩ := hT2
   have HV := (wentry_any hW2 y hy (by simp; omega)).mono fun _ _ h => And.intro h.1 (wto_trans hz3 hz2 h.2)
   unfold tgV enV at HV
   clear hOw
   replace HV := hid HV
   go_wp2_with fail
   refine HV.out.mono ?_
   rintro e w3 ⟨rfl, hT4⟩
   clear HV
   go_wp2_with fail
   refine ⟨⟨j + 1, by omega, by go_num, ?_⟩, by simp [intOf]; omega⟩
   have := hback _ _ hT4
   rw [hsucc.out]
   simpa [Hid] using this
  ·have g4 : ¬ ((j : Int) < (pl.length : Int)) := by omega
   rw [List.take_of_length_le (by omega)] at hT
   have hT7 := hT.out
   obtain ⟨q, q0, q1⟩ := Q.out
   replace q := hT7.box q hp1 hg1
   replace q0 := hT7.box q0 hp2 hg2
   replace q1 := hT7.box q1 hp2 hg2
   clear hT
   have HV := u1_lift hT7 [(cl.length : Int)] (by simp; omega) (by rw [List.length_append]; simp only [List.length_cons, List.length_nil]; omega)
   simp only [List.map_cons, List.map_nil, List.length_cons, List.length_nil, Nat.zero_add, List.flatMap_cons, List.flatMap_nil, List.append_nil] at HV
   replace HV := hid HV
   go_wp2_with fail
   refine HV.out.mono ?_
   rintro e w10 ⟨rfl, hT8⟩
   clear HV
   obtain ⟨q, q0, q1⟩ := Q.out
   replace q := hT8.box q hp1 hg1
   replace q0 := hT8.box q0 hp2 hg2
   replace q1 := hT8.box q1 hp2 hg2
   go_wp2_with fail
   obtain ⟨OUT2, hOUT2⟩ : ∃ O, O = OUT ++ pl.flatMap encEn ++ e1 (cl.length : Int) := ⟨_, rfl⟩
   rw [← hOUT2] at hT8
   have hlen2 : OUT2.length ≤ OUT.length + 1300000 := by rw [hOUT2, List.length_append, List.length_append]; simp only [e1, List.length_cons, List.length_nil]; omega
   replace hOUT2 := hid hOUT2
   have hst : Hid (WTo ((w.alloc (.cells #[.pointer (some ⟨p, 0, none⟩)] 76)).alloc (.cells #[.slice po pl.length pc, .slice co cl.length cc] 32)) B p g w10 (OUT2 ++ (cl.take 0).flatMap encCl, 0)) := by simpa [Hid] using hT8
   clear q q0 q1 hT7 hT8
   go_loopw [41] (fun i wr => ∃ (j : Nat), j ≤ cl.length ∧ i = .int .i64 (j : Int) ∧ Hid (WTo ((w.alloc (.cells #[.pointer (some ⟨p, 0, none⟩)] 76)).alloc (.cells #[.slice po pl.length pc, .slice co cl.length cc] 32)) B p g wr (OUT2 ++ (cl.take j).flatMap encCl, 0))) (fun i _ => cl.length - (intOf i).toNat)
   case atStart => exact ⟨0, by omega, rfl, hst⟩
   case round =>
    obtain ⟨j, hj, rfl, hT⟩ := hrel
    clear hst
    by_cases hlt : j < cl.length
    ·have g4 : ((j : Int) < (cl.length : Int)) := by omega
     have hOw := ((((Only.refl [p, g] w).alloc (.cells #[.pointer (some ⟨p, 0, none⟩)] 76)).alloc (.cells #[.slice po pl.length pc, .slice co cl.length cc] 32)).trans hT.out.only (by simp))
     have RH2 := RC.out.rs.only hOw (fun hn => by have := hPB _ (RC.out.ok hn); have := hB.out; simp; omega)
     obtain ⟨off, vf, vd, vm, rfl, hMA, c0, c1, c2, c3, c4, c5⟩ := cl_cells RH2 RCE.out hlt
     obtain ⟨fo, fc, _, rfl, _⟩ := hMA.faces
     obtain ⟨dO, dc, _, rfl, _⟩ := hMA.fields
     obtain ⟨_, ⟨mo, mc, _, rfl, _⟩, _⟩ := hMA.methods
     have hyF := hFc.out cl[j] (List.getElem_mem hlt)
     have hy := hGc.out cl[j] (List.getElem_mem hlt)
     have hfl : ((cl.take j).flatMap encCl).length ≤ 20000000 := by
      have := flat_le encCl 300000 (cl.take j) fun x hx => encCl_len (hGc.out x (List.mem_of_mem_take hx))
      have h2 : (cl.take j).length ≤ 64 := by rw [List.length_take]; omega
      omega
     have hsucc := hid (flat_take_succ encCl cl j hlt)
     obtain ⟨q, _⟩ := Q.out
     replace q := hT.out.box q hp1 hg1
     clear RH2
     generalize cl[j] = y at *
     generalize (cl.take j).flatMap encCl = fl2 at *
     have qa := cell_alloc (.cells #[.int .i64 y.flags, .string (str y.name), .string (str y.super), .slice fo y.faces.length fc, .slice dO y.fields.length dc, .slice mo y.methods.length mc] 28) q
     obtain ⟨g', hT2, hgl, hpl, hback⟩ := hT.out.hereA (.cells #[.int .i64 y.flags, .string (str y.name), .string (str y.super), .slice fo y.faces.length fc, .slice dO y.fields.length dc, .slice mo y.methods.length mc] 28)
     obtain ⟨gz, hW2, hz2, hz3⟩ := hT2
     have hMA2 := hMA.only (hOw.alloc (.cells #[.int .i64 y.flags, .string (str y.name), .string (str y.super), .slice fo y.faces.length fc, .slice dO y.fields.length dc, .slice mo y.methods.length mc] 28)) (fun d hd => by have := hPB d hd; have := hB.out; simp; omega)
     have HV := (wcl_any hW2 y hy hyF hMA2 hPB (by simp; omega)).mono fun _ _ h => And.intro h.1 (wto_trans hz3 hz2 h.2)
     unfold tgV clV at HV
     clear hMA hMA2 hOw
     replace HV := hid HV
     go_wp2_with fail
     refine HV.out.mono ?_
     rintro e w3 ⟨rfl, hT4⟩
     clear HV
     go_wp2_with fail
     refine ⟨⟨j + 1, by omega, by go_num, ?_⟩, by simp [intOf]; omega⟩
     have := hback _ _ hT4
     rw [hsucc.out]
     simpa [Hid] using this
    ·have g4 : ¬ ((j : Int) < (cl.length : Int)) := by omega
     go_wp2_with fail
     go_end0
     refine ⟨rfl, ?_⟩
     have := wto_trans hO.out (.inl rfl) hT.out
     rw [List.take_of_length_le (by omega), hOUT2.out, hOUT.out] at this
     simpa using this

end Go.Proofs.YtildemmkhndhjaaGreatDoor
