/-
  The contract of put: one call of both writers; they come to be alike. What is written is at most 1.5 times 2 to the power of 47 bytes.
-/
import Derived.Test.YtgnbimoebaagfaaXWrite2
namespace Go.Proofs.Ytgnbimoebaagfaa
open Go.RowKit

/-- Both writers. -/
structure Pair (w : World) (p g y h : Nat) (s : List UInt8 × Int) : Prop where
  one : WrE w p p g s
  two : XWE w p y h s
  py : p ≠ y
  ph : p ≠ h
  gy : g ≠ y
  gh : g ≠ h

set_option maxHeartbeats 2000000 in
set_option maxRecDepth 100000 in
theorem lput_one {w : World} {p g y h : Nat} {s : List UInt8 × Int} (H : Pair w p g y h s) (n : Int) {bo : Option Addr} {bs : List UInt8} {bcap bd : Nat} (_hb : BS w bo bs bd) (_hbn : bo = none → bcap = 0) (hbd : bs ≠ [] → bd ∉ [p, g, y, h]) (hsz : s.1.length + bs.length + 512 ≤ 211106232532992) (hbl : bs.length ≤ 9223372036854775807) :
    Calls Try.prog 13 #[.pointer (some ⟨p, 0, none⟩), .pointer (some ⟨y, 0, none⟩), .agg #[.int .i64 1, .int .i64 n, .slice bo bs.length bcap]] w fun e w' => e = .returned (.tuple #[]) ∧ ∃ g' h', Pair w' p g' y h' (wOne 1 s n) ∧ (g' = g ∨ w.heap.size ≤ g') ∧ (h' = h ∨ w.heap.size ≤ h') ∧ Only [p, g, y, h] w w' := by
  obtain ⟨h1, h2, py, ph, gy, gh⟩ := H
  have l1 := h1.lt
  have l2 := h2.lt
  have oa := (Only.refl [] w).alloc (.cells #[.int .i64 1, .int .i64 n, .slice bo bs.length bcap] 32)
  have q1 := h1.only oa (by simp) (by simp)
  have q2 := h2.only oa (by simp) (by simp)
  have ob := (Only.refl [] (w.alloc (.cells #[.int .i64 1, .int .i64 n, .slice bo bs.length bcap] 32))).alloc (.cells #[.int .i64 n] 3)
  have HA := wu1_any (q1.only ob (by simp) (by simp)) (ns_one (w.alloc (.cells #[.int .i64 1, .int .i64 n, .slice bo bs.length bcap] 32)) n .i64 3) (fun _ => by simp; omega) (by show s.1.length + 1 * 1 ≤ _; omega) (lcap := 1)
  simp only [World.size_alloc] at HA
  have HB := fun w2 (ho : Only [p, g] ((w.alloc (.cells #[.int .i64 1, .int .i64 n, .slice bo bs.length bcap] 32)).alloc (.cells #[.int .i64 n] 3)) w2) => xwu1_any ((q2.only ob (by simp) (by simp)).only ho (by simp; omega) (by simp; omega)) n (by omega)
  have HA := hid HA
  have HB := hid HB
  have OAB := hid (oa.next ob (by simp))
  have HBD := hid hbd
  clear hbd q1 q2 oa _hbn
  go_enter Try.func13, Try.ntmps13
  go_wp2_with fail
  refine HA.out.mono ?_
  rintro e w2 ⟨rfl, g2, r1, r2, r3⟩
  have c2 : w2.cell? ⟨w.heap.size, 1, none⟩ = some (.int .i64 n) := by rw [r3.cell (by simp; omega) (by simp; omega), World.cell?_alloc_lt _ _ _ (by simp), cell_new]; rfl
  have HB2 := hid (HB.out w2 r3)
  clear HB HA
  go_wp2_with fail
  refine HB2.out.mono ?_
  rintro e w3 ⟨rfl, h3, t1, t2, t3⟩
  have z2 := r3.size
  have z3 := OAB.out.size
  simp at z2
  have hP : Pair w3 p g2 y h3 (wOne 1 s n) := ⟨r1.only t3 (by simp; omega) (by simp; simp at r2; omega), t1, py, by omega, by simp at r2; omega, by have := r1.lt; simp at r2; omega⟩
  have hO : Only [p, g, y, h] w w3 := ((OAB.out.mono (by simp)).trans r3 (fun x hx => .inl (by simp at hx ⊢; omega))).trans t3 (fun x hx => .inl (by simp at hx ⊢; omega))
  go_wp2
  go_end0
  exact ⟨rfl, g2, h3, hP, by simp at r2; omega, by omega, hO⟩

set_option maxHeartbeats 2000000 in
set_option maxRecDepth 100000 in
theorem lput_two {w : World} {p g y h : Nat} {s : List UInt8 × Int} (H : Pair w p g y h s) (n : Int) {bo : Option Addr} {bs : List UInt8} {bcap bd : Nat} (_hb : BS w bo bs bd) (_hbn : bo = none → bcap = 0) (hbd : bs ≠ [] → bd ∉ [p, g, y, h]) (hsz : s.1.length + bs.length + 512 ≤ 211106232532992) (hbl : bs.length ≤ 9223372036854775807) :
    Calls Try.prog 13 #[.pointer (some ⟨p, 0, none⟩), .pointer (some ⟨y, 0, none⟩), .agg #[.int .i64 2, .int .i64 n, .slice bo bs.length bcap]] w fun e w' => e = .returned (.tuple #[]) ∧ ∃ g' h', Pair w' p g' y h' (wOne 2 s n) ∧ (g' = g ∨ w.heap.size ≤ g') ∧ (h' = h ∨ w.heap.size ≤ h') ∧ Only [p, g, y, h] w w' := by
  obtain ⟨h1, h2, py, ph, gy, gh⟩ := H
  have l1 := h1.lt
  have l2 := h2.lt
  have oa := (Only.refl [] w).alloc (.cells #[.int .i64 2, .int .i64 n, .slice bo bs.length bcap] 32)
  have q1 := h1.only oa (by simp) (by simp)
  have q2 := h2.only oa (by simp) (by simp)
  have ob := (Only.refl [] (w.alloc (.cells #[.int .i64 2, .int .i64 n, .slice bo bs.length bcap] 32))).alloc (.cells #[.int .i64 n] 3)
  have HA := wu2_any (q1.only ob (by simp) (by simp)) (ns_one (w.alloc (.cells #[.int .i64 2, .int .i64 n, .slice bo bs.length bcap] 32)) n .i64 3) (fun _ => by simp; omega) (by show s.1.length + 2 * 1 ≤ _; omega) (lcap := 1)
  simp only [World.size_alloc] at HA
  have HB := fun w2 (ho : Only [p, g] ((w.alloc (.cells #[.int .i64 2, .int .i64 n, .slice bo bs.length bcap] 32)).alloc (.cells #[.int .i64 n] 3)) w2) => xwu2_any ((q2.only ob (by simp) (by simp)).only ho (by simp; omega) (by simp; omega)) n (by omega)
  have HA := hid HA
  have HB := hid HB
  have OAB := hid (oa.next ob (by simp))
  have HBD := hid hbd
  clear hbd q1 q2 oa _hbn
  go_enter Try.func13, Try.ntmps13
  go_wp2_with fail
  refine HA.out.mono ?_
  rintro e w2 ⟨rfl, g2, r1, r2, r3⟩
  have c2 : w2.cell? ⟨w.heap.size, 1, none⟩ = some (.int .i64 n) := by rw [r3.cell (by simp; omega) (by simp; omega), World.cell?_alloc_lt _ _ _ (by simp), cell_new]; rfl
  have HB2 := hid (HB.out w2 r3)
  clear HB HA
  go_wp2_with fail
  refine HB2.out.mono ?_
  rintro e w3 ⟨rfl, h3, t1, t2, t3⟩
  have z2 := r3.size
  have z3 := OAB.out.size
  simp at z2
  have hP : Pair w3 p g2 y h3 (wOne 2 s n) := ⟨r1.only t3 (by simp; omega) (by simp; simp at r2; omega), t1, py, by omega, by simp at r2; omega, by have := r1.lt; simp at r2; omega⟩
  have hO : Only [p, g, y, h] w w3 := ((OAB.out.mono (by simp)).trans r3 (fun x hx => .inl (by simp at hx ⊢; omega))).trans t3 (fun x hx => .inl (by simp at hx ⊢; omega))
  go_wp2
  go_end0
  exact ⟨rfl, g2, h3, hP, by simp at r2; omega, by omega, hO⟩

set_option maxHeartbeats 2000000 in
set_option maxRecDepth 100000 in
theorem lput_three {w : World} {p g y h : Nat} {s : List UInt8 × Int} (H : Pair w p g y h s) (n : Int) {bo : Option Addr} {bs : List UInt8} {bcap bd : Nat} (_hb : BS w bo bs bd) (_hbn : bo = none → bcap = 0) (hbd : bs ≠ [] → bd ∉ [p, g, y, h]) (hsz : s.1.length + bs.length + 512 ≤ 211106232532992) (hbl : bs.length ≤ 9223372036854775807) :
    Calls Try.prog 13 #[.pointer (some ⟨p, 0, none⟩), .pointer (some ⟨y, 0, none⟩), .agg #[.int .i64 3, .int .i64 n, .slice bo bs.length bcap]] w fun e w' => e = .returned (.tuple #[]) ∧ ∃ g' h', Pair w' p g' y h' (wN8 s [n]) ∧ (g' = g ∨ w.heap.size ≤ g') ∧ (h' = h ∨ w.heap.size ≤ h') ∧ Only [p, g, y, h] w w' := by
  obtain ⟨h1, h2, py, ph, gy, gh⟩ := H
  have l1 := h1.lt
  have l2 := h2.lt
  have oa := (Only.refl [] w).alloc (.cells #[.int .i64 3, .int .i64 n, .slice bo bs.length bcap] 32)
  have q1 := h1.only oa (by simp) (by simp)
  have q2 := h2.only oa (by simp) (by simp)
  have ob := (Only.refl [] (w.alloc (.cells #[.int .i64 3, .int .i64 n, .slice bo bs.length bcap] 32))).alloc (.cells #[.int .i64 n] 2)
  have HA := wn8_any (q1.only ob (by simp) (by simp)) (ns_one (w.alloc (.cells #[.int .i64 3, .int .i64 n, .slice bo bs.length bcap] 32)) n .i64 2) (fun _ => by simp; omega) (by show s.1.length + 8 * 1 ≤ _; omega) (lcap := 1)
  simp only [World.size_alloc] at HA
  have HB := fun w2 (ho : Only [p, g] ((w.alloc (.cells #[.int .i64 3, .int .i64 n, .slice bo bs.length bcap] 32)).alloc (.cells #[.int .i64 n] 2)) w2) => xn8w_any ((q2.only ob (by simp) (by simp)).only ho (by simp; omega) (by simp; omega)) n (by omega)
  have HA := hid HA
  have HB := hid HB
  have OAB := hid (oa.next ob (by simp))
  have HBD := hid hbd
  clear hbd q1 q2 oa _hbn
  go_enter Try.func13, Try.ntmps13
  go_wp2_with fail
  refine HA.out.mono ?_
  rintro e w2 ⟨rfl, g2, r1, r2, r3⟩
  have c2 : w2.cell? ⟨w.heap.size, 1, none⟩ = some (.int .i64 n) := by rw [r3.cell (by simp; omega) (by simp; omega), World.cell?_alloc_lt _ _ _ (by simp), cell_new]; rfl
  have HB2 := hid (HB.out w2 r3)
  clear HB HA
  go_wp2_with fail
  refine HB2.out.mono ?_
  rintro e w3 ⟨rfl, h3, t1, t2, t3⟩
  have z2 := r3.size
  have z3 := OAB.out.size
  simp at z2
  have hP : Pair w3 p g2 y h3 (wN8 s [n]) := ⟨r1.only t3 (by simp; omega) (by simp; simp at r2; omega), t1, py, by omega, by simp at r2; omega, by have := r1.lt; simp at r2; omega⟩
  have hO : Only [p, g, y, h] w w3 := ((OAB.out.mono (by simp)).trans r3 (fun x hx => .inl (by simp at hx ⊢; omega))).trans t3 (fun x hx => .inl (by simp at hx ⊢; omega))
  go_wp2
  go_end0
  exact ⟨rfl, g2, h3, hP, by simp at r2; omega, by omega, hO⟩

set_option maxHeartbeats 2000000 in
set_option maxRecDepth 100000 in
theorem lput_four {w : World} {p g y h : Nat} {s : List UInt8 × Int} (H : Pair w p g y h s) (n : Int) {bo : Option Addr} {bs : List UInt8} {bcap bd : Nat} (hb : BS w bo bs bd) (hbn : bo = none → bcap = 0) (hbd : bs ≠ [] → bd ∉ [p, g, y, h]) (hsz : s.1.length + bs.length + 512 ≤ 211106232532992) (_hbl : bs.length ≤ 9223372036854775807) :
    Calls Try.prog 13 #[.pointer (some ⟨p, 0, none⟩), .pointer (some ⟨y, 0, none⟩), .agg #[.int .i64 4, .int .i64 n, .slice bo bs.length bcap]] w fun e w' => e = .returned (.tuple #[]) ∧ ∃ g' h', Pair w' p g' y h' (wPut s bs) ∧ (g' = g ∨ w.heap.size ≤ g') ∧ (h' = h ∨ w.heap.size ≤ h') ∧ Only [p, g, y, h] w w' := by
  obtain ⟨h1, h2, py, ph, gy, gh⟩ := H
  have l1 := h1.lt
  have l2 := h2.lt
  have oa := (Only.refl [] w).alloc (.cells #[.int .i64 4, .int .i64 n, .slice bo bs.length bcap] 32)
  have q1 := h1.only oa (by simp) (by simp)
  have q2 := h2.only oa (by simp) (by simp)
  have ob := Only.refl [] (w.alloc (.cells #[.int .i64 4, .int .i64 n, .slice bo bs.length bcap] 32))
  have HA := wbytes_any q1 (hb.only oa (by simp)) hbn (by omega)
  have HB := fun w2 (ho : Only [p, g] (w.alloc (.cells #[.int .i64 4, .int .i64 n, .slice bo bs.length bcap] 32)) w2) => xbytesw_any (q2.only ho (by simp; omega) (by simp; omega)) ((hb.only oa (by simp)).only ho (fun hne => by have := hbd hne; simp at this ⊢; omega)) hbn (by omega)
  have HA := hid HA
  have HB := hid HB
  have OAB := hid (oa.next ob (by simp))
  have HBD := hid hbd
  clear hbd q1 q2 oa hbn
  go_enter Try.func13, Try.ntmps13
  go_wp2_with fail
  refine HA.out.mono ?_
  rintro e w2 ⟨rfl, g2, r1, r2, r3⟩
  have c2 : w2.cell? ⟨w.heap.size, 2, none⟩ = some (.slice bo bs.length bcap) := by rw [r3.cell (by simp) (by simp; omega), cell_new]; rfl
  have HB2 := hid (HB.out w2 r3)
  clear HB HA
  go_wp2_with fail
  refine HB2.out.mono ?_
  rintro e w3 ⟨rfl, h3, t1, t2, t3⟩
  have z2 := r3.size
  have z3 := OAB.out.size
  simp at z2
  have hP : Pair w3 p g2 y h3 (wPut s bs) := ⟨r1.only t3 (by simp; omega) (by simp; simp at r2; omega), t1, py, by omega, by simp at r2; omega, by have := r1.lt; simp at r2; omega⟩
  have hO : Only [p, g, y, h] w w3 := ((OAB.out.mono (by simp)).trans r3 (fun x hx => .inl (by simp at hx ⊢; omega))).trans t3 (fun x hx => .inl (by simp at hx ⊢; omega))
  go_wp2
  go_end0
  exact ⟨rfl, g2, h3, hP, by simp at r2; omega, by omega, hO⟩

set_option maxHeartbeats 2000000 in
set_option maxRecDepth 100000 in
theorem lput_five {w : World} {p g y h : Nat} {s : List UInt8 × Int} (H : Pair w p g y h s) (n : Int) {bo : Option Addr} {bs : List UInt8} {bcap bd : Nat} (hb : BS w bo bs bd) (_hbn : bo = none → bcap = 0) (hbd : bs ≠ [] → bd ∉ [p, g, y, h]) (hsz : s.1.length + bs.length + 512 ≤ 211106232532992) (hbl : bs.length ≤ 9223372036854775807) :
    Calls Try.prog 13 #[.pointer (some ⟨p, 0, none⟩), .pointer (some ⟨y, 0, none⟩), .agg #[.int .i64 5, .int .i64 n, .slice bo bs.length bcap]] w fun e w' => e = .returned (.tuple #[]) ∧ ∃ g' h', Pair w' p g' y h' (wText1 s (str bs)) ∧ (g' = g ∨ w.heap.size ≤ g') ∧ (h' = h ∨ w.heap.size ≤ h') ∧ Only [p, g, y, h] w w' := by
  obtain ⟨h1, h2, py, ph, gy, gh⟩ := H
  have l1 := h1.lt
  have l2 := h2.lt
  have oa := (Only.refl [] w).alloc (.cells #[.int .i64 5, .int .i64 n, .slice bo bs.length bcap] 32)
  have q1 := h1.only oa (by simp) (by simp)
  have q2 := h2.only oa (by simp) (by simp)
  have ob := (Only.refl [] (w.alloc (.cells #[.int .i64 5, .int .i64 n, .slice bo bs.length bcap] 32))).alloc (.cells #[.string (str bs)] 9)
  have kc := conv_str (hb.only oa (by simp)) bcap
  have HA := wtext_any (q1.only ob (by simp) (by simp)) (ss_one (w.alloc (.cells #[.int .i64 5, .int .i64 n, .slice bo bs.length bcap] 32)) (str bs) 9) (fun _ => by simp; omega) (by show s.1.length + 256 * 1 ≤ _; omega) (by intro b hb; simp at hb; subst hb; show bs.length ≤ _; omega) (lcap := 1)
  simp only [World.size_alloc] at HA
  have HB := fun w2 (ho : Only [p, g] ((w.alloc (.cells #[.int .i64 5, .int .i64 n, .slice bo bs.length bcap] 32)).alloc (.cells #[.string (str bs)] 9)) w2) => xtextw_any ((q2.only ob (by simp) (by simp)).only ho (by simp; omega) (by simp; omega)) (str bs) (by show bs.length ≤ _; omega) (by omega)
  have HKC := hid (fun w2 (ho : Only [p, g] ((w.alloc (.cells #[.int .i64 5, .int .i64 n, .slice bo bs.length bcap] 32)).alloc (.cells #[.string (str bs)] 9)) w2) => conv_str (((hb.only oa (by simp)).only ob (by simp)).only ho (fun hne => by have := hbd hne; simp at this ⊢; omega)) bcap)
  have HA := hid HA
  have HB := hid HB
  have OAB := hid (oa.next ob (by simp))
  have HBD := hid hbd
  clear hbd q1 q2 oa _hbn
  go_enter Try.func13, Try.ntmps13
  go_wp2_with fail
  refine HA.out.mono ?_
  rintro e w2 ⟨rfl, g2, r1, r2, r3⟩
  have c2 : w2.cell? ⟨w.heap.size, 2, none⟩ = some (.slice bo bs.length bcap) := by rw [r3.cell (by simp; omega) (by simp; omega), World.cell?_alloc_lt _ _ _ (by simp), cell_new]; rfl
  have kc2 := HKC.out w2 r3
  have HB2 := hid (HB.out w2 r3)
  clear HB HA
  go_wp2_with fail
  refine HB2.out.mono ?_
  rintro e w3 ⟨rfl, h3, t1, t2, t3⟩
  have z2 := r3.size
  have z3 := OAB.out.size
  simp at z2
  have hP : Pair w3 p g2 y h3 (wText1 s (str bs)) := ⟨r1.only t3 (by simp; omega) (by simp; simp at r2; omega), t1, py, by omega, by simp at r2; omega, by have := r1.lt; simp at r2; omega⟩
  have hO : Only [p, g, y, h] w w3 := ((OAB.out.mono (by simp)).trans r3 (fun x hx => .inl (by simp at hx ⊢; omega))).trans t3 (fun x hx => .inl (by simp at hx ⊢; omega))
  go_wp2
  go_end0
  exact ⟨rfl, g2, h3, hP, by simp at r2; omega, by omega, hO⟩

set_option maxRecDepth 100000 in
theorem lput_none {w : World} {p g y h : Nat} {s : List UInt8 × Int} (H : Pair w p g y h s) (k n : Int) (v : Value) (k1 : (k == 1) = false) (k2 : (k == 2) = false) (k3 : (k == 3) = false) (k4 : (k == 4) = false) (k5 : (k == 5) = false) :
    Calls Try.prog 13 #[.pointer (some ⟨p, 0, none⟩), .pointer (some ⟨y, 0, none⟩), .agg #[.int .i64 k, .int .i64 n, v]] w fun e w' => e = .returned (.tuple #[]) ∧ ∃ g' h', Pair w' p g' y h' s ∧ (g' = g ∨ w.heap.size ≤ g') ∧ (h' = h ∨ w.heap.size ≤ h') ∧ Only [p, g, y, h] w w' := by
  have oa := (Only.refl [] w).alloc (.cells #[.int .i64 k, .int .i64 n, v] 32)
  have hP : Pair _ p g y h s := ⟨H.one.only oa (by simp) (by simp), H.two.only oa (by simp) (by simp), H.py, H.ph, H.gy, H.gh⟩
  clear H
  go_enter Try.func13, Try.ntmps13
  go_wp2
  go_end0
  exact ⟨rfl, g, h, hP, .inl rfl, .inl rfl, oa.mono (by simp)⟩

end Go.Proofs.Ytgnbimoebaagfaa
