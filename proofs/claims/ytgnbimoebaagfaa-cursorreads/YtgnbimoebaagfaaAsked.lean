/-
  The contract of asked: one call of both readers; they answer alike, and stand alike. No conditions beyond the readers' own shape.
-/
import Derived.Test.YtgnbimoebaagfaaXRead
import Derived.Deep.RegionHeld3
import Derived.BigQuiet
namespace Go.Proofs.Ytgnbimoebaagfaa
open Go.RowKit

/-- What a call of kind k, with the number n, does to a reader. -/
def rStep (k n : Int) (s : List UInt8 × Nat × Int) : List UInt8 × Nat × Int :=
  if k = 1 then (rTake s 1).2 else if k = 2 then (rTake s 2).2 else if k = 3 then (rTake s 8).2 else if k = 4 then (rBytes s n).2 else if k = 5 then (rText s).2 else s

/-- Both readers. -/
structure Both (w : World) (r dr x d : Nat) (bo : Option Addr) (cap : Nat) (all : List UInt8) (s : List UInt8 × Nat × Int) : Prop where
  one : RdE w r dr s
  two : XE w x d bo cap all s
  rx : r ≠ x
  rd : all ≠ [] → d ≠ r
  xd : dr ≠ x

theorem Both.only {w w' : World} {S : List Nat} {r dr x d : Nat} {bo : Option Addr} {cap : Nat} {all : List UInt8} {s : List UInt8 × Nat × Int} (h : Both w r dr x d bo cap all s) (ho : Only S w w') (h1 : r ∉ S) (h2 : dr ∉ S) (h3 : x ∉ S) (h4 : all ≠ [] → d ∉ S) : Both w' r dr x d bo cap all s :=
  ⟨h.one.only ho h1 h2, h.two.only ho h3 h4, h.rx, h.rd, h.xd⟩

theorem Both.lt {w : World} {r dr x d : Nat} {bo : Option Addr} {cap : Nat} {all : List UInt8} {s : List UInt8 × Nat × Int} (h : Both w r dr x d bo cap all s) : r < w.heap.size ∧ x < w.heap.size := by
  obtain ⟨P, hx, _⟩ := h.two
  exact ⟨h.one.lt, hx.lt⟩

theorem at_q {w : World} {r d : Nat} {s : List UInt8 × Nat × Int} (h : RdE w r d s) (n : Nat) :
    Calls Try.prog 23 #[.pointer (some ⟨r, 0, none⟩)] (w.drewN n) fun e w' => e = .returned (.int .i64 (s.2.1 : Int)) ∧ ∃ m, w' = w.drewN m :=
  (at_any (h.only ((Only.refl [] w).drewN n) (by simp) (by simp))).mono fun _ _ ⟨he, hm⟩ => ⟨he, n, hm.symm⟩

theorem err_q {w : World} {r d : Nat} {s : List UInt8 × Nat × Int} (h : RdE w r d s) (n : Nat) :
    Calls Try.prog 24 #[.pointer (some ⟨r, 0, none⟩)] (w.drewN n) fun e w' => e = .returned (.int .i64 s.2.2) ∧ ∃ m, w' = w.drewN m :=
  (err_any (h.only ((Only.refl [] w).drewN n) (by simp) (by simp))).mono fun _ _ ⟨he, hm⟩ => ⟨he, n, hm.symm⟩

theorem left_q {w : World} {r d : Nat} {s : List UInt8 × Nat × Int} (h : RdE w r d s) (n : Nat) :
    Calls Try.prog 25 #[.pointer (some ⟨r, 0, none⟩)] (w.drewN n) fun e w' => e = .returned (.int .i64 (s.1.length : Int)) ∧ ∃ m, w' = w.drewN m :=
  (left_any (h.only ((Only.refl [] w).drewN n) (by simp) (by simp))).mono fun _ _ ⟨he, hm⟩ => ⟨he, n, hm.symm⟩

theorem xleft_q {w : World} {x d : Nat} {bo : Option Addr} {cap : Nat} {all : List UInt8} {s : List UInt8 × Nat × Int} (h : XE w x d bo cap all s) (n : Nat) :
    Calls Try.prog 35 #[.pointer (some ⟨x, 0, none⟩)] (w.drewN n) fun e w' => e = .returned (.int .i64 (s.1.length : Int)) ∧ ∃ m, w' = w.drewN m :=
  (xleft_any (h.only ((Only.refl [] w).drewN n) (by simp) (by simp))).mono fun _ _ ⟨he, m, hm⟩ => ⟨he, n + m, by rw [hm, World.drewN_drewN]⟩

set_option maxHeartbeats 2000000 in
set_option maxRecDepth 100000 in
theorem asked_one {w : World} {r dr x d : Nat} {bo : Option Addr} {cap : Nat} {all : List UInt8} {s : List UInt8 × Nat × Int} (h : Both w r dr x d bo cap all s) (N : Int) (iv : Value) :
    Calls Try.prog 11 #[.pointer (some ⟨r, 0, none⟩), .pointer (some ⟨x, 0, none⟩), .agg #[.int .i64 1, .int .i64 N, iv]] w fun e w' => e = .returned (.bool true) ∧ Both w' r dr x d bo cap all (rTake s 1).2 ∧ Only [r, x] w w' := by
  obtain ⟨hl1, hl2⟩ := h.lt
  have rx := h.rx
  have xd := h.xd
  have h1 := h.only ((Only.refl [] w).alloc (.cells #[.int .i64 1, .int .i64 N, iv] 32)) (by simp) (by simp) (by simp) (by simp)
  have HA := u1_any h1.one
  have rd := h.rd
  have hO := (Only.refl [] w).alloc (.cells #[.int .i64 1, .int .i64 N, iv] 32)
  have HB := fun w2 (ho : Only [r] (w.alloc (.cells #[.int .i64 1, .int .i64 N, iv] 32)) w2) => xu1_any (h1.two.only ho (by simp; omega) (fun hne => by simpa using rd hne))
  generalize (be (rTake s 1).1 : Int) = v at *
  generalize (rTake s 1).2 = s' at *
  have HA := hid HA
  have HB := hid HB
  have H1 := hid h1
  clear h1
  go_enter Try.func11, Try.ntmps11
  go_wp2_with fail
  refine HA.out.mono ?_
  rintro e w2 ⟨rfl, q1, o1⟩
  clear HA
  go_wp2_with fail
  refine (HB.out w2 o1).mono ?_
  rintro e w3 ⟨rfl, q2, o2⟩
  have hB3 : Both w3 r dr x d bo cap all s' := ⟨q1.only o2 (by simpa using rx) (by simpa using xd), q2, rx, rd, xd⟩
  have OO : Only [r, x] w w3 := ((hO.mono (by simp)).trans o1 (by simp)).trans o2 (by simp)
  clear q1 q2 o1 o2 hO rd HB
  have hB3' := hid hB3
  obtain ⟨hr3, hx3, _, _, _⟩ := hB3
  have HX3 := hid hx3
  obtain ⟨P, hx3, g1, g2⟩ := hx3
  obtain ⟨L, n, E⟩ := s'
  simp only at g2 hx3 g1
  subst g2
  have c0 := hx3.c0
  have c1 := hx3.c1
  have c2 := hx3.c2
  clear hx3 g1
  go_wp2
  go_quiet ((first | (go_at_call 23; exact at_q hr3 _) | (go_at_call 25; exact left_q hr3 _) | (go_at_call 24; exact err_q hr3 _) | (go_at_call 35; exact xleft_q HX3.out _)))
  go_wp2
  go_ret
  exact ⟨rfl, hB3'.out.only ((Only.refl [] _).drewN _) (by simp) (by simp) (by simp) (by simp), OO.drewN _⟩

set_option maxHeartbeats 2000000 in
set_option maxRecDepth 100000 in
theorem asked_two {w : World} {r dr x d : Nat} {bo : Option Addr} {cap : Nat} {all : List UInt8} {s : List UInt8 × Nat × Int} (h : Both w r dr x d bo cap all s) (N : Int) (iv : Value) :
    Calls Try.prog 11 #[.pointer (some ⟨r, 0, none⟩), .pointer (some ⟨x, 0, none⟩), .agg #[.int .i64 2, .int .i64 N, iv]] w fun e w' => e = .returned (.bool true) ∧ Both w' r dr x d bo cap all (rTake s 2).2 ∧ Only [r, x] w w' := by
  obtain ⟨hl1, hl2⟩ := h.lt
  have rx := h.rx
  have xd := h.xd
  have h1 := h.only ((Only.refl [] w).alloc (.cells #[.int .i64 2, .int .i64 N, iv] 32)) (by simp) (by simp) (by simp) (by simp)
  have HA := u2_any h1.one
  have rd := h.rd
  have hO := (Only.refl [] w).alloc (.cells #[.int .i64 2, .int .i64 N, iv] 32)
  have HB := fun w2 (ho : Only [r] (w.alloc (.cells #[.int .i64 2, .int .i64 N, iv] 32)) w2) => xu2_any (h1.two.only ho (by simp; omega) (fun hne => by simpa using rd hne))
  generalize (be (rTake s 2).1 : Int) = v at *
  generalize (rTake s 2).2 = s' at *
  have HA := hid HA
  have HB := hid HB
  have H1 := hid h1
  clear h1
  go_enter Try.func11, Try.ntmps11
  go_wp2_with fail
  refine HA.out.mono ?_
  rintro e w2 ⟨rfl, q1, o1⟩
  clear HA
  go_wp2_with fail
  refine (HB.out w2 o1).mono ?_
  rintro e w3 ⟨rfl, q2, o2⟩
  have hB3 : Both w3 r dr x d bo cap all s' := ⟨q1.only o2 (by simpa using rx) (by simpa using xd), q2, rx, rd, xd⟩
  have OO : Only [r, x] w w3 := ((hO.mono (by simp)).trans o1 (by simp)).trans o2 (by simp)
  clear q1 q2 o1 o2 hO rd HB
  have hB3' := hid hB3
  obtain ⟨hr3, hx3, _, _, _⟩ := hB3
  have HX3 := hid hx3
  obtain ⟨P, hx3, g1, g2⟩ := hx3
  obtain ⟨L, n, E⟩ := s'
  simp only at g2 hx3 g1
  subst g2
  have c0 := hx3.c0
  have c1 := hx3.c1
  have c2 := hx3.c2
  clear hx3 g1
  go_wp2
  go_quiet ((first | (go_at_call 23; exact at_q hr3 _) | (go_at_call 25; exact left_q hr3 _) | (go_at_call 24; exact err_q hr3 _) | (go_at_call 35; exact xleft_q HX3.out _)))
  go_wp2
  go_ret
  exact ⟨rfl, hB3'.out.only ((Only.refl [] _).drewN _) (by simp) (by simp) (by simp) (by simp), OO.drewN _⟩

set_option maxHeartbeats 2000000 in
set_option maxRecDepth 100000 in
theorem asked_three {w : World} {r dr x d : Nat} {bo : Option Addr} {cap : Nat} {all : List UInt8} {s : List UInt8 × Nat × Int} (h : Both w r dr x d bo cap all s) (N : Int) (iv : Value) :
    Calls Try.prog 11 #[.pointer (some ⟨r, 0, none⟩), .pointer (some ⟨x, 0, none⟩), .agg #[.int .i64 3, .int .i64 N, iv]] w fun e w' => e = .returned (.bool true) ∧ Both w' r dr x d bo cap all (rTake s 8).2 ∧ Only [r, x] w w' := by
  obtain ⟨hl1, hl2⟩ := h.lt
  have rx := h.rx
  have xd := h.xd
  have h1 := h.only ((Only.refl [] w).alloc (.cells #[.int .i64 3, .int .i64 N, iv] 32)) (by simp) (by simp) (by simp) (by simp)
  have HA := n8_any h1.one
  have rd := h.rd
  have hO := (Only.refl [] w).alloc (.cells #[.int .i64 3, .int .i64 N, iv] 32)
  have HB := fun w2 (ho : Only [r] (w.alloc (.cells #[.int .i64 3, .int .i64 N, iv] 32)) w2) => xn8_any (h1.two.only ho (by simp; omega) (fun hne => by simpa using rd hne))
  generalize wrap64 (be (rTake s 8).1 : Int) = v at *
  generalize (rTake s 8).2 = s' at *
  have HA := hid HA
  have HB := hid HB
  have H1 := hid h1
  clear h1
  go_enter Try.func11, Try.ntmps11
  go_wp2_with fail
  refine HA.out.mono ?_
  rintro e w2 ⟨rfl, q1, o1⟩
  clear HA
  go_wp2_with fail
  refine (HB.out w2 o1).mono ?_
  rintro e w3 ⟨rfl, q2, o2⟩
  have hB3 : Both w3 r dr x d bo cap all s' := ⟨q1.only o2 (by simpa using rx) (by simpa using xd), q2, rx, rd, xd⟩
  have OO : Only [r, x] w w3 := ((hO.mono (by simp)).trans o1 (by simp)).trans o2 (by simp)
  clear q1 q2 o1 o2 hO rd HB
  have hB3' := hid hB3
  obtain ⟨hr3, hx3, _, _, _⟩ := hB3
  have HX3 := hid hx3
  obtain ⟨P, hx3, g1, g2⟩ := hx3
  obtain ⟨L, n, E⟩ := s'
  simp only at g2 hx3 g1
  subst g2
  have c0 := hx3.c0
  have c1 := hx3.c1
  have c2 := hx3.c2
  clear hx3 g1
  go_wp2
  go_quiet ((first | (go_at_call 23; exact at_q hr3 _) | (go_at_call 25; exact left_q hr3 _) | (go_at_call 24; exact err_q hr3 _) | (go_at_call 35; exact xleft_q HX3.out _)))
  go_wp2
  go_ret
  exact ⟨rfl, hB3'.out.only ((Only.refl [] _).drewN _) (by simp) (by simp) (by simp) (by simp), OO.drewN _⟩

set_option maxHeartbeats 2000000 in
set_option maxRecDepth 100000 in
theorem asked_five {w : World} {r dr x d : Nat} {bo : Option Addr} {cap : Nat} {all : List UInt8} {s : List UInt8 × Nat × Int} (h : Both w r dr x d bo cap all s) (N : Int) (iv : Value) :
    Calls Try.prog 11 #[.pointer (some ⟨r, 0, none⟩), .pointer (some ⟨x, 0, none⟩), .agg #[.int .i64 5, .int .i64 N, iv]] w fun e w' => e = .returned (.bool true) ∧ Both w' r dr x d bo cap all (rText s).2 ∧ Only [r, x] w w' := by
  obtain ⟨hl1, hl2⟩ := h.lt
  have rx := h.rx
  have xd := h.xd
  have h1 := h.only ((Only.refl [] w).alloc (.cells #[.int .i64 5, .int .i64 N, iv] 32)) (by simp) (by simp) (by simp) (by simp)
  have HA := text_any h1.one
  have rd := h.rd
  have hO := (Only.refl [] w).alloc (.cells #[.int .i64 5, .int .i64 N, iv] 32)
  have HB := fun w2 (ho : Only [r] (w.alloc (.cells #[.int .i64 5, .int .i64 N, iv] 32)) w2) => xtext_any (h1.two.only ho (by simp; omega) (fun hne => by simpa using rd hne))
  generalize str (rText s).1 = v at *
  generalize (rText s).2 = s' at *
  have HA := hid HA
  have HB := hid HB
  have H1 := hid h1
  clear h1
  go_enter Try.func11, Try.ntmps11
  go_wp2_with fail
  refine HA.out.mono ?_
  rintro e w2 ⟨rfl, q1, o1⟩
  clear HA
  go_wp2_with fail
  refine (HB.out w2 o1).mono ?_
  rintro e w3 ⟨rfl, q2, o2⟩
  have hB3 : Both w3 r dr x d bo cap all s' := ⟨q1.only o2 (by simpa using rx) (by simpa using xd), q2, rx, rd, xd⟩
  have OO : Only [r, x] w w3 := ((hO.mono (by simp)).trans o1 (by simp)).trans o2 (by simp)
  clear q1 q2 o1 o2 hO rd HB
  have hB3' := hid hB3
  obtain ⟨hr3, hx3, _, _, _⟩ := hB3
  have HX3 := hid hx3
  obtain ⟨P, hx3, g1, g2⟩ := hx3
  obtain ⟨L, n, E⟩ := s'
  simp only at g2 hx3 g1
  subst g2
  have c0 := hx3.c0
  have c1 := hx3.c1
  have c2 := hx3.c2
  clear hx3 g1
  go_wp2
  go_quiet ((first | (go_at_call 23; exact at_q hr3 _) | (go_at_call 25; exact left_q hr3 _) | (go_at_call 24; exact err_q hr3 _) | (go_at_call 35; exact xleft_q HX3.out _)))
  go_wp2
  go_ret
  exact ⟨rfl, hB3'.out.only ((Only.refl [] _).drewN _) (by simp) (by simp) (by simp) (by simp), OO.drewN _⟩

set_option maxHeartbeats 2000000 in
set_option maxRecDepth 100000 in
theorem asked_none {w : World} {r dr x d : Nat} {bo : Option Addr} {cap : Nat} {all : List UInt8} {s' : List UInt8 × Nat × Int} (h : Both w r dr x d bo cap all s') (k N : Int) (iv : Value) (k1 : (k == 1) = false) (k2 : (k == 2) = false) (k3 : (k == 3) = false) (k4 : (k == 4) = false) (k5 : (k == 5) = false) :
    Calls Try.prog 11 #[.pointer (some ⟨r, 0, none⟩), .pointer (some ⟨x, 0, none⟩), .agg #[.int .i64 k, .int .i64 N, iv]] w fun e w' => e = .returned (.bool true) ∧ Both w' r dr x d bo cap all s' ∧ Only [r, x] w w' := by
  have hB3 := h.only ((Only.refl [] w).alloc (.cells #[.int .i64 k, .int .i64 N, iv] 32)) (by simp) (by simp) (by simp) (by simp)
  have OO := (Only.refl [r, x] w).alloc (.cells #[.int .i64 k, .int .i64 N, iv] 32)
  clear h
  have HK := hid (And.intro k1 (And.intro k2 (And.intro k3 (And.intro k4 k5))))
  go_enter Try.func11, Try.ntmps11
  have hB3' := hid hB3
  obtain ⟨hr3, hx3, _, _, _⟩ := hB3
  have HX3 := hid hx3
  obtain ⟨P, hx3, g1, g2⟩ := hx3
  obtain ⟨L, n, E⟩ := s'
  simp only at g2 hx3 g1
  subst g2
  have c0 := hx3.c0
  have c1 := hx3.c1
  have c2 := hx3.c2
  clear hx3 g1 HK
  go_wp2
  go_quiet ((first | (go_at_call 23; exact at_q hr3 _) | (go_at_call 25; exact left_q hr3 _) | (go_at_call 24; exact err_q hr3 _) | (go_at_call 35; exact xleft_q HX3.out _)))
  go_wp2
  go_ret
  exact ⟨rfl, hB3'.out.only ((Only.refl [] _).drewN _) (by simp) (by simp) (by simp) (by simp), OO.drewN _⟩

end Go.Proofs.Ytgnbimoebaagfaa
