/-
  The contract of asked where bytes are asked for: both readers answer alike, and stand alike. The bytes that are left are at most 2 to the power of 47.
-/
import Derived.Test.YtgnbimoebaagfaaAsked
namespace Go.Proofs.Ytgnbimoebaagfaa
open Go.RowKit

theorem held_one {w w' : World} {S : List Nat} {a : Addr} {v : Value} (ho : Only S w.drew w') (h1 : a.block < w.drew.heap.size) (h2 : a.block ∉ S) (h : w.cell? a = some v) : w'.cell? a = some v := (ho.cell h1 h2).trans h

theorem held_two {w w' : World} {S : List Nat} {a : Addr} {v : Value} (ho : Only S w w') (h1 : a.block < w.heap.size) (h2 : a.block ∉ S) (h : w.cell? a = some v) : w'.cell? a = some v := (ho.cell h1 h2).trans h

theorem own_read {w : World} {B : Nat} {ao : Option Addr} {cap : Nat} {bs : List UInt8} (h : w.ownsRow B 5 1 (.slice ao bs.length cap) bs.length (bcs bs)) : BS w ao bs ((ao.map (·.block)).getD 0) ∧ (bs ≠ [] → B ≤ (ao.map (·.block)).getD 0) := by
  obtain ⟨hb, _, _, _, ha⟩ := BS.of_owns h
  refine ⟨hb, fun hne => ?_⟩
  cases ao with
  | none => exact absurd hb.none_nil hne
  | some a => exact (ha a rfl).1

set_option maxHeartbeats 4000000 in
set_option maxRecDepth 100000 in
theorem asked_four {w : World} {r dr x d : Nat} {bo : Option Addr} {cap : Nat} {all : List UInt8} {s : List UInt8 × Nat × Int} (h : Both w r dr x d bo cap all s) (N : Int) (iv : Value) (hsz : s.1.length ≤ 140737488355328) :
    Calls Try.prog 11 #[.pointer (some ⟨r, 0, none⟩), .pointer (some ⟨x, 0, none⟩), .agg #[.int .i64 4, .int .i64 N, iv]] w fun e w' => e = .returned (.bool true) ∧ Both w' r dr x d bo cap all (rBytes s N).2 ∧ Only [r, x] w w' := by
  obtain ⟨hl1, hl2⟩ := h.lt
  have rx := h.rx
  have xd := h.xd
  have rd := h.rd
  have oa := (Only.refl [] w).alloc (.cells #[.int .i64 4, .int .i64 N, iv] 32)
  have od := oa.drew
  have h1 := h.only od (by simp) (by simp) (by simp) (by simp)
  have hlen : (rBytes s N).1.length ≤ 140737488355328 := by
    unfold rBytes
    split
    · simp
    · have := rTake_fst_le s N.toNat
      omega
  have HA := bytes_any h1.one N (by omega)
  have HB := fun w2 (ho : Only [r] (w.alloc (.cells #[.int .i64 4, .int .i64 N, iv] 32)).drew w2) => xbytes_any (h1.two.only ho (by simp; omega) (fun hne => by simpa using rd hne)) N (by omega)
  generalize (rBytes s N).1 = L at *
  generalize (rBytes s N).2 = s' at *
  have HA := hid HA
  have HB := hid HB
  have hb0 : (w.alloc (.cells #[.int .i64 4, .int .i64 N, iv] 32)).cell? ⟨w.heap.size, 1, none⟩ = some (.int .i64 N) := by rw [cell_new]; rfl
  have OD := hid od
  have RD := hid rd
  clear h1 od oa h rd
  go_enter Try.func11, Try.ntmps11
  go_wp2
  go_region_with (first | (go_at_call 26; refine HA.out.mono ?_; rintro e w2 ⟨ao2, cap2, rfl, hown2, q1, o1⟩; have hk2 : w2.cell? ⟨w.heap.size, 1, none⟩ = some (.int .i64 N) := held_one o1 (by simp) (by simp; omega) hb0; obtain ⟨hbs2, hd2⟩ := own_read hown2; have kc2 := conv_str hbs2 cap2) | (go_at_call 33; refine (HB.out w2 o1).mono ?_; rintro e w3 ⟨ao3, cap3, rfl, hown3, q2, o2⟩; have hk3 : w3.cell? ⟨w.heap.size, 1, none⟩ = some (.int .i64 N) := held_two o2 (by have := o1.size; simp at this ⊢; omega) (by simp; omega) hk2; have kc3 := conv_str (hbs2.only o2 (fun hne => by have := hd2 hne; simp at this ⊢; omega)) cap2; obtain ⟨hbs3, hd3⟩ := own_read hown3; have kc4 := conv_str hbs3 cap3))
  all_goals
    have hB3 : Both w3 r dr x d bo cap all s' := ⟨q1.only o2 (by simpa using rx) (by simpa using xd), q2, rx, RD.out, xd⟩
    have OO : Only [r, x] w w3 := ((OD.out.mono (by simp)).trans o1 (by simp)).trans o2 (by simp)
    clear q1 q2 o1 o2 HB HA hown2 hown3 hbs2 hbs3 hd2 hd3 kc2 kc3 kc4 hk2 hk3 hb0
    have hB3' := hid hB3
    obtain ⟨hr3, hx3, _, _, _⟩ := hB3
    have HX3 := hid hx3
    obtain ⟨P, hx3, g1, g2⟩ := hx3
    obtain ⟨M, n, E⟩ := s'
    simp only at g2 hx3 g1
    subst g2
    have c0 := hx3.c0
    have c1 := hx3.c1
    have c2 := hx3.c2
    clear hx3 g1
    go_wp2
    go_quiet ((first | (go_at_call 23; exact at_q hr3 _) | (go_at_call 25; exact left_q hr3 _) | (go_at_call 24; exact err_q hr3 _) | (go_at_call 35; exact xleft_q HX3.out _)))
    go_wp2
    go_ret
    exact ⟨rfl, hB3'.out.only ((Only.refl [] _).drewN _) (by simp) (by simp) (by simp) (by simp), OO.drewN _⟩

end Go.Proofs.Ytgnbimoebaagfaa
