/-
  The contracts of the second reader, by which the statement says the document: it does what the first one's contracts say. No conditions beyond the receiver's own shape.
-/
import Derived.Test.YtmghmmkjcgopaaaGX0
namespace Go.Proofs.Ytmghmmkjcgopaaa
open Go.RowKit

/-- The second reader in block x: all its bytes lie in block d; P were read, E is its first error. -/
structure XR (w : World) (x d : Nat) (bo : Option Addr) (cap : Nat) (all : List UInt8) (P : Nat) (E : Int) : Prop where
  c0 : w.cell? ⟨x, 0, none⟩ = some (.slice bo all.length cap)
  c1 : w.cell? ⟨x, 1, none⟩ = some (.int .i64 (P : Int))
  c2 : w.cell? ⟨x, 2, none⟩ = some (.int .i64 E)
  f0 : w.frozen? ⟨x, 0, none⟩ = false
  f1 : w.frozen? ⟨x, 1, none⟩ = false
  f2 : w.frozen? ⟨x, 2, none⟩ = false
  data : BS w bo all d
  capLe : all.length ≤ cap
  capMax : cap ≤ 9223372036854775807
  capNone : bo = none → cap = 0
  fit : P ≤ all.length
  ne : all ≠ [] → d ≠ x

theorem XR.lt {w : World} {x d : Nat} {bo : Option Addr} {cap : Nat} {all : List UInt8} {P : Nat} {E : Int} (h : XR w x d bo cap all P E) : x < w.heap.size := World.block_lt_of_cell? w _ h.c0

theorem XR.only {w w' : World} {S : List Nat} {x d : Nat} {bo : Option Addr} {cap : Nat} {all : List UInt8} {P : Nat} {E : Int} (h : XR w x d bo cap all P E) (ho : Only S w w') (hx : x ∉ S) (hd : all ≠ [] → d ∉ S) : XR w' x d bo cap all P E := by
  have hl := h.lt
  exact { c0 := (ho.cell (p := ⟨x, 0, none⟩) hl hx).trans h.c0, c1 := (ho.cell (p := ⟨x, 1, none⟩) hl hx).trans h.c1, c2 := (ho.cell (p := ⟨x, 2, none⟩) hl hx).trans h.c2,
          f0 := (ho.frozen (p := ⟨x, 0, none⟩) hl hx).trans h.f0, f1 := (ho.frozen (p := ⟨x, 1, none⟩) hl hx).trans h.f1, f2 := (ho.frozen (p := ⟨x, 2, none⟩) hl hx).trans h.f2,
          data := h.data.only ho hd, capLe := h.capLe, capMax := h.capMax, capNone := h.capNone, fit := h.fit, ne := h.ne }

/-- The second reader as a state of the first: what is left, how many were read, its error. -/
def XE (w : World) (x d : Nat) (bo : Option Addr) (cap : Nat) (all : List UInt8) (s : List UInt8 × Nat × Int) : Prop := ∃ P, XR w x d bo cap all P s.2.2 ∧ s.1 = all.drop P ∧ s.2.1 = P

theorem XE.only {w w' : World} {S : List Nat} {x d : Nat} {bo : Option Addr} {cap : Nat} {all : List UInt8} {s : List UInt8 × Nat × Int} (h : XE w x d bo cap all s) (ho : Only S w w') (hx : x ∉ S) (hd : all ≠ [] → d ∉ S) : XE w' x d bo cap all s := by
  obtain ⟨P, h, h1, h2⟩ := h
  exact ⟨P, h.only ho hx hd, h1, h2⟩

/-- What the second reader is when its error was set. -/
theorem XR.failed {w : World} {x d : Nat} {bo : Option Addr} {cap : Nat} {all : List UInt8} {P : Nat} {E : Int} (h : XR w x d bo cap all P E) (e : Int) {w0 : World} (h0 : Only [] w w0) {w' : World} (hw : Only [] (w0.setCell ⟨x, 2, none⟩ (.int .i64 e)) w') : XR w' x d bo cap all P e ∧ Only [x] w w' := by
  have h := h.only h0 (by simp) (by simp)
  have ho : Only [x] w0 (w0.setCell ⟨x, 2, none⟩ (.int .i64 e)) := (Only.refl [x] w0).setCell (.inl (by simp)) _
  have hf : ∀ a, (w0.setCell ⟨x, 2, none⟩ (.int .i64 e)).frozen? a = w0.frozen? a := fun a => frozen_setCell _ _ _ _
  have h1 : XR (w0.setCell ⟨x, 2, none⟩ (.int .i64 e)) x d bo cap all P e :=
    { c0 := by rw [cell_setCell_ne _ _ (by simp)]; exact h.c0, c1 := by rw [cell_setCell_ne _ _ (by simp)]; exact h.c1, c2 := cell_setCell_same _ _ h.c2,
      f0 := (hf _).trans h.f0, f1 := (hf _).trans h.f1, f2 := (hf _).trans h.f2,
      data := h.data.only ho (fun hb => by simpa using h.ne hb), capLe := h.capLe, capMax := h.capMax, capNone := h.capNone, fit := h.fit, ne := h.ne }
  exact ⟨h1.only hw (by simp) (by simp), ((h0.mono (by simp)).trans ho (fun y hy => .inl hy)).next hw (by simp)⟩

/-- What the second reader is when its place was set. -/
theorem XR.moved {w : World} {x d : Nat} {bo : Option Addr} {cap : Nat} {all : List UInt8} {P : Nat} {E : Int} (h : XR w x d bo cap all P E) (Q : Nat) (hQ : Q ≤ all.length) (q : Int) (hq : q = (Q : Int)) {w0 : World} (h0 : Only [] w w0) {w' : World} (hw : Only [] (w0.setCell ⟨x, 1, none⟩ (.int .i64 q)) w') : XR w' x d bo cap all Q E ∧ Only [x] w w' := by
  subst hq
  have h := h.only h0 (by simp) (by simp)
  have ho : Only [x] w0 (w0.setCell ⟨x, 1, none⟩ (.int .i64 (Q : Int))) := (Only.refl [x] w0).setCell (.inl (by simp)) _
  have hf : ∀ a, (w0.setCell ⟨x, 1, none⟩ (.int .i64 (Q : Int))).frozen? a = w0.frozen? a := fun a => frozen_setCell _ _ _ _
  have h1 : XR (w0.setCell ⟨x, 1, none⟩ (.int .i64 (Q : Int))) x d bo cap all Q E :=
    { c0 := by rw [cell_setCell_ne _ _ (by simp)]; exact h.c0, c1 := cell_setCell_same _ _ h.c1, c2 := by rw [cell_setCell_ne _ _ (by simp)]; exact h.c2,
      f0 := (hf _).trans h.f0, f1 := (hf _).trans h.f1, f2 := (hf _).trans h.f2,
      data := h.data.only ho (fun hb => by simpa using h.ne hb), capLe := h.capLe, capMax := h.capMax, capNone := h.capNone, fit := hQ, ne := h.ne }
  exact ⟨h1.only hw (by simp) (by simp), ((h0.mono (by simp)).trans ho (fun y hy => .inl hy)).next hw (by simp)⟩

theorem slice_lh (ao : Option Addr) (len cap l h : Nat) (hl : l ≤ h) (hh : h ≤ cap) (li hi' : Int) (e1 : li = (l : Int)) (e2 : hi' = (h : Int)) (w : World) :
    (Instr.slice 23 (.slice ao len cap) (some (.int .i64 li)) (some (.int .i64 hi')) none).run Try.prog w = .ok (.slice (cutAt ao cap l) (h - l) (cap - l)) w := by
  subst e1 e2
  obtain ⟨i0, hi, hz0, hz1, hz2⟩ := info_parts info5
  simp [Instr.slice, run_underlying Try.underlying23, Instr.sliceBounds, run_sliceBound, sizeOf, typeInfo, hi, hz1, hl, hh, cutAt]

set_option maxHeartbeats 1000000 in
theorem xtake_ok {w : World} {x d : Nat} {bo : Option Addr} {cap : Nat} {all : List UInt8} {P : Nat} (h : XR w x d bo cap all P 0) (m : Nat) (hm : P + m ≤ all.length) :
    Calls Try.prog 31 #[.pointer (some ⟨x, 0, none⟩), .int .i64 (m : Int)] w fun e w' => e = .returned (.slice (cutAt bo cap P) m (cap - P)) ∧ XR w' x d bo cap all (P + m) 0 ∧ Only [x] w w' := by
  have H := hid h
  obtain ⟨c0, c1, c2, f0, f1, f2, data, capLe, capMax, capNone, fit, ne⟩ := h
  have k1 := slice_lh bo all.length cap P (P + m) (by omega) (by omega) (P : Int) ((P : Int) + (m : Int)) rfl (by omega)
  have e1 : P + m - P = m := by omega
  rw [e1] at k1
  have g1 : ¬ ((m : Int) < 0) := by omega
  have g2 : ¬ ((all.length : Int) - (P : Int) < (m : Int)) := by omega
  clear e1 data capNone ne
  go_enter Try.func31, Try.ntmps31
  go_wp2
  go_quiet (fail)
  go_wp2
  go_quiet (fail)
  go_wp2
  go_ret
  exact ⟨rfl, H.out.moved (P + m) hm _ (by omega) ((Only.refl [] w).drewN _) ((Only.refl [] _).drewN _)⟩

set_option maxHeartbeats 1000000 in
theorem xtake_cut {w : World} {x d : Nat} {bo : Option Addr} {cap : Nat} {all : List UInt8} {P : Nat} (h : XR w x d bo cap all P 0) (m : Nat) (hm : all.length < P + m) :
    Calls Try.prog 31 #[.pointer (some ⟨x, 0, none⟩), .int .i64 (m : Int)] w fun e w' => e = .returned (.slice none 0 0) ∧ XR w' x d bo cap all P 11 ∧ Only [x] w w' := by
  have H := hid h
  obtain ⟨c0, c1, c2, f0, f1, f2, data, capLe, capMax, capNone, fit, ne⟩ := h
  have g1 : ¬ ((m : Int) < 0) := by omega
  have g2 : ((all.length : Int) - (P : Int) < (m : Int)) := by omega
  clear data capNone ne
  go_enter Try.func31, Try.ntmps31
  go_wp2
  go_quiet (fail)
  go_wp2
  go_ret
  exact ⟨rfl, H.out.failed 11 ((Only.refl [] w).drewN _) (Only.refl [] _)⟩

set_option maxHeartbeats 1000000 in
theorem xtake_neg {w : World} {x d : Nat} {bo : Option Addr} {cap : Nat} {all : List UInt8} {P : Nat} (h : XR w x d bo cap all P 0) (m : Int) (hm : m < 0) :
    Calls Try.prog 31 #[.pointer (some ⟨x, 0, none⟩), .int .i64 m] w fun e w' => e = .returned (.slice none 0 0) ∧ XR w' x d bo cap all P 1 ∧ Only [x] w w' := by
  have H := hid h
  obtain ⟨c0, c1, c2, f0, f1, f2, data, capLe, capMax, capNone, fit, ne⟩ := h
  clear data capNone ne
  go_enter Try.func31, Try.ntmps31
  go_wp2
  go_quiet (fail)
  go_wp2
  go_ret
  exact ⟨rfl, H.out.failed 1 (Only.refl [] w) ((Only.refl [] _).drewN _)⟩

set_option maxHeartbeats 1000000 in
theorem xtake_err {w : World} {x d : Nat} {bo : Option Addr} {cap : Nat} {all : List UInt8} {P : Nat} {E : Int} (h : XR w x d bo cap all P E) (he : (E == 0) = false) (m : Int) :
    Calls Try.prog 31 #[.pointer (some ⟨x, 0, none⟩), .int .i64 m] w fun e w' => e = .returned (.slice none 0 0) ∧ XR w' x d bo cap all P E ∧ Only [x] w w' := by
  have H := hid h
  obtain ⟨c0, c1, c2, f0, f1, f2, data, capLe, capMax, capNone, fit, ne⟩ := h
  clear data capNone ne
  go_enter Try.func31, Try.ntmps31
  go_wp2
  go_quiet (fail)
  go_wp2
  go_ret
  exact ⟨rfl, H.out.only ((Only.refl [] w).drewN _) (by simp) (by simp), (Only.refl [x] w).drewN _⟩

/-- Whatever the second reader: take. -/
theorem xtake_any {w : World} {x d : Nat} {bo : Option Addr} {cap : Nat} {all : List UInt8} {s : List UInt8 × Nat × Int} (h : XE w x d bo cap all s) (m : Int) :
    Calls Try.prog 31 #[.pointer (some ⟨x, 0, none⟩), .int .i64 m] w fun e w' => ∃ ao' cap', e = .returned (.slice ao' (rBytes s m).1.length cap') ∧ BS w' ao' (rBytes s m).1 d ∧ (ao' = none → cap' = 0) ∧ (rBytes s m).1.length ≤ cap' ∧ cap' ≤ 9223372036854775807 ∧ XE w' x d bo cap all (rBytes s m).2 ∧ Only [x] w w' := by
  obtain ⟨P, h, h1, h2⟩ := h
  obtain ⟨bs, n, E⟩ := s
  simp only at h h1 h2
  subst h1 h2
  have hfit := h.fit
  by_cases he : E = 0
  · subst he
    by_cases hn : m < 0
    · have e : rBytes (all.drop n, n, 0) m = ([], all.drop n, n, 1) := by simp [rBytes, hn]
      rw [e]
      refine (xtake_neg h m hn).mono ?_
      rintro e w' ⟨rfl, hx, ho⟩
      exact ⟨none, 0, rfl, BS.nil _ _ _, fun _ => rfl, Nat.le_refl _, by decide, ⟨n, hx, rfl, rfl⟩, ho⟩
    · obtain ⟨k, rfl⟩ := Int.eq_ofNat_of_zero_le (by omega : 0 ≤ m)
      by_cases hm : all.length < n + k
      · have e : rBytes (all.drop n, n, 0) (k : Int) = ([], all.drop n, n, 11) := by
          unfold rBytes
          rw [if_neg hn, Int.toNat_natCast]
          simp [rTake]
          omega
        rw [e]
        refine (xtake_cut h k hm).mono ?_
        rintro e w' ⟨rfl, hx, ho⟩
        exact ⟨none, 0, rfl, BS.nil _ _ _, fun _ => rfl, Nat.le_refl _, by decide, ⟨n, hx, rfl, rfl⟩, ho⟩
      · have e : rBytes (all.drop n, n, 0) (k : Int) = ((all.drop n).take k, all.drop (n + k), n + k, 0) := by
          unfold rBytes
          rw [if_neg hn, Int.toNat_natCast]
          simp [rTake]
          omega
        rw [e]
        have hl : ((all.drop n).take k).length = k := by simp; omega
        refine (xtake_ok h k (by omega)).mono ?_
        rintro e w' ⟨rfl, hx, ho⟩
        have hc := h.capLe
        have hc2 := h.capMax
        refine ⟨cutAt bo cap n, cap - n, by rw [hl], ?_, fun e => by have := h.capNone (cutAt_none e); omega, by rw [hl]; omega, by omega, ⟨n + k, hx, rfl, rfl⟩, ho⟩
        exact (hx.data.drop n cap hc).take k
  · have e : rBytes (all.drop n, n, E) m = ([], all.drop n, n, E) := by
      unfold rBytes
      split
      · simp only
      · simp [rTake, he]
    rw [e]
    refine (xtake_err h (by simpa using he) m).mono ?_
    rintro e w' ⟨rfl, hx, ho⟩
    exact ⟨none, 0, rfl, BS.nil _ _ _, fun _ => rfl, Nat.le_refl _, by decide, ⟨n, hx, rfl, rfl⟩, ho⟩

set_option maxHeartbeats 400000 in
theorem xnumber_any {w : World} {x d : Nat} {bo : Option Addr} {cap : Nat} {all : List UInt8} {s : List UInt8 × Nat × Int} (h : XE w x d bo cap all s) (m : Nat) (h8 : m ≤ 8) (mi : Int) (hmi : mi = (m : Int)) :
    Calls Try.prog 30 #[.pointer (some ⟨x, 0, none⟩), .int .i64 mi] w fun e w' => e = .returned (.int .u64 (be (rTake s m).1 : Int)) ∧ XE w' x d bo cap all (rTake s m).2 ∧ Only [x] w w' := by
  subst hmi
  have hl := rTake_le s m
  have ht := xtake_any h (m : Int)
  have e : rBytes s (m : Int) = rTake s m := by
    unfold rBytes
    rw [if_neg (by omega), Int.toNat_natCast]
  rw [e] at ht
  clear e
  generalize (rTake s m).1 = L at *
  generalize (rTake s m).2 = s' at *
  have HT := hid ht
  clear ht
  go_enter Try.func30, Try.ntmps30
  go_wp2_with (go_at_call 31; refine HT.out.mono ?_; rintro e w' ⟨ao', cap', rfl, hbs, hcn, hcap, hcm, hrd, ho⟩)
  go_loop [6, 7] (fun v i => ∃ k : Nat, k ≤ L.length ∧ i = .int .i64 k ∧ v = .int .u64 (be (L.take k) : Int)) (fun _ i => L.length - (intOf i).toNat)
  case atStart => exact ⟨0, Nat.zero_le _, rfl, rfl⟩
  case round =>
    obtain ⟨k, hk, rfl, rfl⟩ := hrel
    by_cases hlt : k < L.length
    · rcases hbs with hbs | ⟨off, ha, hc⟩
      · exfalso
        rw [hbs] at hlt
        simp at hlt
      · have hck := hc k hlt
        subst ha
        clear hc
        go_wp2
        refine ⟨⟨k + 1, by omega, by go_num, ?_⟩, by simp [intOf]; omega⟩
        rw [be_take_succ L k hlt, or_shl8c _ _ (be_lt8 L k (by omega)) (L[k]).toNat_lt]
    · go_wp2
      go_ret
      exact ⟨ret_int (by rw [List.take_of_length_le (by omega)]), hrd, ho⟩

theorem xu1_any {w : World} {x d : Nat} {bo : Option Addr} {cap : Nat} {all : List UInt8} {s : List UInt8 × Nat × Int} (h : XE w x d bo cap all s) :
    Calls Try.prog 16 #[.pointer (some ⟨x, 0, none⟩)] w fun e w' => e = .returned (.int .i64 (be (rTake s 1).1 : Int)) ∧ XE w' x d bo cap all (rTake s 1).2 ∧ Only [x] w w' := by
  have hb : be (rTake s 1).1 < 256 ^ 1 := be_lt_of _ 1 (rTake_le s 1)
  have ht := xnumber_any h 1 (by decide) 1 rfl
  generalize be (rTake s 1).1 = L at *
  generalize (rTake s 1).2 = s' at *
  have HT := hid ht
  clear ht
  go_enter Try.func16, Try.ntmps16
  go_wp2_with (go_at_call 30; refine HT.out.mono ?_; rintro e w' ⟨rfl, hrd, ho⟩)
  go_ret
  exact ⟨rfl, hrd, ho⟩

theorem xu2_any {w : World} {x d : Nat} {bo : Option Addr} {cap : Nat} {all : List UInt8} {s : List UInt8 × Nat × Int} (h : XE w x d bo cap all s) :
    Calls Try.prog 15 #[.pointer (some ⟨x, 0, none⟩)] w fun e w' => e = .returned (.int .i64 (be (rTake s 2).1 : Int)) ∧ XE w' x d bo cap all (rTake s 2).2 ∧ Only [x] w w' := by
  have hb : be (rTake s 2).1 < 256 ^ 2 := be_lt_of _ 2 (rTake_le s 2)
  have ht := xnumber_any h 2 (by decide) 2 rfl
  generalize be (rTake s 2).1 = L at *
  generalize (rTake s 2).2 = s' at *
  have HT := hid ht
  clear ht
  go_enter Try.func15, Try.ntmps15
  go_wp2_with (go_at_call 30; refine HT.out.mono ?_; rintro e w' ⟨rfl, hrd, ho⟩)
  go_ret
  exact ⟨rfl, hrd, ho⟩

set_option maxHeartbeats 400000 in
theorem xbytes_any {w : World} {x d : Nat} {bo : Option Addr} {cap : Nat} {all : List UInt8} {s : List UInt8 × Nat × Int} (h : XE w x d bo cap all s) (m : Int) (hsz : (rBytes s m).1.length ≤ 211106232532992) :
    Calls Try.prog 17 #[.pointer (some ⟨x, 0, none⟩), .int .i64 m] w fun e w' => ∃ ao cap', e = .returned (.slice ao (rBytes s m).1.length cap') ∧ w'.ownsRow w.heap.size 5 1 (.slice ao (rBytes s m).1.length cap') (rBytes s m).1.length (bcs (rBytes s m).1) ∧ XE w' x d bo cap all (rBytes s m).2 ∧ Only [x] w w' := by
  have ht := xtake_any h m
  generalize (rBytes s m).1 = L at *
  generalize (rBytes s m).2 = s' at *
  have HT := hid ht
  clear ht
  go_enter Try.func17, Try.ntmps17
  go_wp2_with fail
  refine HT.out.mono ?_
  rintro e w' ⟨ao', cap', rfl, hbs, hcn, hcap, hcm, hrd, ho⟩
  have HCN := hid hcn
  clear hcn
  go_wp2_with (at_builtin; refine wpList_append_bytes rfl (.tmp 6) (.tmp 9) rfl rfl rfl (World.ownsRow_nil w' w.heap.size 5 1) hbs HCN.out (by omega) ho.size ?_)
  intro ao2 cap2 w2 hown hgr _
  go_wp2
  go_ret
  refine ⟨ao2, cap2, by simp, hown, hrd.only (Only.of_grown hgr) (by simp [Value.ownBlock]) (by simp [Value.ownBlock]), ho.next (Only.of_grown hgr) (by simp [Value.ownBlock])⟩

theorem xleft_any {w : World} {x d : Nat} {bo : Option Addr} {cap : Nat} {all : List UInt8} {s : List UInt8 × Nat × Int} (h : XE w x d bo cap all s) :
    Calls Try.prog 14 #[.pointer (some ⟨x, 0, none⟩)] w fun e w' => e = .returned (.int .i64 (s.1.length : Int)) ∧ ∃ n, w' = w.drewN n := by
  obtain ⟨P, h, h1, h2⟩ := h
  have hl : s.1.length = all.length - P := by rw [h1, List.length_drop]
  obtain ⟨c0, c1, c2, f0, f1, f2, data, capLe, capMax, capNone, fit, ne⟩ := h
  clear data capNone ne h1 h2
  have e : (s.1.length : Int) = (all.length : Int) - (P : Int) := by omega
  rw [e]
  clear e hl
  go_enter Try.func14, Try.ntmps14
  go_wp2
  go_quiet (fail)
  go_wp2
  go_ret
  exact ⟨rfl, _, rfl⟩

theorem rTake_err (s : List UInt8 × Nat × Int) (m : Nat) (h : s.2.2 ≠ 0) : rTake s m = ([], s) := by
  unfold rTake
  rw [if_neg h]

end Go.Proofs.Ytmghmmkjcgopaaa