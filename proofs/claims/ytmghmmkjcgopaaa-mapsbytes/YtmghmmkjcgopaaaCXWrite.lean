/-
  The contracts of the second writer, by which the statement says the document. All that is written is at most 1.5 times 2 to the power of 47 bytes.
-/
import Derived.Test.YtmghmmkjcgopaaaGX0
import Derived.Deep.RegionLaw
namespace Go.Proofs.Ytmghmmkjcgopaaa
open Go.RowKit

/-- The second writer in block y. -/
structure XW (w : World) (B y : Nat) (ao : Option Addr) (cap : Nat) (out : List UInt8) (err : Int) : Prop where
  c0 : w.cell? ⟨y, 0, none⟩ = some (.slice ao out.length cap)
  c1 : w.cell? ⟨y, 1, none⟩ = some (.int .i64 err)
  f0 : w.frozen? ⟨y, 0, none⟩ = false
  f1 : w.frozen? ⟨y, 1, none⟩ = false
  own : w.ownsRow B 5 1 (.slice ao out.length cap) out.length (bcs out)
  ne : ∀ a, ao = some a → a.block ≠ y
  ge : B ≤ y

/-- The second writer, its bytes in block g (y, if it has none). -/
def XWE (w : World) (B y g : Nat) (s : List UInt8 × Int) : Prop := ∃ ao cap, XW w B y ao cap s.1 s.2 ∧ dataOf ao y = g

theorem XW.lt {w : World} {B y : Nat} {ao : Option Addr} {cap : Nat} {out : List UInt8} {err : Int} (h : XW w B y ao cap out err) : y < w.heap.size := World.block_lt_of_cell? w _ h.c0

theorem XWE.lt {w : World} {B y g : Nat} {s : List UInt8 × Int} (h : XWE w B y g s) : y < w.heap.size ∧ g < w.heap.size ∧ B ≤ y ∧ B ≤ g := by
  obtain ⟨ao, cap, h, rfl⟩ := h
  have hp := h.lt
  refine ⟨hp, ?_, h.ge, ?_⟩
  · cases ao with
    | none => exact hp
    | some a => exact (h.own.lt a.block rfl).2
  · cases ao with
    | none => exact h.ge
    | some a => exact (h.own.lt a.block rfl).1

theorem XWE.only {w w' : World} {S : List Nat} {B y g : Nat} {s : List UInt8 × Int} (h : XWE w B y g s) (ho : Only S w w') (hp : y ∉ S) (hg : g ∉ S) : XWE w' B y g s := by
  obtain ⟨ao, cap, h, rfl⟩ := h
  have hl := h.lt
  refine ⟨ao, cap, { c0 := (ho.cell (p := ⟨y, 0, none⟩) hl hp).trans h.c0, c1 := (ho.cell (p := ⟨y, 1, none⟩) hl hp).trans h.c1, f0 := (ho.frozen (p := ⟨y, 0, none⟩) hl hp).trans h.f0, f1 := (ho.frozen (p := ⟨y, 1, none⟩) hl hp).trans h.f1,
                     own := ownb_only h.own ho (fun k hk => ?_), ne := h.ne, ge := h.ge }, rfl⟩
  cases ao with
  | none => simp [Value.ownBlock] at hk
  | some a => simp [Value.ownBlock] at hk; subst hk; exact hg

def XTo (w : World) (B y g : Nat) (w' : World) (s' : List UInt8 × Int) : Prop := ∃ g', XWE w' B y g' s' ∧ (g' = g ∨ w.heap.size ≤ g') ∧ Only [y, g] w w'

theorem XTo.refl {w : World} {B y g : Nat} {s : List UInt8 × Int} (h : XWE w B y g s) : XTo w B y g w s := ⟨g, h, .inl rfl, Only.refl _ _⟩

theorem xto_trans {w w1 w2 : World} {B y g g1 : Nat} {s2 : List UInt8 × Int} (ho : Only [y, g] w w1) (hg : g1 = g ∨ w.heap.size ≤ g1) (h : XTo w1 B y g1 w2 s2) : XTo w B y g w2 s2 := by
  obtain ⟨g2, h2, h3, h4⟩ := h
  refine ⟨g2, h2, ?_, ho.trans h4 (fun x hx => ?_)⟩
  · have := ho.size
    omega
  · simp at hx ⊢
    omega

/-- What the second writer is when l was appended. -/
theorem XW.appended {w w1 : World} {B y : Nat} {ao ao' : Option Addr} {cap cap' : Nat} {out l : List UInt8} {err : Int} (h : XW w B y ao cap out err) (hown : w1.ownsRow B 5 1 (.slice ao' (out.length + l.length) cap') (out.length + l.length) (bcs out ++ bcs l))
    (hg : w.grownBy w1 (Value.ownBlock (.slice ao out.length cap))) (hao : ∀ a, ao' = some a → (∃ a', ao = some a' ∧ a'.block = a.block) ∨ w.heap.size ≤ a.block) (hnn : ao' = none → ao = none) {w' : World}
    (hw : w1.setCell ⟨y, 0, none⟩ (.slice ao' (out.length + l.length) cap') = w') : XTo w B y (dataOf ao y) w' (out ++ l, err) := by
  have hl := h.lt
  have o1 : Only [dataOf ao y] w w1 := (Only.of_grown hg).mono (fun x hx => by
    cases ao with
    | none => simp [Value.ownBlock] at hx
    | some a => simp [Value.ownBlock] at hx; subst hx; exact .inl (by simp [dataOf]))
  have hblk : w1.heap[y]? = w.heap[y]? := by
    apply hg.block y hl
    cases ao with
    | none => simp [Value.ownBlock]
    | some a => simp [Value.ownBlock]; exact fun e => h.ne a rfl e.symm
  have k0 : w1.cell? ⟨y, 0, none⟩ = some (.slice ao out.length cap) := (World.cell?_of_block hblk).trans h.c0
  have k1 : w1.cell? ⟨y, 1, none⟩ = some (.int .i64 err) := (World.cell?_of_block hblk).trans h.c1
  have kf : ∀ j, w'.frozen? ⟨y, j, none⟩ = w.frozen? ⟨y, j, none⟩ := fun j => by rw [← hw, frozen_setCell]; exact World.frozen?_of_block hblk
  have o2 : Only [y] w1 w' := by
    rw [← hw]
    exact (Only.refl [y] w1).setCell (.inl (by simp)) _
  have hne : ∀ a, ao' = some a → a.block ≠ y := by
    intro a ha e
    rcases hao a ha with ⟨a', h1, h2⟩ | h1
    · exact h.ne a' h1 (by omega)
    · omega
  have hlen : (out ++ l).length = out.length + l.length := List.length_append
  refine ⟨dataOf ao' y, ⟨ao', cap', { c0 := ?_, c1 := ?_, f0 := (kf 0).trans h.f0, f1 := (kf 1).trans h.f1, own := ?_, ne := hne, ge := h.ge }, rfl⟩, ?_, ?_⟩
  · rw [← hw, hlen]
    exact cell_setCell_same _ _ k0
  · rw [← hw, cell_setCell_ne _ _ (by simp)]; exact k1
  · rw [hlen, bcs_append]
    exact ownb_only hown o2 (fun k hk => by
      cases ao' with
      | none => simp [Value.ownBlock] at hk
      | some a => simp [Value.ownBlock] at hk; subst hk; simpa using hne a rfl)
  · cases ao' with
    | none =>
      cases ao with
      | none => exact .inl rfl
      | some a => cases hnn rfl
    | some a =>
      rcases hao a rfl with ⟨a', rfl, h2⟩ | h1
      · exact .inl (by simp [dataOf, h2])
      · exact .inr h1
  · exact (o1.mono (fun x hx => .inl (by simp at hx; simp [hx]))).trans o2 (fun x hx => .inl (by simp at hx; simp [hx]))

/-- What the second writer is when its error was set. -/
theorem XWE.failed {w : World} {B y g : Nat} {s : List UInt8 × Int} (h : XWE w B y g s) (e : Int) : XTo w B y g (w.setCell ⟨y, 1, none⟩ (.int .i64 e)) (s.1, e) := by
  obtain ⟨ao, cap, h, rfl⟩ := h
  have ho : Only [y] w (w.setCell ⟨y, 1, none⟩ (.int .i64 e)) := (Only.refl [y] w).setCell (.inl (by simp)) _
  refine ⟨dataOf ao y, ⟨ao, cap, { c0 := by rw [cell_setCell_ne _ _ (by simp)]; exact h.c0, c1 := cell_setCell_same _ _ h.c1, f0 := (frozen_setCell _ _ _ _).trans h.f0, f1 := (frozen_setCell _ _ _ _).trans h.f1, own := ownb_only h.own ho (fun k hk => ?_), ne := h.ne, ge := h.ge }, rfl⟩, .inl rfl, ho.mono (fun x hx => .inl (by simp at hx; simp [hx]))⟩
  cases ao with
  | none => simp [Value.ownBlock] at hk
  | some a => simp [Value.ownBlock] at hk; subst hk; simpa using h.ne a rfl

/-- append, as a step of a region that draws its order. -/
theorem step_append_bytes {w : World} {ops : Array Oper} {o : Oper} {a : Act} {K : Act → World → Prop} {Q : Exit → Act → World → Prop} {E : Prop} (hg : o.guard = none) (s x : Operand)
    (hop : o.op = .call { callee := .builtin .append, args := #[s, x], argTypes := #[23, 23] })
    {B : Nat} {ao lao : Option Addr} {n cap lcap d : Nat} {xs : List Value} {ls : List UInt8} (hs : a.eval s = .slice ao n cap) (hx : a.eval x = .slice lao ls.length lcap) (hown : w.ownsRow B 5 1 (.slice ao n cap) n xs) (hb : BS w lao ls d) (hl : lao = none → lcap = 0)
    (hsz : n + ls.length ≤ 211106232532992) (hB : B ≤ w.heap.size)
    (h : ∀ ao' cap' w', w'.ownsRow B 5 1 (.slice ao' (n + ls.length) cap') (n + ls.length) (xs ++ bcs ls) → w.grownBy w' (Value.ownBlock (.slice ao n cap)) → (∀ a, ao' = some a → (∃ a', ao = some a' ∧ a'.block = a.block) ∨ w.heap.size ≤ a.block) → (ao' = none → ao = none) →
      K (a.put o.dst (.slice ao' (n + ls.length) cap')) w') : if Region.wanted o (yielded ops a.tmps) = true then Oper.wp Try.prog o a w K Q else E := by
  have hw : Region.wanted o (yielded ops a.tmps) = true := by simp [Region.wanted, hg]
  rw [if_pos hw]
  obtain ⟨ao', cap', w', hr, h1, h2, h3, h4⟩ := append_runC o.type hown hb hl hsz hB
  unfold Oper.wp execOp
  simp only [hop, resolve, invoke, builtin, Sem.run_bind, Sem.run_pure, Result.andThen_ok, List.map_toArray, List.map_cons, List.map_nil, hs, hx, hr]
  exact h ao' cap' w' h1 h2 h3 h4

theorem kept_cell {w w1 : World} {B y : Nat} {ao : Option Addr} {cap : Nat} {out : List UInt8} {err : Int} (h : XW w B y ao cap out err) (hg : w.grownBy w1 (Value.ownBlock (.slice ao out.length cap))) : w1.cell? ⟨y, 0, none⟩ = some (.slice ao out.length cap) ∧ w1.frozen? ⟨y, 0, none⟩ = false := by
  have hblk : w1.heap[y]? = w.heap[y]? := by
    apply hg.block y h.lt
    cases ao with
    | none => simp [Value.ownBlock]
    | some a => simp [Value.ownBlock]; exact fun e => h.ne a rfl e.symm
  exact ⟨(World.cell?_of_block hblk).trans h.c0, (World.frozen?_of_block hblk).trans h.f0⟩

theorem byte_at0 (x k : Nat) (h0 : 0 < k) : (x : Int) / 2 ^ (8 * (k - 1)) % 256 = ((UInt8.ofNat (x / 256 ^ (k - 1))).toNat : Int) := by
  rw [show 8 * (k - 1) = 8 * k - 8 by omega]
  exact byte_at x k h0

theorem shr_at (x k : Nat) (h : 0 < k) (h8 : k ≤ 8) (w : World) : (Op.shift .shr .u64 (x : Int) .i64 (IntKind.i64.wrap (8 * ((k : Int) - 1)))).run Try.prog w = .ok (.int .u64 ((x / 256 ^ (k - 1) : Nat) : Int)) w := by
  have e : IntKind.i64.wrap (8 * ((k : Int) - 1)) = ((8 * (k - 1) : Nat) : Int) := by rw [IntKind.wrap_i64]; omega
  have e2 : min (8 * (k - 1)) IntKind.u64.bits = 8 * (k - 1) := by
    have : IntKind.u64.bits = 64 := rfl
    omega
  have e3 : (2 : Nat) ^ (8 * (k - 1)) = 256 ^ (k - 1) := by
    rw [show (256 : Nat) = 2 ^ 8 by decide, ← Nat.pow_mul]
  have e4 : Int.fdiv (x : Int) (2 ^ (8 * (k - 1))) = ((x / 256 ^ (k - 1) : Nat) : Int) := by
    rw [← e3, Int.fdiv_eq_ediv_of_nonneg _ (Int.le_of_lt (Int.pow_pos (by decide)))]
    simp
  rw [e]
  unfold Op.shift
  rw [if_neg (by omega)]
  simp only [Int.toNat_natCast, e2, e4, Sem.run_pure]

set_option maxHeartbeats 1000000 in
theorem xput_ok {w : World} {B y g : Nat} {out : List UInt8} (h : XWE w B y g (out, 0)) (x : Nat) (_hx : x < 18446744073709551616) (m : Nat) (hm : m ≤ 8) (mi : Int) (hmi : mi = (m : Int)) (hsz : out.length + m ≤ 211106232532992) :
    Calls Try.prog 41 #[.pointer (some ⟨y, 0, none⟩), .int .u64 (x : Int), .int .i64 mi] w fun e w' => e = .returned (.tuple #[]) ∧ XTo w B y g w' (out ++ toBE x m, 0) := by
  subst hmi
  have h' := h
  obtain ⟨ao0, cap0, q0, _⟩ := h'
  have q1 := q0.c1
  go_enter Try.func41, Try.ntmps41
  go_wp2
  go_loopw [6] (fun i wr => ∃ k : Nat, k ≤ m ∧ i = .int .i64 ((k : Int) - 1) ∧ XTo w B y g wr (out ++ (toBE x m).take (m - k), 0)) (fun i _ => (intOf i + 1).toNat)
  case atStart => exact ⟨m, by omega, by go_num, by simpa using XTo.refl h⟩
  case round =>
    obtain ⟨k, hk, rfl, g', hw, hg', ho⟩ := hrel
    by_cases hlt : 0 < k
    · have hl2 : ((toBE x m).take (m - k)).length ≤ m - k := List.length_take_le _ _
      have HTK := hid (toBE_take x m k hlt hk)
      have hlen : (out ++ (toBE x m).take (m - k)).length ≤ out.length + (m - k) := by rw [List.length_append]; omega
      have hwl := hw.lt
      obtain ⟨ao, cap, hw, hgd⟩ := hw
      simp only at hw
      generalize hC : out ++ (toBE x m).take (m - k) = C at *
      have HC := hid hC
      clear hC
      have c0 := hw.c0
      have f0 := hw.f0
      have g1 : (0 : Int) ≤ (k : Int) - 1 := by omega
      go_wp2
      have hsh := shr_at x k hlt (by omega)
      have hV : IntKind.u8.wrap ((x : Int) / 256 ^ (k - 1)) = ((UInt8.ofNat (x / 256 ^ (k - 1))).toNat : Int) := by
        have e : ((x : Int) / 256 ^ (k - 1)) = ((x / 256 ^ (k - 1) : Nat) : Int) := by simp
        rw [e, IntKind.wrap_u8, UInt8.toNat_ofNat']
        omega
      have oa := ((Only.refl [] wr).alloc (.cells #[.int .u8 (IntKind.u8.wrap ((x : Int) / 256 ^ (k - 1)))] 5)).drew
      have hb := (bs_one wr (UInt8.ofNat (x / 256 ^ (k - 1))) _ hV).only ((Only.refl [] _).drew) (by simp)
      obtain ⟨ao', cap', hwd, hgd'⟩ : XWE _ B y g' (C, 0) := (show XWE wr B y g' (C, 0) from ⟨ao, cap, hw, hgd⟩).only oa (by simp) (by simp)
      simp only at hwd
      have hsame : Value.slice ao C.length cap = Value.slice ao' C.length cap' := by
        have q := (oa.cell (p := ⟨y, 0, none⟩) (by simpa using hw.lt) (by simp)).trans c0
        have q2 := hwd.c0
        rw [q] at q2
        exact Option.some.inj q2
      obtain ⟨rfl, _, rfl⟩ := Value.slice.inj hsame
      have HWD := hid hwd
      have HV := hid hV
      have OA := hid oa
      have HBB := hid hb
      clear hV oa hb hwd hsame hgd'
      go_region_law (refine step_append_bytes rfl (.tmp 22) (.tmp 28) rfl rfl rfl HWD.out.own HBB.out (by simp) (by simp; omega) (by simp; omega) ?_; intro ao3 cap3 w3 hown3 hgr3 hao3 hnn3; obtain ⟨hc3, hf3⟩ := kept_cell HWD.out hgr3)
      all_goals
        have hto := HWD.out.appended hown3 hgr3 hao3 hnn3 rfl
        have ee : C ++ [UInt8.ofNat (x / 256 ^ (k - 1))] = out ++ (toBE x m).take (m - (k - 1)) := by rw [← HC.out, List.append_assoc, HTK.out]
        rw [hgd, ee] at hto
        clear ee
        go_wp2
        exact ⟨⟨k - 1, by omega, by congr 1; omega, xto_trans (ho.next OA.out (by simp)) hg' hto⟩, by simp [intOf]; omega⟩
    · have : k = 0 := by omega
      subst this
      go_wp2
      go_end0
      refine ⟨rfl, g', ?_, hg', ho⟩
      rw [List.take_of_length_le (by rw [toBE_length]; omega)] at hw
      exact hw

theorem xput_err {w : World} {B y g : Nat} {s : List UInt8 × Int} (h : XWE w B y g s) (he : (s.2 != 0) = true) (x : Nat) (mi : Int) :
    Calls Try.prog 41 #[.pointer (some ⟨y, 0, none⟩), .int .u64 (x : Int), .int .i64 mi] w fun e w' => e = .returned (.tuple #[]) ∧ w = w' := by
  obtain ⟨ao, cap, ⟨c0, c1, f0, f1, own, ne, ge⟩, _⟩ := h
  go_enter Try.func41, Try.ntmps41
  go_wp2
  refine bodyPost_ret (results_none rfl _ _ _) rfl ?_
  exact ⟨rfl, rfl⟩

/-- Whatever the second writer: put. -/
theorem xput_any {w : World} {B y g : Nat} {s : List UInt8 × Int} (h : XWE w B y g s) (x : Nat) (hx : x < 18446744073709551616) (m : Nat) (hm : m ≤ 8) (mi : Int) (hmi : mi = (m : Int)) (hsz : s.1.length + m ≤ 211106232532992) :
    Calls Try.prog 41 #[.pointer (some ⟨y, 0, none⟩), .int .u64 (x : Int), .int .i64 mi] w fun e w' => e = .returned (.tuple #[]) ∧ XTo w B y g w' (wPut s (toBE x m)) := by
  obtain ⟨out, err⟩ := s
  by_cases he : err = 0
  · subst he
    have e : wPut (out, 0) (toBE x m) = (out ++ toBE x m, 0) := by simp [wPut]
    rw [e]
    exact xput_ok h x hx m hm mi hmi hsz
  · have e : wPut (out, err) (toBE x m) = (out, err) := by simp [wPut, he]
    rw [e]
    refine (xput_err h (by simpa using he) x mi).mono ?_
    rintro e w' ⟨rfl, rfl⟩
    exact ⟨rfl, XTo.refl h⟩

end Go.Proofs.Ytmghmmkjcgopaaa