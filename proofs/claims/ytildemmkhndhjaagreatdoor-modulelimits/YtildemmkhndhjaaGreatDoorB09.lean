/-
  What the proof leans on, part 9 of 23. The conditions stand in each theorem.
-/
import Derived.Test.YtildemmkhndhjaaGreatDoorB08
import Derived.BigQuiet
import Derived.Lib.ConvBytes
namespace Go.Proofs.YtildemmkhndhjaaGreatDoor
open Go.RowKit

/-- A writer in block p: what was written, its error; its bytes lie in a block of its own, not below B. -/
structure Wr (w : World) (B p : Nat) (ao : Option Addr) (cap : Nat) (out : List UInt8) (err : Int) : Prop where
  c0 : w.cell? ⟨p, 0, none⟩ = some (.int .i64 (out.length : Int))
  c1 : w.cell? ⟨p, 1, none⟩ = some (.int .i64 err)
  c2 : w.cell? ⟨p, 2, none⟩ = some (.slice ao out.length cap)
  f0 : w.frozen? ⟨p, 0, none⟩ = false
  f1 : w.frozen? ⟨p, 1, none⟩ = false
  f2 : w.frozen? ⟨p, 2, none⟩ = false
  own : w.ownsRow B 5 1 (.slice ao out.length cap) out.length (bcs out)
  ne : ∀ a, ao = some a → a.block ≠ p
  ge : B ≤ p

/-- A writer, its bytes in block g (p, if it has none). -/
def WrE (w : World) (B p g : Nat) (s : List UInt8 × Int) : Prop := ∃ ao cap, Wr w B p ao cap s.1 s.2 ∧ dataOf ao p = g

theorem Wr.lt {w : World} {B p : Nat} {ao : Option Addr} {cap : Nat} {out : List UInt8} {err : Int} (h : Wr w B p ao cap out err) : p < w.heap.size := World.block_lt_of_cell? w _ h.c0

theorem WrE.lt {w : World} {B p g : Nat} {s : List UInt8 × Int} (h : WrE w B p g s) : p < w.heap.size ∧ g < w.heap.size ∧ B ≤ p ∧ B ≤ g := by
  obtain ⟨ao, cap, h, rfl⟩ := h
  have hp := h.lt
  refine ⟨hp, ?_, h.ge, ?_⟩
  · cases ao with
    | none => exact hp
    | some a => exact (h.own.lt a.block rfl).2
  · cases ao with
    | none => exact h.ge
    | some a => exact (h.own.lt a.block rfl).1

theorem WrE.only {w w' : World} {S : List Nat} {B p g : Nat} {s : List UInt8 × Int} (h : WrE w B p g s) (ho : Only S w w') (hp : p ∉ S) (hg : g ∉ S) : WrE w' B p g s := by
  obtain ⟨ao, cap, h, rfl⟩ := h
  have hl := h.lt
  refine ⟨ao, cap, { c0 := (ho.cell (p := ⟨p, 0, none⟩) hl hp).trans h.c0, c1 := (ho.cell (p := ⟨p, 1, none⟩) hl hp).trans h.c1, c2 := (ho.cell (p := ⟨p, 2, none⟩) hl hp).trans h.c2,
                     f0 := (ho.frozen (p := ⟨p, 0, none⟩) hl hp).trans h.f0, f1 := (ho.frozen (p := ⟨p, 1, none⟩) hl hp).trans h.f1, f2 := (ho.frozen (p := ⟨p, 2, none⟩) hl hp).trans h.f2,
                     own := ownb_only h.own ho (fun k hk => ?_), ne := h.ne, ge := h.ge }, rfl⟩
  cases ao with
  | none => simp [Value.ownBlock] at hk
  | some a =>
    simp [Value.ownBlock] at hk
    subst hk
    exact hg

/-- From w on to w' a writer came to be s'; nothing else has turned. -/
def WTo (w : World) (B p g : Nat) (w' : World) (s' : List UInt8 × Int) : Prop := ∃ g', WrE w' B p g' s' ∧ (g' = g ∨ w.heap.size ≤ g') ∧ Only [p, g] w w'

theorem WTo.refl {w : World} {B p g : Nat} {s : List UInt8 × Int} (h : WrE w B p g s) : WTo w B p g w s := ⟨g, h, .inl rfl, Only.refl _ _⟩

theorem wto_trans {w w1 w2 : World} {B p g g1 : Nat} {s2 : List UInt8 × Int} (ho : Only [p, g] w w1) (hg : g1 = g ∨ w.heap.size ≤ g1) (h : WTo w1 B p g1 w2 s2) : WTo w B p g w2 s2 := by
  obtain ⟨g2, h2, h3, h4⟩ := h
  refine ⟨g2, h2, ?_, ho.trans h4 (fun x hx => ?_)⟩
  · have := ho.size
    omega
  · simp at hx ⊢
    omega

/-- What put does. -/
def wPut (s : List UInt8 × Int) (l : List UInt8) : List UInt8 × Int := if s.2 = 0 then (s.1 ++ l, 0) else s

/-- What a writer is when l was appended: v', w1 behind the append. -/
theorem Wr.appended {w w1 : World} {B p : Nat} {ao ao' : Option Addr} {cap cap' : Nat} {out l : List UInt8} (h : Wr w B p ao cap out 0) (hown : w1.ownsRow B 5 1 (.slice ao' (out.length + l.length) cap') (out.length + l.length) (bcs out ++ bcs l))
    (hg : w.grownBy w1 (Value.ownBlock (.slice ao out.length cap))) (hao : ∀ a, ao' = some a → (∃ a', ao = some a' ∧ a'.block = a.block) ∨ w.heap.size ≤ a.block) (hnn : ao' = none → ao = none) (w' : World)
    (hw : (w1.setCell ⟨p, 2, none⟩ (.slice ao' (out.length + l.length) cap')).setCell ⟨p, 0, none⟩ (.int .i64 ((out.length + l.length : Nat) : Int)) = w') :
    WTo w B p (dataOf ao p) w' (out ++ l, 0) := by
  have hl := h.lt
  have o1 : Only [dataOf ao p] w w1 := (Only.of_grown hg).mono (fun x hx => by
    cases ao with
    | none => simp [Value.ownBlock] at hx
    | some a => simp [Value.ownBlock] at hx; subst hx; exact .inl (by simp [dataOf]))
  have hpn : ao ≠ none → p ≠ dataOf ao p := by
    intro hn
    cases ao with
    | none => exact absurd rfl hn
    | some a => exact fun e => h.ne a rfl e.symm
  have hblk : w1.heap[p]? = w.heap[p]? := by
    apply hg.block p hl
    cases ao with
    | none => simp [Value.ownBlock]
    | some a => simp [Value.ownBlock]; exact fun e => h.ne a rfl e.symm
  have k0 : w1.cell? ⟨p, 0, none⟩ = some (.int .i64 (out.length : Int)) := (World.cell?_of_block hblk).trans h.c0
  have k1 : w1.cell? ⟨p, 1, none⟩ = some (.int .i64 0) := (World.cell?_of_block hblk).trans h.c1
  have k2 : w1.cell? ⟨p, 2, none⟩ = some (.slice ao out.length cap) := (World.cell?_of_block hblk).trans h.c2
  have kf : ∀ j, w'.frozen? ⟨p, j, none⟩ = w.frozen? ⟨p, j, none⟩ := fun j => by rw [← hw, frozen_setCell, frozen_setCell]; exact World.frozen?_of_block hblk
  have o2 : Only [p] w1 w' := by
    rw [← hw]
    exact ((Only.refl [p] w1).setCell (.inl (by simp)) _).setCell (.inl (by simp)) _
  have hne : ∀ a, ao' = some a → a.block ≠ p := by
    intro a ha e
    rcases hao a ha with ⟨a', h1, h2⟩ | h1
    · exact h.ne a' h1 (by omega)
    · omega
  have hlen : (out ++ l).length = out.length + l.length := List.length_append
  refine ⟨dataOf ao' p, ⟨ao', cap', { c0 := ?_, c1 := ?_, c2 := ?_, f0 := (kf 0).trans h.f0, f1 := (kf 1).trans h.f1, f2 := (kf 2).trans h.f2, own := ?_, ne := hne, ge := h.ge }, rfl⟩, ?_, ?_⟩
  · rw [← hw, hlen]
    exact cell_setCell_same _ _ ((cell_setCell_ne w1 _ (by simp)).trans k0)
  · rw [← hw, cell_setCell_ne _ _ (by simp), cell_setCell_ne _ _ (by simp)]; exact k1
  · rw [← hw, hlen, cell_setCell_ne _ _ (by simp)]; exact cell_setCell_same _ _ k2
  · rw [hlen, bcs_append]
    exact ownb_only hown o2 (fun k hk => by
      cases ao' with
      | none => simp [Value.ownBlock] at hk
      | some a => simp [Value.ownBlock] at hk; subst hk; simpa using hne a rfl)
  · cases ao' with
    | none =>
      cases ao with
      | none => exact .inl rfl
      | some a => cases hnn rfl
    | some a =>
      rcases hao a rfl with ⟨a', rfl, h2⟩ | h1
      · exact .inl (by simp [dataOf, h2])
      · exact .inr h1
  · exact (o1.mono (fun x hx => .inl (by simp at hx; simp [hx]))).trans o2 (fun x hx => .inl (by simp at hx; simp [hx]))

set_option maxHeartbeats 400000 in
theorem put_any {w : World} {B p g : Nat} {s : List UInt8 × Int} (h : WrE w B p g s) {lao : Option Addr} {lcap d : Nat} {ls : List UInt8} (hb : BS w lao ls d) (hl : lao = none → lcap = 0) (hsz : s.1.length + ls.length ≤ 211106232532992) :
    Calls Tryz.prog 127 #[.pointer (some ⟨p, 0, none⟩), .slice lao ls.length lcap] w fun e w' => e = .returned (.tuple #[]) ∧ WTo w B p g w' (wPut s ls) := by
  obtain ⟨out, err⟩ := s
  obtain ⟨ao, cap, h, rfl⟩ := h
  simp only at h hsz
  by_cases he : err = 0
  · subst he
    have e : wPut (out, 0) ls = (out ++ ls, 0) := by simp [wPut]
    rw [e]
    have H := hid h
    obtain ⟨c0, c1, c2, f0, f1, f2, own, ne, ge⟩ := h
    have hpl := H.out.lt
    go_enter Tryz.func127, Tryz.ntmps127
    go_wp2_with (first | (go_at_call 63; refine (fine_any p 0 _ (by assumption)).mono ?_; rintro e w' ⟨rfl, rfl⟩) | (at_builtin; refine wpList_append_bytes rfl (.tmp 12) (.tmp 13) rfl rfl rfl own hb hl (by omega) (by omega) ?_))
    intro ao' cap' w1 hown hgr hao hnn
    have hblk : w1.heap[p]? = w.heap[p]? := by
      apply hgr.block p hpl
      cases ao with
      | none => simp [Value.ownBlock]
      | some a => simp [Value.ownBlock]; exact fun e => ne a rfl e.symm
    have k0 : w1.cell? ⟨p, 0, none⟩ = some (.int .i64 (out.length : Int)) := (World.cell?_of_block hblk).trans c0
    have k2 : w1.cell? ⟨p, 2, none⟩ = some (.slice ao out.length cap) := (World.cell?_of_block hblk).trans c2
    have kf0 : w1.frozen? ⟨p, 0, none⟩ = false := (World.frozen?_of_block hblk).trans f0
    have kf2 : w1.frozen? ⟨p, 2, none⟩ = false := (World.frozen?_of_block hblk).trans f2
    clear hblk
    go_wp2_with (go_at_call 172; refine (move_any p out.length ls.length _ (by go_simp) (by go_simp) (by omega)).mono ?_; rintro e w' ⟨rfl, hw⟩)
    go_end0
    exact ⟨rfl, H.out.appended hown hgr hao hnn _ hw⟩
  · have e : wPut (out, err) ls = (out, err) := by simp [wPut, he]
    rw [e]
    have H := hid h
    obtain ⟨c0, c1, c2, f0, f1, f2, own, ne, ge⟩ := h
    have he' : (err == 0) = false := by simpa using he
    clear he
    go_enter Tryz.func127, Tryz.ntmps127
    go_wp2_with (go_at_call 63; refine (fine_any p err _ (by assumption)).mono ?_; rintro e w' ⟨rfl, rfl⟩)
    go_end0
    exact ⟨rfl, WTo.refl ⟨ao, cap, H.out, rfl⟩⟩

end Go.Proofs.YtildemmkhndhjaaGreatDoor
namespace Go.Proofs.YtildemmkhndhjaaGreatDoor
open Go.RowKit

/-- A number in k bytes, the highest first. -/
def toBE (n : Nat) : Nat → List UInt8
  | 0 => []
  | k + 1 => UInt8.ofNat (n / 256 ^ k) :: toBE n k

theorem toBE_length (n k : Nat) : (toBE n k).length = k := by
  induction k with
  | zero => rfl
  | succ k ih => simp [toBE, ih]

theorem wPut_nil (s : List UInt8 × Int) : wPut s [] = s := by
  obtain ⟨a, b⟩ := s
  unfold wPut
  split
  · rename_i h; simp at h; simp [h]
  · rfl

theorem wPut_wPut (s : List UInt8 × Int) (a b : List UInt8) : wPut (wPut s a) b = wPut s (a ++ b) := by
  unfold wPut
  by_cases h : s.2 = 0 <;> simp [h]

theorem wPut_len (s : List UInt8 × Int) (a : List UInt8) : (wPut s a).1.length ≤ s.1.length + a.length := by
  unfold wPut
  split <;> simp

theorem toBE_get (x m k : Nat) (h0 : 0 < k) (h : k ≤ m) : (toBE x m)[m - k]? = some (UInt8.ofNat (x / 256 ^ (k - 1))) := by
  induction m with
  | zero => omega
  | succ m ih =>
    by_cases e : k = m + 1
    · subst e
      simp [toBE]
    · rw [show m + 1 - k = (m - k) + 1 by omega]
      simp only [toBE, List.getElem?_cons_succ]
      exact ih (by omega)

theorem toBE_take (x m k : Nat) (h0 : 0 < k) (h : k ≤ m) : (toBE x m).take (m - k) ++ [UInt8.ofNat (x / 256 ^ (k - 1))] = (toBE x m).take (m - (k - 1)) := by
  have hg := toBE_get x m k h0 h
  have hl : m - k < (toBE x m).length := by rw [toBE_length]; omega
  rw [show m - (k - 1) = (m - k) + 1 by omega, List.take_succ_eq_append_getElem hl]
  rw [List.getElem?_eq_getElem hl] at hg
  rw [Option.some.inj hg]

theorem byte_at (x k : Nat) (h0 : 0 < k) : (x : Int) / 2 ^ (8 * k - 8) % 256 = ((UInt8.ofNat (x / 256 ^ (k - 1))).toNat : Int) := by
  have e : (2 : Nat) ^ (8 * k - 8) = 256 ^ (k - 1) := by
    rw [show (256 : Nat) = 2 ^ 8 by decide, ← Nat.pow_mul]
    congr 1
    omega
  have e2 : (x : Int) / 2 ^ (8 * k - 8) = ((x / 256 ^ (k - 1) : Nat) : Int) := by
    rw [← e]
    simp
  rw [e2, UInt8.toNat_ofNat']
  simp

theorem bs_one (w : World) (b : UInt8) (v : Int) (h : v = (b.toNat : Int)) : BS (w.alloc (.cells #[.int .u8 v] 5)) (some ⟨w.heap.size, 0, none⟩) [b] w.heap.size := by
  subst h
  refine .inr ⟨0, rfl, fun j hj => ?_⟩
  have : j = 0 := by simpa using hj
  subst this
  rw [cell_new]
  rfl

set_option maxHeartbeats 400000 in
theorem wnumber_any {w : World} {B p g : Nat} {s : List UInt8 × Int} (h : WrE w B p g s) (x : Nat) (_hx : x < 18446744073709551616) (m : Nat) (hm : m ≤ 8) (mi : Int) (hmi : mi = (m : Int)) (hsz : s.1.length + m ≤ 211106232532992) :
    Calls Tryz.prog 173 #[.pointer (some ⟨p, 0, none⟩), .int .u64 (x : Int), .int .i64 mi] w fun e w' => e = .returned (.tuple #[]) ∧ WTo w B p g w' (wPut s (toBE x m)) := by
  subst hmi
  go_enter Tryz.func173, Tryz.ntmps173
  go_wp2
  go_loopw [6] (fun i wr => ∃ k : Nat, k ≤ m ∧ i = .int .i64 (8 * (k : Int) - 8) ∧ WTo w B p g wr (wPut s ((toBE x m).take (m - k)))) (fun i _ => (intOf i + 8).toNat)
  case atStart => exact ⟨m, by omega, by go_num, by simpa [wPut_nil] using WTo.refl h⟩
  case round =>
    obtain ⟨k, hk, rfl, g', hw, hg', ho⟩ := hrel
    by_cases hlt : 0 < k
    · have hb := byte_at x k hlt
      have HB := hid (bs_one wr (UInt8.ofNat (x / 256 ^ (k - 1))) _ hb)
      have hw' := hid (hw.only ((Only.refl [] wr).alloc (.cells #[.int .u8 ((x : Int) / 2 ^ (8 * k - 8) % 256)] 5)) (by simp) (by simp))
      have hl := wPut_len s ((toBE x m).take (m - k))
      have hl2 : ((toBE x m).take (m - k)).length ≤ m - k := List.length_take_le _ _
      have HP := hid (put_any hw'.out HB.out (lcap := 1) (by simp) (by simp only [List.length_singleton]; omega))
      clear hb
      have h8 : (8 : Int) ≤ 8 * (k : Int) := by omega
      go_wp2_with (go_at_call 127; refine HP.out.mono ?_; rintro e w2 ⟨rfl, hto⟩)
      refine ⟨⟨k - 1, by omega, ?_, ?_⟩, ?_⟩
      · congr 1
        omega
      · rw [wPut_wPut, toBE_take x m k hlt hk] at hto
        exact wto_trans (ho.alloc _) hg' hto
      · simp [intOf]
        omega
    · have : k = 0 := by omega
      subst this
      go_wp2
      go_end0
      refine ⟨rfl, g', ?_, hg', ho⟩
      rw [List.take_of_length_le (by rw [toBE_length]; omega)] at hw
      exact hw

end Go.Proofs.YtildemmkhndhjaaGreatDoor
namespace Go.Proofs.YtildemmkhndhjaaGreatDoor
open Go.RowKit

/-- Where the numbers of a slice lie that is read. -/
def NX (k : IntKind) (w : World) (ao : Option Addr) (ns : List Int) (d : Nat) : Prop :=
  ns = [] ∨ ∃ off, ao = some ⟨d, off, none⟩ ∧ ∀ j (h : j < ns.length), w.cell? ⟨d, off + j, none⟩ = some (.int k ns[j])

theorem NX.only {k : IntKind} {w w' : World} {S : List Nat} {ao : Option Addr} {ns : List Int} {d : Nat} (h : NX k w ao ns d) (ho : Only S w w') (hn : ns ≠ [] → d ∉ S) : NX k w' ao ns d := by
  rcases h with h | ⟨off, ha, hc⟩
  · exact .inl h
  · by_cases hb : ns = []
    · exact .inl hb
    have hd := hn hb
    exact .inr ⟨off, ha, fun j hj => by rw [ho.cell (World.block_lt_of_cell? w _ (hc j hj)) hd]; exact hc j hj⟩

theorem NX.lt {k : IntKind} {w : World} {ao : Option Addr} {ns : List Int} {d : Nat} (h : NX k w ao ns d) (hn : ns ≠ []) : d < w.heap.size := by
  rcases h with h | ⟨off, _, hc⟩
  · exact absurd h hn
  · have h0 : 0 < ns.length := List.length_pos_iff.2 hn
    exact World.block_lt_of_cell? w _ (hc 0 h0)

/-- What U1, U2 do with one number. -/
def wOne (size : Nat) (s : List UInt8 × Int) (n : Int) : List UInt8 × Int := if s.2 = 0 then (if n < 0 ∨ (256 : Int) ^ size ≤ n then (s.1, 1) else (s.1 ++ toBE n.toNat size, 0)) else s
def wAll (size : Nat) (s : List UInt8 × Int) (l : List Int) : List UInt8 × Int := l.foldl (wOne size) s

theorem wAll_err (size : Nat) (s : List UInt8 × Int) (h : s.2 ≠ 0) (l : List Int) : wAll size s l = s := by
  induction l with
  | nil => rfl
  | cons n l ih =>
    have : wOne size s n = s := by simp [wOne, h]
    simp only [wAll, List.foldl_cons, this]
    exact ih

theorem wAll_take_succ (size : Nat) (s : List UInt8 × Int) (l : List Int) (k : Nat) (h : k < l.length) : wAll size s (l.take (k + 1)) = wOne size (wAll size s (l.take k)) l[k] := by
  rw [List.take_succ_eq_append_getElem h]
  simp only [wAll, List.foldl_append, List.foldl_cons, List.foldl_nil]

theorem wAll_split (size : Nat) (s : List UInt8 × Int) (l : List Int) (k : Nat) : wAll size s l = wAll size (wAll size s (l.take k)) (l.drop k) := by
  conv => lhs; rw [← List.take_append_drop k l]
  simp only [wAll, List.foldl_append]

theorem wOne_len (size : Nat) (s : List UInt8 × Int) (n : Int) : (wOne size s n).1.length ≤ s.1.length + size := by
  unfold wOne
  split
  · split
    · simp
    · simp [toBE_length]
  · simp

theorem wAll_len (size : Nat) (s : List UInt8 × Int) (l : List Int) : (wAll size s l).1.length ≤ s.1.length + size * l.length := by
  induction l generalizing s with
  | nil => simp [wAll]
  | cons n l ih =>
    have h1 := ih (wOne size s n)
    have h2 := wOne_len size s n
    simp only [wAll, List.foldl_cons, List.length_cons] at h1 ⊢
    rw [Nat.mul_succ]
    omega

theorem wOne_ok (size : Nat) (s : List UInt8 × Int) (n : Int) (h : ¬ (n < 0 ∨ (256 : Int) ^ size ≤ n)) : wOne size s n = wPut s (toBE n.toNat size) := by
  unfold wOne wPut
  rw [if_neg h]

/-- What a writer is when its error was set. -/
theorem WrE.failed {w : World} {B p g : Nat} {s : List UInt8 × Int} (h : WrE w B p g s) (x : Int) (w' : World) (hw : w.setCell ⟨p, 1, none⟩ (.int .i64 x) = w') : WTo w B p g w' (s.1, x) := by
  obtain ⟨ao, cap, h, rfl⟩ := h
  have ho : Only [p] w w' := by
    rw [← hw]
    exact (Only.refl [p] w).setCell (.inl (by simp)) _
  have hf : ∀ a, w'.frozen? a = w.frozen? a := fun a => by rw [← hw, frozen_setCell]
  refine ⟨dataOf ao p, ⟨ao, cap, { c0 := by rw [← hw, cell_setCell_ne _ _ (by simp)]; exact h.c0, c1 := by rw [← hw]; exact cell_setCell_same _ _ h.c1, c2 := by rw [← hw, cell_setCell_ne _ _ (by simp)]; exact h.c2, f0 := (hf _).trans h.f0, f1 := (hf _).trans h.f1, f2 := (hf _).trans h.f2, own := ownb_only h.own ho (fun k hk => ?_), ne := h.ne, ge := h.ge }, rfl⟩, .inl rfl, ho.mono (fun x hx => .inl (by simp at hx; simp [hx]))⟩
  cases ao with
  | none => simp [Value.ownBlock] at hk
  | some a => simp [Value.ownBlock] at hk; subst hk; simpa using h.ne a rfl

/-- fail, whatever the writer's error. -/
theorem wfail_any {w : World} {B p g : Nat} {s : List UInt8 × Int} (h : WrE w B p g s) (x : Int) :
    Calls Tryz.prog 135 #[.pointer (some ⟨p, 0, none⟩), .int .i64 x] w fun e w' => e = .returned (.tuple #[]) ∧ WTo w B p g w' (s.1, if s.2 = 0 then x else s.2) := by
  have h' := h
  obtain ⟨ao, cap, q, _⟩ := h'
  by_cases he : s.2 = 0
  · rw [if_pos he]
    refine (fail_new p x w (by rw [q.c1, he]) q.f1).mono ?_
    rintro e w' ⟨rfl, hw⟩
    exact ⟨rfl, h.failed x w' hw⟩
  · rw [if_neg he]
    refine (fail_old p x s.2 w (by simpa using he) q.c1).mono ?_
    rintro e w' ⟨rfl, rfl⟩
    exact ⟨rfl, WTo.refl h⟩

set_option maxHeartbeats 800000 in
set_option maxRecDepth 100000 in
theorem counts1 {w : World} {B p g : Nat} {s : List UInt8 × Int} (h : WrE w B p g s) {lao : Option Addr} {lcap d : Nat} {ns : List Int} (hb : NX .i64 w lao ns d) (hd : ns ≠ [] → d ∉ [p, g]) (hsz : s.1.length + 1 * ns.length ≤ 211106232532992) :
    Calls Tryz.prog 128 #[.pointer (some ⟨p, 0, none⟩), .int .i64 1, .slice lao ns.length lcap] w fun e w' => e = .returned (.tuple #[]) ∧ WTo w B p g w' (wAll 1 s ns) := by
  go_enter Tryz.func128, Tryz.ntmps128
  go_wp2
  go_loopw [10] (fun i wr => ∃ k : Nat, k ≤ ns.length ∧ i = .int .i64 (k : Int) ∧ WTo w B p g wr (wAll 1 s (ns.take k))) (fun i _ => ns.length - (intOf i).toNat)
  case atStart => exact ⟨0, by omega, rfl, by simpa [wAll] using WTo.refl h⟩
  case round =>
    obtain ⟨k, hk, rfl, g', hw, hg', ho⟩ := hrel
    by_cases hlt : k < ns.length
    · have hne : ns ≠ [] := by intro e; simp [e] at hlt
      have hb' := hb.only ho hd
      rcases hb' with hb' | ⟨off, rfl, hc⟩
      · exact absurd hb' hne
      have hck := hc k hlt
      have hsucc := wAll_take_succ 1 s ns k hlt
      have hll := wAll_len 1 s (ns.take k)
      have hll2 : (ns.take k).length ≤ k := List.length_take_le _ _
      have hsplit := wAll_split 1 s ns (k + 1)
      rw [hsucc] at hsplit
      generalize ns[k] = n at *
      generalize wAll 1 s (ns.take k) = t at *
      have Hsucc := hid hsucc
      have Hsplit := hid hsplit
      clear hc hsucc hsplit hb hd hne
      by_cases hbad : n < 0 ∨ (256 : Int) ^ 1 ≤ n
      · have hone : wOne 1 t n = (t.1, if t.2 = 0 then 1 else t.2) := by
          unfold wOne
          by_cases ht : t.2 = 0
          · rw [if_pos ht, if_pos hbad, if_pos ht]
          · rw [if_neg ht, if_neg ht]
        have hend : wAll 1 s ns = (t.1, if t.2 = 0 then 1 else t.2) := by
          rw [Hsplit.out, hone]
          apply wAll_err
          simp only
          split
          · decide
          · assumption
        have HE := hid hend
        have HF := hid (wfail_any hw 1)
        clear Hsucc Hsplit hone hend
        by_cases hneg : n < 0
        · clear hbad
          go_wp2_with (go_at_call 135; refine HF.out.mono ?_; rintro e w2 ⟨rfl, hto⟩)
          refine bodyPost_ret (results_none rfl _ _ _) rfl ?_
          exact ⟨rfl, by rw [HE.out]; exact wto_trans ho hg' hto⟩
        · have hbig : (256 : Int) ≤ n := hbad.resolve_left hneg
          clear hbad
          go_wp2_with (go_at_call 135; refine HF.out.mono ?_; rintro e w2 ⟨rfl, hto⟩)
          refine bodyPost_ret (results_none rfl _ _ _) rfl ?_
          exact ⟨rfl, by rw [HE.out]; exact wto_trans ho hg' hto⟩
      · have hone := wOne_ok 1 t n hbad
        rw [hone] at Hsucc
        have hneg : ¬ n < 0 := fun e => hbad (.inl e)
        have hbig : ¬ (256 : Int) ≤ n := fun e => hbad (.inr e)
        obtain ⟨m, rfl⟩ := Int.eq_ofNat_of_zero_le (by omega : 0 ≤ n)
        rw [Int.toNat_natCast] at Hsucc
        clear Hsplit hone hbad
        have hmb : m < 256 := by omega
        have HN := hid (wnumber_any hw m (by omega) 1 (by decide) 1 rfl (by omega))
        go_wp2_with (go_at_call 173; refine HN.out.mono ?_; rintro e w2 ⟨rfl, hto⟩)
        refine ⟨⟨k + 1, by omega, by go_num, ?_⟩, by simp [intOf]; omega⟩
        rw [Hsucc.out]
        exact wto_trans ho hg' hto
    · go_wp2
      go_end0
      refine ⟨rfl, g', ?_, hg', ho⟩
      rw [List.take_of_length_le (by omega)] at hw
      exact hw

set_option maxHeartbeats 800000 in
set_option maxRecDepth 100000 in
theorem counts2 {w : World} {B p g : Nat} {s : List UInt8 × Int} (h : WrE w B p g s) {lao : Option Addr} {lcap d : Nat} {ns : List Int} (hb : NX .i64 w lao ns d) (hd : ns ≠ [] → d ∉ [p, g]) (hsz : s.1.length + 2 * ns.length ≤ 211106232532992) :
    Calls Tryz.prog 128 #[.pointer (some ⟨p, 0, none⟩), .int .i64 2, .slice lao ns.length lcap] w fun e w' => e = .returned (.tuple #[]) ∧ WTo w B p g w' (wAll 2 s ns) := by
  go_enter Tryz.func128, Tryz.ntmps128
  go_wp2
  go_loopw [10] (fun i wr => ∃ k : Nat, k ≤ ns.length ∧ i = .int .i64 (k : Int) ∧ WTo w B p g wr (wAll 2 s (ns.take k))) (fun i _ => ns.length - (intOf i).toNat)
  case atStart => exact ⟨0, by omega, rfl, by simpa [wAll] using WTo.refl h⟩
  case round =>
    obtain ⟨k, hk, rfl, g', hw, hg', ho⟩ := hrel
    by_cases hlt : k < ns.length
    · have hne : ns ≠ [] := by intro e; simp [e] at hlt
      have hb' := hb.only ho hd
      rcases hb' with hb' | ⟨off, rfl, hc⟩
      · exact absurd hb' hne
      have hck := hc k hlt
      have hsucc := wAll_take_succ 2 s ns k hlt
      have hll := wAll_len 2 s (ns.take k)
      have hll2 : (ns.take k).length ≤ k := List.length_take_le _ _
      have hsplit := wAll_split 2 s ns (k + 1)
      rw [hsucc] at hsplit
      generalize ns[k] = n at *
      generalize wAll 2 s (ns.take k) = t at *
      have Hsucc := hid hsucc
      have Hsplit := hid hsplit
      clear hc hsucc hsplit hb hd hne
      by_cases hbad : n < 0 ∨ (256 : Int) ^ 2 ≤ n
      · have hone : wOne 2 t n = (t.1, if t.2 = 0 then 1 else t.2) := by
          unfold wOne
          by_cases ht : t.2 = 0
          · rw [if_pos ht, if_pos hbad, if_pos ht]
          · rw [if_neg ht, if_neg ht]
        have hend : wAll 2 s ns = (t.1, if t.2 = 0 then 1 else t.2) := by
          rw [Hsplit.out, hone]
          apply wAll_err
          simp only
          split
          · decide
          · assumption
        have HE := hid hend
        have HF := hid (wfail_any hw 1)
        clear Hsucc Hsplit hone hend
        by_cases hneg : n < 0
        · clear hbad
          go_wp2_with (go_at_call 135; refine HF.out.mono ?_; rintro e w2 ⟨rfl, hto⟩)
          refine bodyPost_ret (results_none rfl _ _ _) rfl ?_
          exact ⟨rfl, by rw [HE.out]; exact wto_trans ho hg' hto⟩
        · have hbig : (65536 : Int) ≤ n := hbad.resolve_left hneg
          clear hbad
          go_wp2_with (go_at_call 135; refine HF.out.mono ?_; rintro e w2 ⟨rfl, hto⟩)
          refine bodyPost_ret (results_none rfl _ _ _) rfl ?_
          exact ⟨rfl, by rw [HE.out]; exact wto_trans ho hg' hto⟩
      · have hone := wOne_ok 2 t n hbad
        rw [hone] at Hsucc
        have hneg : ¬ n < 0 := fun e => hbad (.inl e)
        have hbig : ¬ (65536 : Int) ≤ n := fun e => hbad (.inr e)
        obtain ⟨m, rfl⟩ := Int.eq_ofNat_of_zero_le (by omega : 0 ≤ n)
        rw [Int.toNat_natCast] at Hsucc
        clear Hsplit hone hbad
        have hmb : m < 65536 := by omega
        have HN := hid (wnumber_any hw m (by omega) 2 (by decide) 2 rfl (by omega))
        go_wp2_with (go_at_call 173; refine HN.out.mono ?_; rintro e w2 ⟨rfl, hto⟩)
        refine ⟨⟨k + 1, by omega, by go_num, ?_⟩, by simp [intOf]; omega⟩
        rw [Hsucc.out]
        exact wto_trans ho hg' hto
    · go_wp2
      go_end0
      refine ⟨rfl, g', ?_, hg', ho⟩
      rw [List.take_of_length_le (by omega)] at hw
      exact hw

end Go.Proofs.YtildemmkhndhjaaGreatDoor
namespace Go.Proofs.YtildemmkhndhjaaGreatDoor
open Go.RowKit

theorem wu1_any {w : World} {B p g : Nat} {s : List UInt8 × Int} (h : WrE w B p g s) {lao : Option Addr} {lcap d : Nat} {ns : List Int} (hb : NX .i64 w lao ns d) (hd : ns ≠ [] → d ∉ [p, g]) (hsz : s.1.length + 1 * ns.length ≤ 211106232532992) :
    Calls Tryz.prog 61 #[.pointer (some ⟨p, 0, none⟩), .slice lao ns.length lcap] w fun e w' => e = .returned (.tuple #[]) ∧ WTo w B p g w' (wAll 1 s ns) := by
  have HC := hid (counts1 h hb hd hsz (lcap := lcap))
  go_enter Tryz.func61, Tryz.ntmps61
  go_wp2_with (go_at_call 128; refine HC.out.mono ?_; rintro e w2 ⟨rfl, hto⟩)
  go_end0
  exact ⟨rfl, hto⟩

theorem wu2_any {w : World} {B p g : Nat} {s : List UInt8 × Int} (h : WrE w B p g s) {lao : Option Addr} {lcap d : Nat} {ns : List Int} (hb : NX .i64 w lao ns d) (hd : ns ≠ [] → d ∉ [p, g]) (hsz : s.1.length + 2 * ns.length ≤ 211106232532992) :
    Calls Tryz.prog 59 #[.pointer (some ⟨p, 0, none⟩), .slice lao ns.length lcap] w fun e w' => e = .returned (.tuple #[]) ∧ WTo w B p g w' (wAll 2 s ns) := by
  have HC := hid (counts2 h hb hd hsz (lcap := lcap))
  go_enter Tryz.func59, Tryz.ntmps59
  go_wp2_with (go_at_call 128; refine HC.out.mono ?_; rintro e w2 ⟨rfl, hto⟩)
  go_end0
  exact ⟨rfl, hto⟩

theorem wbytes_any {w : World} {B p g : Nat} {s : List UInt8 × Int} (h : WrE w B p g s) {lao : Option Addr} {lcap d : Nat} {ls : List UInt8} (hb : BS w lao ls d) (hl : lao = none → lcap = 0) (hsz : s.1.length + ls.length ≤ 211106232532992) :
    Calls Tryz.prog 58 #[.pointer (some ⟨p, 0, none⟩), .slice lao ls.length lcap] w fun e w' => e = .returned (.tuple #[]) ∧ WTo w B p g w' (wPut s ls) := by
  have HC := hid (put_any h hb hl hsz)
  go_enter Tryz.func58, Tryz.ntmps58
  go_wp2_with (go_at_call 127; refine HC.out.mono ?_; rintro e w2 ⟨rfl, hto⟩)
  go_end0
  exact ⟨rfl, hto⟩

theorem wlen_any {w : World} {B p g : Nat} {s : List UInt8 × Int} (h : WrE w B p g s) :
    Calls Tryz.prog 26 #[.pointer (some ⟨p, 0, none⟩)] w fun e w' => e = .returned (.int .i64 (s.1.length : Int)) ∧ w = w' := by
  obtain ⟨ao, cap, ⟨c0, c1, c2, f0, f1, f2, own, ne, ge⟩, _⟩ := h
  go_enter Tryz.func26, Tryz.ntmps26
  go_wp2
  go_ret
  exact ⟨rfl, rfl⟩

/-- What Done answers. -/
def wDone (s : List UInt8 × Int) : List UInt8 := if s.2 = 0 then s.1 else []

set_option maxHeartbeats 400000 in
theorem wdone_any {w : World} {B p g : Nat} {s : List UInt8 × Int} (h : WrE w B p g s) (hsz : s.1.length ≤ 211106232532992) :
    Calls Tryz.prog 27 #[.pointer (some ⟨p, 0, none⟩)] w fun e w' => ∃ ao cap, e = .returned (.tuple #[.slice ao (wDone s).length cap, .int .i64 s.2]) ∧ w'.ownsRow w.heap.size 5 1 (.slice ao (wDone s).length cap) (wDone s).length (bcs (wDone s)) ∧ Only [] w w' := by
  obtain ⟨ao, cap, ⟨c0, c1, c2, f0, f1, f2, own, ne, ge⟩, _⟩ := h
  obtain ⟨hbs, hc, hm, hn, _⟩ := BS.of_owns own
  by_cases he : s.2 = 0
  · have e : wDone s = s.1 := by simp [wDone, he]
    rw [e, he]
    rw [he] at c1
    clear he e
    have HC := hid (clone_any hbs hn hsz)
    go_enter Tryz.func27, Tryz.ntmps27
    go_wp2_with (first | (go_at_call 63; refine (fine_any p 0 _ (by assumption)).mono ?_; rintro e w' ⟨rfl, rfl⟩) | (go_at_call 64; refine HC.out.mono ?_; rintro e w' ⟨ao', cap', rfl, hown, ho⟩))
    go_ret2
    exact ⟨ao', cap', rfl, hown, ho⟩
  · have e : wDone s = [] := by simp [wDone, he]
    rw [e]
    have he' : (s.2 == 0) = false := by simpa using he
    clear he e
    go_enter Tryz.func27, Tryz.ntmps27
    go_wp2_with (go_at_call 63; refine (fine_any p s.2 _ (by assumption)).mono ?_; rintro e w' ⟨rfl, rfl⟩)
    go_quiet (fail)
    go_wp2
    go_ret2
    exact ⟨none, 0, rfl, World.ownsRow_nil _ _ _ _, ⟨rfl, rfl, rfl, Nat.le_refl _, fun _ _ _ => rfl⟩⟩

theorem newWriter_any (w : World) (B : Nat) (hB : B ≤ w.heap.size) :
    Calls Tryz.prog 24 #[] w fun e w' => e = .returned (.pointer (some ⟨w.heap.size, 0, none⟩)) ∧ WrE w' B w.heap.size w.heap.size ([], 0) ∧ Only [] w w' := by
  go_enter Tryz.func24, Tryz.ntmps24
  go_wp2
  go_ret
  refine ⟨rfl, ⟨none, 0, { c0 := ?_, c1 := ?_, c2 := ?_, f0 := frozen_new _ _ _ _, f1 := frozen_new _ _ _ _, f2 := frozen_new _ _ _ _, own := World.ownsRow_nil _ _ _ _, ne := (fun a ha => by cases ha), ge := hB }, rfl⟩, (Only.refl [] w).alloc _⟩
  · rw [cell_new]; rfl
  · rw [cell_new]; rfl
  · rw [cell_new]; rfl

/-- A number with a sign as one without. -/
def toU64 (n : Int) : Nat := (n % 18446744073709551616).toNat
def wN8 (s : List UInt8 × Int) (l : List Int) : List UInt8 × Int := wPut s (l.flatMap fun n => toBE (toU64 n) 8)

theorem wN8_take_succ (s : List UInt8 × Int) (l : List Int) (k : Nat) (h : k < l.length) : wN8 s (l.take (k + 1)) = wPut (wN8 s (l.take k)) (toBE (toU64 l[k]) 8) := by
  unfold wN8
  rw [List.take_succ_eq_append_getElem h, wPut_wPut]
  simp only [List.flatMap_append, List.flatMap_cons, List.flatMap_nil, List.append_nil]

theorem wN8_len (s : List UInt8 × Int) (l : List Int) : (wN8 s l).1.length ≤ s.1.length + 8 * l.length := by
  have h1 := wPut_len s (l.flatMap fun n => toBE (toU64 n) 8)
  have h2 : (l.flatMap fun n => toBE (toU64 n) 8).length = 8 * l.length := by
    induction l with
    | nil => rfl
    | cons n l ih =>
      rw [List.flatMap_cons, List.length_append, toBE_length, List.length_cons]
      have := ih (wPut_len s _)
      omega
  unfold wN8
  omega

set_option maxHeartbeats 400000 in
theorem wn8_any {w : World} {B p g : Nat} {s : List UInt8 × Int} (h : WrE w B p g s) {lao : Option Addr} {lcap d : Nat} {ns : List Int} (hb : NX .i64 w lao ns d) (hd : ns ≠ [] → d ∉ [p, g]) (hsz : s.1.length + 8 * ns.length ≤ 211106232532992) :
    Calls Tryz.prog 130 #[.pointer (some ⟨p, 0, none⟩), .slice lao ns.length lcap] w fun e w' => e = .returned (.tuple #[]) ∧ WTo w B p g w' (wN8 s ns) := by
  go_enter Tryz.func130, Tryz.ntmps130
  go_wp2
  go_loopw [8] (fun i wr => ∃ k : Nat, k ≤ ns.length ∧ i = .int .i64 (k : Int) ∧ WTo w B p g wr (wN8 s (ns.take k))) (fun i _ => ns.length - (intOf i).toNat)
  case atStart => exact ⟨0, by omega, rfl, by simpa [wN8, wPut_nil] using WTo.refl h⟩
  case round =>
    obtain ⟨k, hk, rfl, g', hw, hg', ho⟩ := hrel
    by_cases hlt : k < ns.length
    · have hne : ns ≠ [] := by intro e; simp [e] at hlt
      have hb' := hb.only ho hd
      rcases hb' with hb' | ⟨off, rfl, hc⟩
      · exact absurd hb' hne
      have hck := hc k hlt
      have Hsucc := hid (wN8_take_succ s ns k hlt)
      have hll := wN8_len s (ns.take k)
      have hll2 : (ns.take k).length ≤ k := List.length_take_le _ _
      generalize ns[k] = n at *
      generalize wN8 s (ns.take k) = t at *
      clear hc hb hd hne
      have HN := hid (wnumber_any hw (toU64 n) (by unfold toU64; omega) 8 (by decide) 8 rfl (by omega))
      have hu : IntKind.u64.wrap n = (toU64 n : Int) := by rw [IntKind.wrap_u64]; unfold toU64; omega
      go_wp2_with (go_at_call 173; refine HN.out.mono ?_; rintro e w2 ⟨rfl, hto⟩)
      refine ⟨⟨k + 1, by omega, by go_num, ?_⟩, by simp [intOf]; omega⟩
      rw [Hsucc.out]
      exact wto_trans ho hg' hto
    · go_wp2
      go_end0
      refine ⟨rfl, g', ?_, hg', ho⟩
      rw [List.take_of_length_le (by omega)] at hw
      exact hw

end Go.Proofs.YtildemmkhndhjaaGreatDoor
namespace Go.Proofs.YtildemmkhndhjaaGreatDoor
open Go.RowKit

/-- Where the texts of a slice lie that is read. -/
def SX (w : World) (ao : Option Addr) (ss : List ByteArray) (d : Nat) : Prop :=
  ss = [] ∨ ∃ off, ao = some ⟨d, off, none⟩ ∧ ∀ j (h : j < ss.length), w.cell? ⟨d, off + j, none⟩ = some (.string ss[j])

theorem SX.only {w w' : World} {S : List Nat} {ao : Option Addr} {ns : List ByteArray} {d : Nat} (h : SX w ao ns d) (ho : Only S w w') (hn : ns ≠ [] → d ∉ S) : SX w' ao ns d := by
  rcases h with h | ⟨off, ha, hc⟩
  · exact .inl h
  · by_cases hb : ns = []
    · exact .inl hb
    have hd := hn hb
    exact .inr ⟨off, ha, fun j hj => by rw [ho.cell (World.block_lt_of_cell? w _ (hc j hj)) hd]; exact hc j hj⟩

theorem SX.lt {w : World} {ao : Option Addr} {ns : List ByteArray} {d : Nat} (h : SX w ao ns d) (hn : ns ≠ []) : d < w.heap.size := by
  rcases h with h | ⟨off, _, hc⟩
  · exact absurd h hn
  · have h0 : 0 < ns.length := List.length_pos_iff.2 hn
    exact World.block_lt_of_cell? w _ (hc 0 h0)

/-- What Text does with one text. -/
def wTx1 (s : List UInt8 × Int) (b : ByteArray) : List UInt8 × Int := if s.2 = 0 then (if 255 < b.size then (s.1, 5) else (s.1 ++ (UInt8.ofNat b.size :: b.data.toList), 0)) else s
def wTx (s : List UInt8 × Int) (l : List ByteArray) : List UInt8 × Int := l.foldl wTx1 s

theorem wTx_err (s : List UInt8 × Int) (h : s.2 ≠ 0) (l : List ByteArray) : wTx s l = s := by
  induction l with
  | nil => rfl
  | cons n l ih =>
    have : wTx1 s n = s := by simp [wTx1, h]
    simp only [wTx, List.foldl_cons, this]
    exact ih

theorem wTx_take_succ (s : List UInt8 × Int) (l : List ByteArray) (k : Nat) (h : k < l.length) : wTx s (l.take (k + 1)) = wTx1 (wTx s (l.take k)) l[k] := by
  rw [List.take_succ_eq_append_getElem h]
  simp only [wTx, List.foldl_append, List.foldl_cons, List.foldl_nil]

theorem wTx_split (s : List UInt8 × Int) (l : List ByteArray) (k : Nat) : wTx s l = wTx (wTx s (l.take k)) (l.drop k) := by
  conv => lhs; rw [← List.take_append_drop k l]
  simp only [wTx, List.foldl_append]

theorem wTx1_len (s : List UInt8 × Int) (b : ByteArray) : (wTx1 s b).1.length ≤ s.1.length + 256 := by
  unfold wTx1
  split
  · split
    · simp
    · have : b.data.toList.length = b.size := rfl
      rw [List.length_append, List.length_cons, this]
      omega
  · simp

theorem wTx_len (s : List UInt8 × Int) (l : List ByteArray) : (wTx s l).1.length ≤ s.1.length + 256 * l.length := by
  induction l generalizing s with
  | nil => simp [wTx]
  | cons n l ih =>
    have h1 := ih (wTx1 s n)
    have h2 := wTx1_len s n
    simp only [wTx, List.foldl_cons, List.length_cons] at h1 ⊢
    omega

theorem wTx1_ok (s : List UInt8 × Int) (b : ByteArray) (h : ¬ 255 < b.size) : wTx1 s b = wPut (wPut s [UInt8.ofNat b.size]) b.data.toList := by
  rw [wPut_wPut]
  unfold wTx1 wPut
  rw [if_neg h]
  rfl

/-- A text turned into bytes. -/
theorem bytes_world (w : World) (b : ByteArray) : Only [] w (Lib.bytesWorld w 5 b) ∧ BS (Lib.bytesWorld w 5 b) (some ⟨w.heap.size, 0, none⟩) b.data.toList w.heap.size := by
  refine ⟨⟨rfl, rfl, rfl, by rw [Lib.bytesWorld_size]; omega, fun k hk _ => Lib.bytesWorld_at_old w _ b k hk⟩, .inr ⟨0, rfl, fun j hj => ?_⟩⟩
  have e : b.data.toList.getD j 0 = b.data.toList[j] := by rw [List.getD, List.getElem?_eq_getElem hj]; rfl
  rw [Nat.zero_add, Lib.bytesWorld_cell w _ b j hj, e]

set_option maxHeartbeats 800000 in
set_option maxRecDepth 100000 in
theorem wtext_any {w : World} {B p g : Nat} {s : List UInt8 × Int} (h : WrE w B p g s) {lao : Option Addr} {lcap d : Nat} {ns : List ByteArray} (hb : SX w lao ns d) (hd : ns ≠ [] → d ∉ [p, g]) (hsz : s.1.length + 256 * ns.length ≤ 211106232532992) (hlen : ∀ b ∈ ns, b.size ≤ 9223372036854775807) :
    Calls Tryz.prog 129 #[.pointer (some ⟨p, 0, none⟩), .slice lao ns.length lcap] w fun e w' => e = .returned (.tuple #[]) ∧ WTo w B p g w' (wTx s ns) := by
  go_enter Tryz.func129, Tryz.ntmps129
  go_wp2
  go_loopw [8] (fun i wr => ∃ k : Nat, k ≤ ns.length ∧ i = .int .i64 (k : Int) ∧ WTo w B p g wr (wTx s (ns.take k))) (fun i _ => ns.length - (intOf i).toNat)
  case atStart => exact ⟨0, by omega, rfl, by simpa [wTx] using WTo.refl h⟩
  case round =>
    obtain ⟨k, hk, rfl, g', hw, hg', ho⟩ := hrel
    by_cases hlt : k < ns.length
    · have hne : ns ≠ [] := by intro e; simp [e] at hlt
      have hb' := hb.only ho hd
      rcases hb' with hb' | ⟨off, rfl, hc⟩
      · exact absurd hb' hne
      have hck := hc k hlt
      have hsucc := wTx_take_succ s ns k hlt
      have hll := wTx_len s (ns.take k)
      have hll2 : (ns.take k).length ≤ k := List.length_take_le _ _
      have hsplit := wTx_split s ns (k + 1)
      have hbl := hlen ns[k] (List.getElem_mem hlt)
      rw [hsucc] at hsplit
      generalize ns[k] = n at *
      generalize wTx s (ns.take k) = t at *
      have Hsucc := hid hsucc
      have Hsplit := hid hsplit
      clear hc hsucc hsplit hb hd hne hlen
      by_cases hbad : 255 < n.size
      · have hone : wTx1 t n = (t.1, if t.2 = 0 then 5 else t.2) := by
          unfold wTx1
          by_cases ht : t.2 = 0
          · rw [if_pos ht, if_pos hbad, if_pos ht]
          · rw [if_neg ht, if_neg ht]
        have hend : wTx s ns = (t.1, if t.2 = 0 then 5 else t.2) := by
          rw [Hsplit.out, hone]
          apply wTx_err
          simp only
          split
          · decide
          · assumption
        have HE := hid hend
        have HF := hid (wfail_any hw 5)
        clear Hsucc Hsplit hone hend
        have hbig : (255 : Int) < (n.size : Int) := by omega
        go_wp2_with (go_at_call 135; refine HF.out.mono ?_; rintro e w2 ⟨rfl, hto⟩)
        refine bodyPost_ret (results_none rfl _ _ _) rfl ?_
        exact ⟨rfl, by rw [HE.out]; exact wto_trans ho hg' hto⟩
      · have hone := wTx1_ok t n hbad
        rw [hone] at Hsucc
        clear Hsplit hone
        have hsm : ¬ (255 : Int) < (n.size : Int) := by omega
        have hw' := hid (hw.only ((Only.refl [] wr).alloc (.cells #[.int .u8 (n.size : Int)] 5)) (by simp) (by simp))
        have HB := hid (bs_one wr (UInt8.ofNat n.size) (n.size : Int) (by rw [UInt8.toNat_ofNat']; omega))
        have HP := hid (put_any hw'.out HB.out (lcap := 1) (by simp) (by simp only [List.length_singleton]; omega))
        have kc := fun w => Lib.run_convert_string_bytes (P := Tryz.prog) w 9 38 5 n Tryz.underlying9 Tryz.underlying38 Tryz.underlying5
        go_wp2_with fail
        refine HP.out.mono ?_
        rintro e w2 ⟨rfl, g2, hw2, hg2, ho2⟩
        obtain ⟨ob, hbs⟩ := bytes_world w2 n
        have hl3 := wPut_len t [UInt8.ofNat n.size]
        have hl4 : n.data.toList.length = n.size := rfl
        have HP2 := hid (put_any (hw2.only ob (by simp) (by simp)) hbs (lcap := grownCap w2 n.size 0 5) (by simp) (by rw [hl4]; simp only [List.length_singleton] at hl3; omega))
        rw [hl4] at HP2
        clear hl4
        go_wp2_with fail
        refine HP2.out.mono ?_
        rintro e w3 ⟨rfl, hto⟩
        go_wp2
        refine ⟨⟨k + 1, by omega, by go_num, ?_⟩, by simp [intOf]; omega⟩
        rw [Hsucc.out]
        refine wto_trans ((ho.alloc _).trans (ho2.trans ob (by simp)) (fun x hx => ?_)) ?_ hto
        · simp at hx ⊢
          omega
        · have := (ho.alloc (.cells #[.int .u8 (n.size : Int)] 5)).size
          omega
    · go_wp2
      go_end0
      refine ⟨rfl, g', ?_, hg', ho⟩
      rw [List.take_of_length_le (by omega)] at hw
      exact hw

end Go.Proofs.YtildemmkhndhjaaGreatDoor
namespace Go.Proofs.YtildemmkhndhjaaGreatDoor
open Go.RowKit

/-- The bytes that are left, and how many were read. -/
abbrev Rs := List UInt8 × Nat
/-- What reads: the place and the error, or what was read and what is left. -/
abbrev Pr (α : Type) := Rs → Sum (Int × Int) (α × Rs)

def pDone {α : Type} (x : α) : Pr α := fun r => .inr (x, r)
def pFail {α : Type} (n : Nat) (e : Int) : Pr α := fun _ => .inl ((n : Int), e)
def pBind {α β : Type} (p : Pr α) (f : α → Pr β) : Pr β := fun r => match p r with
  | .inl e => .inl e
  | .inr (x, r') => f x r'
def pTake (n : Nat) : Pr (List UInt8) := fun r => if r.1.length < n then .inl ((r.2 : Int), 11) else .inr (r.1.take n, r.1.drop n, r.2 + n)
def pU (k : Nat) : Pr Nat := pBind (pTake k) fun l => pDone (be l)
def pN8 : Pr Int := pBind (pTake 8) fun l => pDone (wrap64 (be l : Int))
def pText : Pr (List UInt8) := fun r => pBind (pTake (textLen r.1)) (fun l => pDone l.tail) r
def pList {α : Type} (p : Pr α) : Nat → Pr (List α)
  | 0 => pDone []
  | n + 1 => pBind p fun x => pBind (pList p n) fun l => pDone (x :: l)
def pRows {α : Type} (k most : Nat) (p : Pr α) : Pr (List α) := fun r => pBind (pU k) (fun n => if most < n then pFail r.2 4 else pList p n) r
def pSpell {α : Type} (f : List UInt8 → α × Int) : Pr α := fun r => pBind pText (fun s => if (f s).2 = 0 then pDone (f s).1 else pFail r.2 (f s).2) r

def pEntry : Pr En := fun r => pBind (pU 1) (fun k =>
  if k = 1 then pBind pText fun s => pDone (1, s, 0, 0, 0, 0)
  else if k = 2 then pBind pN8 fun n => pDone (2, [], n, 0, 0, 0)
  else if k = 3 ∨ k = 4 then pBind (pU 2) fun a => pDone ((k : Int), [], 0, (a : Int), 0, 0)
  else if k = 5 ∨ k = 6 then pBind (pU 2) fun a => pBind (pU 2) fun b => pBind (pU 2) fun c => pDone ((k : Int), [], 0, (a : Int), (b : Int), (c : Int))
  else pFail r.2 3) r
def pField : Pr Fd := pBind (pU 1) fun k => pBind pText fun s => pBind (pSpell typeR) fun t => pDone ((k : Int), s, t)
def pHand : Pr Hd := pBind (pU 2) fun a => pBind (pU 2) fun b => pBind (pU 2) fun c => pBind pText fun s => pDone ((a : Int), (b : Int), (c : Int), s)
def pMethod : Pr Me := pBind (pU 1) fun k => pBind pText fun s => pBind (pSpell sigR) fun g =>
  if k = 2 then pDone ⟨(k : Int), s, g, 0, 0, [], []⟩
  else pBind (pU 1) fun a => pBind (pU 1) fun b => pBind (pU 2) fun n => pBind (pTake n) fun code => pBind (pRows 1 32 pHand) fun hs => pDone ⟨(k : Int), s, g, (a : Int), (b : Int), code, hs⟩
def pClass : Pr Cl := pBind (pU 1) fun k => pBind pText fun s => pBind pText fun u => pBind (pRows 1 16 pText) fun fa => pBind (pRows 1 64 pField) fun fi => pBind (pRows 1 64 pMethod) fun me => pDone ⟨(k : Int), s, u, fa, fi, me⟩

def magicL : List UInt8 := [75, 69, 89, 49]
def pMagic : Pr Unit := pBind (pTake 4) fun l => if l = magicL then pDone () else pFail 0 13
def pEnd (m : Mo) : Pr Mo := fun r => if r.1 = [] then .inr (m, r) else .inl ((r.2 : Int), 12)
def pModule : Pr Mo := pBind pMagic fun _ => pBind (pRows 2 4096 pEntry) fun l => pBind (pRows 1 64 pClass) fun cs => pEnd ⟨l, cs⟩

def mo0 : Mo := ⟨[], []⟩
def readM (b : List UInt8) : Mo × Bp :=
  if 262144 < b.length then (mo0, 0, 0, 0, 5) else match pModule (b, 0) with
  | .inl e => (mo0, 0, 0, e.1, e.2)
  | .inr (m, _) => if (checkM m).2.2.2 = 0 then (m, ok4) else (mo0, checkM m)

def e1 (n : Int) : List UInt8 := [UInt8.ofNat n.toNat]
def e2 (n : Int) : List UInt8 := toBE n.toNat 2
def e8 (n : Int) : List UInt8 := toBE (toU64 n) 8
def eT (s : List UInt8) : List UInt8 := UInt8.ofNat s.length :: s
def encEn (e : En) : List UInt8 := e1 e.1 ++ (if e.1 = 1 then eT e.2.1 else if e.1 = 2 then e8 e.2.2.1 else if e.1 = 3 ∨ e.1 = 4 then e2 e.2.2.2.1 else e2 e.2.2.2.1 ++ (e2 e.2.2.2.2.1 ++ e2 e.2.2.2.2.2))
def encFd (f : Fd) : List UInt8 := e1 f.1 ++ (eT f.2.1 ++ eT (tyText f.2.2))
def encHd (h : Hd) : List UInt8 := e2 h.1 ++ (e2 h.2.1 ++ (e2 h.2.2.1 ++ eT h.2.2.2))
def sgText (g : Sg) : List UInt8 := sigText g.1 g.2.1 g.2.2
def encMe (m : Me) : List UInt8 := e1 m.flags ++ (eT m.name ++ (eT (sgText m.sig) ++ (if m.flags = 2 then [] else e1 m.stack ++ (e1 m.locals ++ (e2 (m.code.length : Int) ++ (m.code ++ (e1 (m.hands.length : Int) ++ m.hands.flatMap encHd)))))))
def encCl (c : Cl) : List UInt8 := e1 c.flags ++ (eT c.name ++ (eT c.super ++ (e1 (c.faces.length : Int) ++ (c.faces.flatMap eT ++ (e1 (c.fields.length : Int) ++ (c.fields.flatMap encFd ++ (e1 (c.methods.length : Int) ++ c.methods.flatMap encMe)))))))
def encM (m : Mo) : List UInt8 := magicL ++ (e2 (m.pool.length : Int) ++ (m.pool.flatMap encEn ++ (e1 (m.classes.length : Int) ++ m.classes.flatMap encCl)))
def writeM (m : Mo) : List UInt8 × Bp := if (checkM m).2.2.2 = 0 then (if 262144 < (encM m).length then ([], 0, 0, 0, 5) else (encM m, ok4)) else ([], checkM m)

end Go.Proofs.YtildemmkhndhjaaGreatDoor
