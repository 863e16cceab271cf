/-
  The contract of maps.Parse. At most 1000000 bytes.
-/
import Derived.Test.YtmghmmkjcgopaaaGPar
namespace Go.Proofs.Ytmghmmkjcgopaaa
open Go.RowKit

theorem elMp : ElT 27 (.agg #[.int .i64 0, .slice none 0 0, .slice none 0 0]) 3 56 := ⟨by kernel_rfl, rfl, by decide, by decide⟩

def OffB (ao : Option Addr) (g : Nat) : Prop := ∀ a, ao = some a → g ≠ a.block

theorem bre_new {w : World} {r d : Nat} {s : List UInt8 × Nat × Int} (h : RdE w r d s) (hd : d < w.heap.size) : BRE (w.alloc (.cells #[.pointer (some ⟨r, 0, none⟩), .int .u8 0, .int .i64 0] 41)) w.heap.size r d ([], s) := by
  have hr := h.lt
  refine ⟨0, 0, ⟨by rw [cell_new]; rfl, by rw [cell_new]; rfl, by rw [cell_new]; rfl, frozen_new _ _ _ _, frozen_new _ _ _ _, h.only ((Only.refl [] w).alloc _) (by simp) (by simp), by omega, by omega, by decide, by decide, by simp; omega⟩, rfl⟩

/-- What stands all along in Parse's loop. -/
structure PaI (w wr : World) (q r d B : Nat) (vo : Option Addr) (vc : Nat) (l : List Mp) (bs : List UInt8) (n : Nat) : Prop where
  row : ∃ cs, wr.ownsRow B 27 3 (.slice vo l.length vc) l.length cs ∧ Els 3 (MpC wr (fun b => B ≤ b ∧ OffB vo b)) cs l
  rd : BRE wr q r d ([], bs, n, 0)
  only : Only [] w wr
  le : B ≤ wr.heap.size
  blocks : w.heap.size ≤ q ∧ w.heap.size ≤ r ∧ q < B ∧ r < B ∧ d < B ∧ w.heap.size ≤ B

theorem PaI.step {w wr w1 w3 : World} {q r d B : Nat} {vo vo' : Option Addr} {vc vc' : Nat} {l : List Mp} {bs bs' : List UInt8} {n n' : Nat} {m : Mp} {v1 v2 : Value} {o1 o2 : Obj} {cs zs : List Value}
    (h : PaI w wr q r d B vo vc l bs n) (hown : wr.ownsRow B 27 3 (.slice vo l.length vc) l.length cs) (hE : Els 3 (MpC wr (fun b => B ≤ b ∧ OffB vo b)) cs l)
    (s1 : SlV w1 (fun b => wr.heap.size ≤ b) v1 m.2.1.length (lcs m.2.1)) (s2 : SlV w1 (fun b => wr.heap.size ≤ b) v2 m.2.2.length (lcs m.2.2)) (hB : BRE w1 q r d ([], bs', n', 0)) (ho : Only [q, r] wr w1)
    (hz : zs = mpC v1 v2 m) (hA : Appd ((w1.alloc o1).alloc o2) w3 B 27 3 vo vo' l.length (l.length + 1) vc' (cs ++ zs)) : PaI w w3 q r d B vo' vc' (l ++ [m]) bs' n' := by
  have hsz := ho.size
  have hle := h.le
  have hbk := h.blocks
  have hq := hB.lt
  have o2' : Only [] w1 ((w1.alloc o1).alloc o2) := ((Only.refl [] w1).alloc _).alloc _
  have hvo : ∀ a, vo = some a → B ≤ a.block ∧ a.block < wr.heap.size := fun a ha => ⟨((RS.of_owns hown).2.2.2.2 a ha).1, ((RS.of_owns hown).2.2.2.2 a ha).2.1⟩
  have hS : ∀ b, OffB vo b → b ∉ (Value.ownBlock (.slice vo l.length 0)).toList := by
    intro b hb
    cases vo with
    | none => simp [Value.ownBlock]
    | some a => simpa [Value.ownBlock] using hb a rfl
  have hoff : ∀ b, OffB vo b → b < ((w1.alloc o1).alloc o2).heap.size → OffB vo' b := by
    intro b hb hl a ha
    rcases hA.place a ha with ⟨a', h1, h2⟩ | h2
    · rw [← h2]; exact hb a' h1
    · omega
  have hin : ∀ b, B ≤ b → b ∉ [q, r] := fun b hb => by simp; omega
  refine ⟨⟨cs ++ zs, by simpa using hA.own, ?_⟩, ?_, ?_, ?_, hbk⟩
  · subst hz
    refine (hE.imp fun c x _ hc => ?_).snoc rfl ⟨v1, v2, rfl, ?_, ?_⟩
    · have c1 := (hc.only ho (fun b hb => hin b hb.1)).only o2' (by simp)
      exact (c1.mono (Q := fun b => (B ≤ b ∧ OffB vo b) ∧ b < ((w1.alloc o1).alloc o2).heap.size) (fun b hb hl => ⟨hb, hl⟩)).only hA.only (fun b hb => hS b hb.1.2) |>.mono (fun b hb _ => ⟨hb.1.1, hoff b hb.1.2 hb.2⟩)
    all_goals
      first
      | have s0 := s1.only o2' (by simp)
        exact (s0.mono (Q := fun b => (B ≤ b ∧ OffB vo b) ∧ b < ((w1.alloc o1).alloc o2).heap.size) (fun b hb hl => ⟨⟨by omega, fun a ha e => by have := (hvo a ha).2; omega⟩, hl⟩)).only hA.only (fun b hb => hS b hb.1.2) |>.mono (fun b hb _ => ⟨hb.1.1, hoff b hb.1.2 hb.2⟩)
      | have s0 := s2.only o2' (by simp)
        exact (s0.mono (Q := fun b => (B ≤ b ∧ OffB vo b) ∧ b < ((w1.alloc o1).alloc o2).heap.size) (fun b hb hl => ⟨⟨by omega, fun a ha e => by have := (hvo a ha).2; omega⟩, hl⟩)).only hA.only (fun b hb => hS b hb.1.2) |>.mono (fun b hb _ => ⟨hb.1.1, hoff b hb.1.2 hb.2⟩)
  · have hS2 : ∀ b, b < B → b ∉ (Value.ownBlock (.slice vo l.length 0)).toList := fun b hb => hS b (fun a ha e => by have := (hvo a ha).1; omega)
    exact (hB.only o2' (by simp) (by simp) (by simp)).only hA.only (hS2 q (by omega)) (hS2 r (by omega)) (hS2 d (by omega))
  · refine ((h.only.next ho (by simp; omega)).trans o2' (by simp)).next hA.only ?_
    intro x hx
    cases vo with
    | none => simp [Value.ownBlock] at hx
    | some a =>
      simp [Value.ownBlock] at hx
      subst hx
      have := (hvo a rfl).1
      omega
  · have := hA.only.size
    simp at this
    omega

def lenS (v : Value) : Nat := match v with
  | .slice _ n _ => n
  | _ => 0

def ParP (w : World) (R : List Mp × Int) (e : Ending) (w' : World) : Prop := ∃ v, e = .returned (.tuple #[v, .int .i64 R.2]) ∧ MpsV w' (fun b => w.heap.size ≤ b) v R.1 ∧ Only [] w w'

theorem PaI.done {w wr : World} {q r d B : Nat} {vo : Option Addr} {vc : Nat} {l : List Mp} {bs : List UInt8} {n : Nat} (h : PaI w wr q r d B vo vc l bs n) : MpsV wr (fun b => w.heap.size ≤ b) (.slice vo l.length vc) l := by
  obtain ⟨cs, h1, h2⟩ := h.row
  have := h.blocks
  exact ⟨cs, (SlV.of_owns h1).mono (fun b hb _ => by omega), h2.imp fun c x _ hc => hc.mono (fun b hb _ => by omega)⟩

set_option maxHeartbeats 2000000 in
theorem parse_any {w : World} {ao : Option Addr} {B : List UInt8} {cap d0 : Nat} (hb : BS w ao B d0) (hn : ao = none → cap = 0) (hs : B.length ≤ 1000000) :
    Calls Try.prog 6 #[.slice ao B.length cap] w (ParP w (parseB B.length [] B)) := by
  obtain ⟨x, hx⟩ : ∃ x, x = parseB B.length [] B := ⟨_, rfl⟩
  rw [← hx]
  have hq0 : Hid (∃ f, B.length ≤ f ∧ x = parseB f [] B) := ⟨B.length, Nat.le_refl _, hx⟩
  clear hx
  have HC := hid (newReader_any hb hn (by omega))
  clear hb
  go_enter Try.func6, Try.ntmps6
  go_wp2_with (go_at_call 11; refine HC.out.mono ?_; rintro e w1 ⟨r, d, rfl, hrd, ho1, hr1, hd1, hd2⟩)
  obtain ⟨q, hq⟩ : ∃ q, q = w1.heap.size := ⟨_, rfl⟩
  have hP0 : PaI w (w1.alloc (.cells #[.pointer (some ⟨r, 0, none⟩), .int .u8 0, .int .i64 0] 41)) q r d (w1.heap.size + 1) none 0 [] B 0 := by
    have hrl := hrd.lt
    refine ⟨⟨[], World.ownsRow_nil _ _ _ _, Els.nil _ _⟩, by rw [hq]; exact bre_new hrd hd2, ho1.alloc _, by simp, ?_⟩
    have := ho1.size
    omega
  rw [← hq]
  generalize w1.heap.size + 1 = BB at hP0
  generalize w1.alloc (.cells #[.pointer (some ⟨r, 0, none⟩), .int .u8 0, .int .i64 0] 41) = w2 at *
  clear hq hrd ho1 hr1 hd1 hd2 HC
  go_loopw [5] (fun v wr => ∃ (l : List Mp) (vo : Option Addr) (vc : Nat) (bs : List UInt8) (n : Nat), v = .slice vo l.length vc ∧ l.length + bs.length ≤ B.length ∧ Hid (∃ f, bs.length ≤ f ∧ x = parseB f l bs) ∧ PaI w wr q r d BB vo vc l bs n) (fun v _ => B.length - lenS v)
  case atStart => exact ⟨[], none, 0, B, 0, rfl, by simp, hq0, hP0⟩
  case round =>
    obtain ⟨l, vo, vc, bs, n, rfl, hlb, hf, hI⟩ := hrel
    clear hq0 hP0
    have HI := hid hI
    obtain ⟨v0, k0, R0, _⟩ := hI.rd
    have c0 := R0.c0
    have HL := hid (left_any R0.rd)
    simp only at HL
    have HN := hid (next_any hI.rd)
    rw [(next_dec bs n).1] at HN
    have hfx := hf.out
    clear R0 hI
    obtain ⟨f, hfl, hfx⟩ := hfx
    by_cases hlt : bs.length = 0
    · have hxx : x = (l, 0) := by
        rw [hfx]
        cases f with
        | zero => rfl
        | succ f => simp only [parseB]; rw [if_pos hlt]
      clear hfx hf HN
      rw [hlt] at HL
      go_wp2_with (go_at_call 12; refine HL.out.mono ?_; rintro e w' ⟨rfl, rfl⟩)
      go_ret2
      subst hxx
      exact ⟨_, rfl, HI.out.done, HI.out.only⟩
    · have g1 : ((0 : Int) < (bs.length : Int)) := by omega
      obtain ⟨f, rfl⟩ : ∃ f', f = f' + 1 := ⟨f - 1, by omega⟩
      simp only [parseB] at hfx
      rw [if_neg hlt] at hfx
      by_cases he : (decM bs).2.1 = 0
      · rw [if_pos he] at hfx
        obtain ⟨n', hn'⟩ := (next_dec bs n).2 he
        have hless := decM_less bs he
        rw [hn', he] at HN
        replace hfx := hid hfx
        generalize (decM bs).2.2 = bs' at *
        generalize (decM bs).1 = m at *
        clear hn' he hf
        obtain ⟨cs, hown, hE⟩ := HI.out.row
        have hle := HI.out.le
        replace hE := hid hE
        replace hown := hid hown
        have hbk := hid HI.out.blocks
        go_wp2_with (first
          | (go_at_call 12; refine HL.out.mono ?_; rintro e w' ⟨rfl, rfl⟩)
          | (go_at_call 13; refine HN.out.mono ?_; rintro e w1 ⟨v1, v2, rfl, s1, s2, hB1, ho1⟩; obtain ⟨a1, c1, e1, rfl, sl1⟩ := s1; obtain ⟨a2, c2, e2, rfl, sl2⟩ := s2; replace hB1 := hid hB1; have hown1 := rows_only hown.out ho1 (fun g hg => by have := (hown.out.lt g hg).1; have := hbk.out; simp; omega); have hown2 := rows_only hown1 (((Only.refl [] w1).alloc (.cells #[.int .i64 m.1, .slice a1 m.2.1.length c1, .slice a2 m.2.2.length c2] 27)).alloc (.cells #[.int .i64 m.1, .slice a1 m.2.1.length c1, .slice a2 m.2.2.length c2] 27)) (by simp); have hR := RS.fresh (w1.alloc (.cells #[.int .i64 m.1, .slice a1 m.2.1.length c1, .slice a2 m.2.2.length c2] 27)) #[.int .i64 m.1, .slice a1 m.2.1.length c1, .slice a2 m.2.2.length c2] 27; have hsz1 := ho1.size; rw [show (w1.alloc (.cells #[.int .i64 m.1, .slice a1 m.2.1.length c1, .slice a2 m.2.2.length c2] 27)).heap.size = w1.heap.size + 1 by simp] at hR)
          | (at_builtin; refine wpList_append_any (ys := [.int .i64 m.1, .slice a1 m.2.1.length c1, .slice a2 m.2.2.length c2]) rfl (.tmp 24) (.tmp 26) elMp Try.underlying22 rfl rfl rfl hown2 hR rfl (by simp [Value.oneCell']) (by simp) (by omega) (by simp; omega) ?_; rintro ao3 cap3 w3 hA3))
        exact ⟨⟨l ++ [m], ao3, cap3, bs', n', by simp, by simp; omega, ⟨f, by omega, hfx.out⟩, HI.out.step hown.out hE.out ⟨a1, c1, e1, rfl, sl1⟩ ⟨a2, c2, e2, rfl, sl2⟩ hB1.out ho1 rfl hA3⟩, by simp [lenS]; omega⟩
      · rw [if_neg he] at hfx
        have he' : ((decM bs).2.1 == 0) = false := by simpa using he
        have he2 : ((decM bs).2.1 != 0) = true := by simpa using he
        generalize (decM bs).2.1 = er at *
        clear hf he
        subst hfx
        have hbk := hid HI.out.blocks
        go_wp2_with (first
          | (go_at_call 12; refine HL.out.mono ?_; rintro e w' ⟨rfl, rfl⟩)
          | (go_at_call 13; refine HN.out.mono ?_; rintro e w1 ⟨v1, v2, rfl, s1, s2, hB1, ho1⟩; obtain ⟨a1, c1, e1, rfl, sl1⟩ := s1; obtain ⟨a2, c2, e2, rfl, sl2⟩ := s2))
        go_ret2
        exact ⟨_, rfl, ⟨[], SlV.nil _ _, Els.nil _ _⟩, (HI.out.only.next ho1 (by have := hbk.out; simp; omega)).alloc _⟩

end Go.Proofs.Ytmghmmkjcgopaaa
