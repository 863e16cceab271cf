/-
  The contract of the second program's Parse. At most 1000000 bytes.
-/
import Derived.Test.YtmghmmkjcgopaaaGXP2
namespace Go.Proofs.Ytmghmmkjcgopaaa
open Go.RowKit

/-- What stands all along in its loop. -/
structure XaI (w wr : World) (x d : Nat) (bo : Option Addr) (cap : Nat) (all : List UInt8) (B : Nat) (vo : Option Addr) (vc : Nat) (l : List Mp) (bs : List UInt8) (n : Nat) : Prop where
  row : ∃ cs, wr.ownsRow B 27 3 (.slice vo l.length vc) l.length cs ∧ Els 3 (MpC wr (fun b => B ≤ b ∧ OffB vo b)) cs l
  rd : XE wr x d bo cap all (bs, n, 0)
  only : Only [] w wr
  le : B ≤ wr.heap.size
  blocks : w.heap.size ≤ x ∧ x < B ∧ (all ≠ [] → d < w.heap.size)

theorem XaI.done {w wr : World} {x d : Nat} {bo : Option Addr} {cap : Nat} {all : List UInt8} {B : Nat} {vo : Option Addr} {vc : Nat} {l : List Mp} {bs : List UInt8} {n : Nat} (h : XaI w wr x d bo cap all B vo vc l bs n) : MpsV wr (fun b => w.heap.size ≤ b) (.slice vo l.length vc) l := by
  obtain ⟨cs, h1, h2⟩ := h.row
  have := h.blocks
  exact ⟨cs, (SlV.of_owns h1).mono (fun b hb _ => by omega), h2.imp fun c x _ hc => hc.mono (fun b hb _ => by omega)⟩

/-- From wr on to w1 whatever was there stands, but for the reader's block; then the map is appended. -/
theorem XaI.step {w wr w1 w3 : World} {x d : Nat} {bo : Option Addr} {cap : Nat} {all : List UInt8} {B : Nat} {vo vo' : Option Addr} {vc vc' : Nat} {l : List Mp} {bs bs' : List UInt8} {n n' : Nat} {m : Mp} {v1 v2 : Value} {o2 : Obj} {cs zs : List Value}
    (h : XaI w wr x d bo cap all B vo vc l bs n) (hown : wr.ownsRow B 27 3 (.slice vo l.length vc) l.length cs) (hE : Els 3 (MpC wr (fun b => B ≤ b ∧ OffB vo b)) cs l)
    (s1 : SlV w1 (fun b => wr.heap.size ≤ b) v1 m.2.1.length (lcs m.2.1)) (s2 : SlV w1 (fun b => wr.heap.size ≤ b) v2 m.2.2.length (lcs m.2.2)) (hX : XE w1 x d bo cap all (bs', n', 0)) (ho : Only [x] wr w1)
    (hz : zs = mpC v1 v2 m) (hA : Appd (w1.alloc o2) w3 B 27 3 vo vo' l.length (l.length + 1) vc' (cs ++ zs)) : XaI w w3 x d bo cap all B vo' vc' (l ++ [m]) bs' n' := by
  have hsz := ho.size
  have hle := h.le
  have hbk := h.blocks
  have hw := h.only.size
  have o2' : Only [] w1 (w1.alloc o2) := (Only.refl [] w1).alloc _
  have hvo : ∀ a, vo = some a → B ≤ a.block ∧ a.block < wr.heap.size := fun a ha => ⟨((RS.of_owns hown).2.2.2.2 a ha).1, ((RS.of_owns hown).2.2.2.2 a ha).2.1⟩
  have hS : ∀ b, OffB vo b → b ∉ (Value.ownBlock (.slice vo l.length 0)).toList := by
    intro b hb
    cases vo with
    | none => simp [Value.ownBlock]
    | some a => simpa [Value.ownBlock] using hb a rfl
  have hoff : ∀ b, OffB vo b → b < (w1.alloc o2).heap.size → OffB vo' b := by
    intro b hb hl a ha
    rcases hA.place a ha with ⟨a', h1, h2⟩ | h2
    · rw [← h2]; exact hb a' h1
    · omega
  have hin : ∀ b, B ≤ b → b ∉ [x] := fun b hb => by simp; omega
  refine ⟨⟨cs ++ zs, by simpa using hA.own, ?_⟩, ?_, ?_, ?_, hbk⟩
  · subst hz
    refine (hE.imp fun c x _ hc => ?_).snoc rfl ⟨v1, v2, rfl, ?_, ?_⟩
    · have c1 := (hc.only ho (fun b hb => hin b hb.1)).only o2' (by simp)
      exact (c1.mono (Q := fun b => (B ≤ b ∧ OffB vo b) ∧ b < (w1.alloc o2).heap.size) (fun b hb hl => ⟨hb, hl⟩)).only hA.only (fun b hb => hS b hb.1.2) |>.mono (fun b hb _ => ⟨hb.1.1, hoff b hb.1.2 hb.2⟩)
    · have s0 := s1.only o2' (by simp)
      exact (s0.mono (Q := fun b => (B ≤ b ∧ OffB vo b) ∧ b < (w1.alloc o2).heap.size) (fun b hb hl => ⟨⟨by omega, fun a ha e => by have := (hvo a ha).2; omega⟩, hl⟩)).only hA.only (fun b hb => hS b hb.1.2) |>.mono (fun b hb _ => ⟨hb.1.1, hoff b hb.1.2 hb.2⟩)
    · have s0 := s2.only o2' (by simp)
      exact (s0.mono (Q := fun b => (B ≤ b ∧ OffB vo b) ∧ b < (w1.alloc o2).heap.size) (fun b hb hl => ⟨⟨by omega, fun a ha e => by have := (hvo a ha).2; omega⟩, hl⟩)).only hA.only (fun b hb => hS b hb.1.2) |>.mono (fun b hb _ => ⟨hb.1.1, hoff b hb.1.2 hb.2⟩)
  · have hS2 : ∀ b, b < B → b ∉ (Value.ownBlock (.slice vo l.length 0)).toList := fun b hb => hS b (fun a ha e => by have := (hvo a ha).1; omega)
    exact (hX.only o2' (by simp) (by simp)).only hA.only (hS2 x (by omega)) (fun ha => hS2 d (by have := hbk.2.2 ha; omega))
  · refine ((h.only.next ho (by simp; omega)).trans o2' (by simp)).next hA.only ?_
    intro x hx
    cases vo with
    | none => simp [Value.ownBlock] at hx
    | some a =>
      simp [Value.ownBlock] at hx
      subst hx
      have := (hvo a rfl).1
      omega
  · have := hA.only.size
    simp at this
    omega

/-- No bit from n to k is set. -/
def NoBit (U : List Bool) (n k : Nat) : Prop := ((U.take k).drop n).any id = false

set_option maxHeartbeats 4000000 in
set_option maxRecDepth 100000 in
theorem xparse_any {w : World} {ao : Option Addr} {B : List UInt8} {cap d0 : Nat} (hb : BS w ao B d0) (hc : B.length ≤ cap) (hcm : cap ≤ 9223372036854775807) (hn : ao = none → cap = 0) (hs : B.length ≤ 1000000) :
    Calls Try.prog 7 #[.slice ao B.length cap] w (ParP w (parseB B.length [] B)) := by
  obtain ⟨z, hx⟩ : ∃ z, z = parseB B.length [] B := ⟨_, rfl⟩
  rw [← hx]
  have hq0 : Hid (∃ f, B.length ≤ f ∧ z = parseB f [] B) := ⟨B.length, Nat.le_refl _, hx⟩
  clear hx
  have hX0 : XE (w.alloc (.cells #[.slice ao B.length cap, .int .i64 0, .int .i64 0] 47)) w.heap.size d0 ao cap B (B, 0, 0) := by
    refine ⟨0, { c0 := by rw [cell_new]; rfl, c1 := by rw [cell_new]; rfl, c2 := by rw [cell_new]; rfl, f0 := frozen_new _ _ _ _, f1 := frozen_new _ _ _ _, f2 := frozen_new _ _ _ _, data := hb.only ((Only.refl [] w).alloc _) (by simp), capLe := hc, capMax := hcm, capNone := hn, fit := Nat.zero_le _, ne := fun hne => by have := hb.lt hne; omega }, rfl, rfl⟩
  have hI0 : XaI w (w.alloc (.cells #[.slice ao B.length cap, .int .i64 0, .int .i64 0] 47)) w.heap.size d0 ao cap B (w.heap.size + 1) none 0 [] B 0 :=
    ⟨⟨[], World.ownsRow_nil _ _ _ _, Els.nil _ _⟩, hX0, (Only.refl [] w).alloc _, by simp, Nat.le_refl _, by omega, fun hne => hb.lt hne⟩
  clear hX0 hb
  go_enter Try.func7, Try.ntmps7
  go_wp2
  generalize w.alloc (.cells #[.slice ao B.length cap, .int .i64 0, .int .i64 0] 47) = w2 at *
  obtain ⟨x, hxx⟩ : ∃ x, x = w.heap.size := ⟨_, rfl⟩
  obtain ⟨BB, hBB⟩ : ∃ BB, BB = w.heap.size + 1 := ⟨_, rfl⟩
  rw [← hBB, ← hxx] at hI0
  rw [← hxx]
  replace hxx := hid hxx
  clear hBB
  go_loopw [5] (fun v wr => ∃ (l : List Mp) (vo : Option Addr) (vc : Nat) (bs : List UInt8) (n : Nat), v = .slice vo l.length vc ∧ l.length + bs.length ≤ B.length ∧ Hid (∃ f, bs.length ≤ f ∧ z = parseB f l bs) ∧ XaI w wr x d0 ao cap B BB vo vc l bs n) (fun v _ => B.length - lenS v)
  case atStart => exact ⟨[], none, 0, B, 0, rfl, by simp, hq0, hI0⟩
  case round =>
    obtain ⟨wo, rfl⟩ : ∃ wo, wo = wr := ⟨wr, rfl⟩
    obtain ⟨l, vo, vc, bs, n, rfl, hlb, hf, hI⟩ := hrel
    clear hq0 hI0
    have HI := hid hI
    have HL := hid (xleft_any hI.rd)
    simp only at HL
    have hfx := hf.out
    clear hI
    obtain ⟨f, hfl, hfx⟩ := hfx
    by_cases hlt : bs.length = 0
    · have hzz : z = (l, 0) := by
        rw [hfx]
        cases f with
        | zero => rfl
        | succ f => simp only [parseB]; rw [if_pos hlt]
      clear hfx hf
      rw [hlt] at HL
      go_wp2_with (go_at_call 14; refine HL.out.mono ?_; rintro e w' ⟨rfl, nl, rfl⟩)
      go_ret2
      subst hzz
      exact ⟨_, rfl, HI.out.done.only (only_drewN wo nl) (by simp), HI.out.only.drewN nl⟩
    · have g1 : ((0 : Int) < (bs.length : Int)) := by omega
      obtain ⟨f, rfl⟩ : ∃ f', f = f' + 1 := ⟨f - 1, by omega⟩
      simp only [parseB] at hfx
      rw [if_neg hlt] at hfx
      obtain ⟨hx1, hx2⟩ := x_dec bs n
      have hXE := HI.out.rd
      have hbk := HI.out.blocks
      have H2 : Hid (∀ j, Calls Try.prog 15 #[.pointer (some ⟨x, 0, none⟩)] (wo.drewN j) fun e w' => e = .returned (.int .i64 (be (rTake (bs, n, 0) 2).1 : Int)) ∧ XE w' x d0 ao cap B (rTake (bs, n, 0) 2).2 ∧ Only [x] (wo.drewN j) w') := fun j => xu2_any (hXE.only (only_drewN wo j) (by simp) (by simp))
      have H3 : Hid (∀ W, XE W x d0 ao cap B (rTake (bs, n, 0) 2).2 → Calls Try.prog 16 #[.pointer (some ⟨x, 0, none⟩)] W fun e w' => e = .returned (.int .i64 (xLo bs n : Int)) ∧ XE w' x d0 ao cap B (rTake (rTake (bs, n, 0) 2).2 1).2 ∧ Only [x] W w') := fun W hW => xu1_any hW
      have H4 : Hid (∀ W, XE W x d0 ao cap B (rTake (rTake (bs, n, 0) 2).2 1).2 → Calls Try.prog 16 #[.pointer (some ⟨x, 0, none⟩)] W fun e w' => e = .returned (.int .i64 (xSt bs n : Int)) ∧ XE w' x d0 ao cap B (xS3 bs n) ∧ Only [x] W w') := fun W hW => xu1_any hW
      have hlo8 : xLo bs n ≤ 255 := by have := be_lt_of (rTake (rTake (bs, n, 0) 2).2 1).1 1 (rTake_le _ 1); unfold xLo; omega
      have hst8 : xSt bs n ≤ 255 := by have := be_lt_of (rTake (rTake (rTake (bs, n, 0) 2).2 1).2 1).1 1 (rTake_le _ 1); unfold xSt; omega
      have hRl : (rBytes (xS3 bs n) (((xLo bs n + xSt bs n + 7) / 8 : Nat) : Int)).1.length ≤ 64 := by
        unfold rBytes
        rw [if_neg (by omega), Int.toNat_natCast]
        have := rTake_le (xS3 bs n) ((xLo bs n + xSt bs n + 7) / 8)
        omega
      have H5 : Hid (∀ W, XE W x d0 ao cap B (xS3 bs n) → ∀ mi : Int, mi = (((xLo bs n + xSt bs n + 7) / 8 : Nat) : Int) → Calls Try.prog 17 #[.pointer (some ⟨x, 0, none⟩), .int .i64 mi] W fun e w' => ∃ ao' cap', e = .returned (.slice ao' (rBytes (xS3 bs n) (((xLo bs n + xSt bs n + 7) / 8 : Nat) : Int)).1.length cap') ∧ w'.ownsRow W.heap.size 5 1 (.slice ao' (rBytes (xS3 bs n) (((xLo bs n + xSt bs n + 7) / 8 : Nat) : Int)).1.length cap') (rBytes (xS3 bs n) (((xLo bs n + xSt bs n + 7) / 8 : Nat) : Int)).1.length (bcs (rBytes (xS3 bs n) (((xLo bs n + xSt bs n + 7) / 8 : Nat) : Int)).1) ∧ XE w' x d0 ao cap B (rBytes (xS3 bs n) (((xLo bs n + xSt bs n + 7) / 8 : Nat) : Int)).2 ∧ Only [x] W w') := by
        intro W hW mi hmi
        subst hmi
        exact xbytes_any hW _ (by omega)
      generalize rBytes (xS3 bs n) (((xLo bs n + xSt bs n + 7) / 8 : Nat) : Int) = R at *
      generalize be (rTake (bs, n, 0) 2).1 = A at *
      generalize (rTake (rTake (bs, n, 0) 2).2 1).2 = t2 at *
      generalize (rTake (bs, n, 0) 2).2 = t1 at *
      generalize xS3 bs n = t3 at *
      generalize xLo bs n = lo at *
      generalize xSt bs n = st at *
      obtain ⟨Y, rr, rn, re⟩ := R
      simp only at hx1 hx2 hRl H5
      replace hx1 := hid hx1
      replace hx2 := hid hx2
      replace hfx := hid hfx
      clear hXE
      have hwx : x < wo.heap.size := by have := HI.out.le; omega
      go_wp2_with (first
        | (go_at_call 14; refine HL.out.mono ?_; rintro e w' ⟨rfl, nl, rfl⟩)
        | (go_at_call 15; refine (H2.out nl).mono ?_; rintro e w3 ⟨rfl, hx3, o3⟩; have hz3 := o3.size; have hx4 := hx3.only ((Only.refl [] w3).alloc (.cells #[.int .i64 (A : Int), .slice none 0 0, .slice none 0 0] 27)) (by simp) (by simp))
        | (go_at_call 16; refine (H3.out _ hx4).mono ?_; rintro e w5 ⟨rfl, hx5, o5⟩; have hz5 := o5.size)
        | (go_at_call 16; refine (H4.out _ hx5).mono ?_; rintro e w6 ⟨rfl, hx6, o6⟩; have hz6 := o6.size)
        | (go_at_call 17; refine (H5.out _ hx6 _ (by omega)).mono ?_; rintro e w7 ⟨yo, yc, rfl, hyo, hx7, o7⟩; have hz7 := o7.size; obtain ⟨P7, X7, hP7, hQ7⟩ := hx7; have ce := X7.c2))
      all_goals
        have oW : Hid (Only [x] wo w7) := ((((((only_drewN wo nl).mono (S' := [x]) (by simp)).trans o3 (fun _ hx => .inl hx)).alloc (.cells #[.int .i64 (A : Int), .slice none 0 0, .slice none 0 0] 27)).trans o5 (fun _ hx => .inl hx)).trans o6 (fun _ hx => .inl hx)).trans o7 (fun _ hx => .inl hx)
      · have he : re ≠ 0 := by simp_all
        have h11 := hx1.out he
        have hzz : z = ([], 11) := by rw [hfx.out, if_neg (by rw [h11]; decide), h11]
        go_ret2
        subst hzz
        exact ⟨_, rfl, ⟨[], SlV.nil _ _, Els.nil _ _⟩, HI.out.only.next oW.out (by simp; omega)⟩
      · have he : re = 0 := by simp_all
        subst he
        obtain ⟨Y', r', n', hRe, hYl, hdec⟩ := hx2.out rfl
        simp only [Prod.mk.injEq, and_true] at hRe
        obtain ⟨rfl, rfl, rfl⟩ := hRe
        obtain ⟨gm, hgm⟩ : ∃ gm, gm = w3.heap.size := ⟨_, rfl⟩
        rw [← hgm]
        have hMf : Mf w7 gm (A : Int) (.slice none 0 0) (.slice none 0 0) ∧ w7.frozen? ⟨gm, 1, none⟩ = false ∧ w7.frozen? ⟨gm, 2, none⟩ = false ∧ gm < w6.heap.size := by
          have hz3' : wo.heap.size ≤ w3.heap.size := hz3
          have hz5' : w3.heap.size + 1 ≤ w5.heap.size := by simpa using hz5
          have hgx : w3.heap.size ∉ [x] := by simp; omega
          have m0 := mf_new w3 27 (A : Int) (.slice none 0 0) (.slice none 0 0)
          have l0 : w3.heap.size < (w3.alloc (.cells #[.int .i64 (A : Int), .slice none 0 0, .slice none 0 0] 27)).heap.size := by simp
          have oo := (o5.trans o6 (fun _ hx => .inl hx)).trans o7 (fun _ hx => .inl hx)
          rw [hgm]
          refine ⟨m0.only oo hgx, ?_, ?_, by omega⟩
          · rw [oo.frozen (p := ⟨w3.heap.size, 1, none⟩) l0 hgx, frozen_new]
          · rw [oo.frozen (p := ⟨w3.heap.size, 2, none⟩) l0 hgx, frozen_new]
        obtain ⟨hM7, hf71, hf72, hg7⟩ := hMf
        have hB0 : BiI w7 w7 gm (A : Int) (unpack Y) lo (lo + st) 0 (.slice none 0 0) (.slice none 0 0) :=
          ⟨hM7, hf71, hf72, by simpa [lcs] using World.ownsRow_nil w7 w7.heap.size 4 1, by simpa [lcs] using World.ownsRow_nil w7 w7.heap.size 4 1, by simp [Value.ownBlock], Only.refl _ _, by omega⟩
        obtain ⟨hbs7, hc7, hm7, hn7, hp7⟩ := BS.of_owns hyo
        generalize (yo.map (·.block)).getD 0 = yb at hbs7
        have hyb : Y ≠ [] → yb ∉ [gm] := by
          intro hne
          rcases hbs7 with h | ⟨off, ha, _⟩
          · exact absurd h hne
          · have h7 := (hp7 _ ha).1
            simp at h7 ⊢
            omega
        have HB7 := hid hbs7
        have HX7 : Hid (XE w7 x d0 ao cap B (rr, rn, 0)) := ⟨P7, X7, hP7, hQ7⟩
        have hgx2 : x ≠ gm ∧ wo.heap.size ≤ gm := by
          have hz3' : wo.heap.size ≤ w3.heap.size := hz3
          rw [hgm]
          exact ⟨by omega, hz3'⟩
        replace hYl := hid hYl
        clear X7 hP7 hQ7 ce hyo hc7 hm7 hn7 hp7 hM7 hf71 hf72 hbs7 hx3 hx4 hx5 hx6 o3 o5 o6 o7 H2 H3 H4 H5 HL hgm
        replace hdec := hid hdec
        go_loopw [10, 11, 55, 65, 75] (fun i _ _ _ _ wx => ∃ (k : Nat) (v1 v2 : Value), i = .int .i64 (k : Int) ∧ k ≤ 8 * Y.length ∧ Hid (BiI w7 wx gm (A : Int) (unpack Y) lo (lo + st) k v1 v2) ∧ Hid (NoBit (unpack Y) (lo + st) k)) (fun i _ _ _ _ _ => 8 * Y.length - (intOf i).toNat)
        case atStart => exact ⟨0, _, _, rfl, Nat.zero_le _, hB0, hid (by unfold NoBit; simp)⟩
        case round =>
          clear hB0
          obtain ⟨k, v1, v2, rfl, hk, hBi, hno⟩ := hrel
          by_cases hlt2 : k < 8 * Y.length
          · obtain ⟨q, r, hqr, hr8⟩ : ∃ q r, k = 8 * q + r ∧ r < 8 := ⟨k / 8, k % 8, by omega, by omega⟩
            have hq : q < Y.length := by omega
            have hne : Y ≠ [] := by intro e; rw [e] at hq; simp at hq
            rcases HB7.out.only hBi.out.o (fun hn => hyb hn) with h | ⟨off, hyo2, hcell⟩
            · exact absurd h hne
            have hck := hcell q hq
            have hub := unpack_get Y k hlt2
            have hkq : k / 8 = q := by omega
            have hkr : k % 8 = r := by omega
            simp only [hkq, hkr] at hub
            have hv := (Y[q]).toNat_lt
            generalize Y[q].toNat = v at *
            subst hyo2
            have i1 : (k : Int) / 8 = (q : Int) := by omega
            have i2 : (k : Int) % 8 = (r : Int) := by omega
            have i3 : (7 : Int) - (r : Int) = ((7 - r : Nat) : Int) := by omega
            have ib := bit_at v (7 - r) hv
            obtain ⟨m0, m1, m2⟩ := hBi.out.m
            have p1 := hBi.out.f1
            have p2 := hBi.out.f2
            have hlt3 : (k : Int) < 8 * (Y.length : Int) := by omega
            replace hqr := hid hqr
            clear hcell hkq hkr
            generalize decide (v / 2 ^ (7 - r) % 2 = 1) = b at *
            have hR1 := hBi.out.r1
            have hR2 := hBi.out.r2
            obtain ⟨o1, c1, rfl⟩ := rows_slice hR1
            obtain ⟨o2, c2, rfl⟩ := rows_slice hR2
            have hR := RS.fresh wr #[.bool b] 4
            have hws : w7.heap.size ≤ wr.heap.size := hBi.out.o.size
            have hnok : ∀ (c : Bool), (n + 1 = 0 ∨ ¬ (lo + st ≤ k) ∨ c = false) → b = c → NoBit (unpack Y) (lo + st) (k + 1) := by
              unfold NoBit
              intro c hc hbc
              have ht : (unpack Y).take (k + 1) = (unpack Y).take k ++ [b] := by
                obtain ⟨hlt, he⟩ := List.getElem?_eq_some_iff.1 hub
                rw [List.take_succ_eq_append_getElem hlt, he]
              rw [ht, List.drop_append, List.any_append, show (((unpack Y).take k).drop (lo + st)).any id = false from hno.out]
              rcases hc with h | h | h
              · omega
              · rw [List.drop_eq_nil_of_le (by simp; omega)]
                rfl
              · rw [hbc, h]
                cases hq2 : (lo + st - (List.take k (unpack Y)).length) <;> simp
            replace hnok := hid hnok
            replace hub := hid hub
            by_cases h1 : k < lo
            · rw [Nat.min_eq_left (by omega)] at hR1 m1
              rw [Nat.min_eq_left (by omega)] at hBi
              have hR1' := hR1.alloc (.cells #[.bool b] 4)
              have h1' : (k : Int) < (lo : Int) := by omega
              clear hR1 hR2
              go_wp2_with (at_builtin; refine wpList_append_any (ys := [.bool b]) (l := 1) rfl (.tmp 60) (.tmp 62) elB Try.underlying25 rfl rfl rfl hR1' hR rfl (by simp [Value.oneCell']) (by simp) (by omega) (by simp; omega) ?_; rintro ao8 cap8 w8 hA8; have e81 := (bi_row (j := 1) (u := .slice ao8 (k + 1) cap8) hBi.out.g hBi.out.o (by have := hBi.out.r1; rw [Nat.min_eq_left (by omega)] at this; exact this) hBi.out.r2 hBi.out.ne hA8).2.2.2.2; have e8c := (e81.1 1).trans m1; have e8f := (e81.2 1).trans p1)
              exact ⟨⟨_, _, .int .i64 ((k + 1 : Nat) : Int), ⟨k + 1, rfl, by omega, ⟨_, _, hid (bi_app1 hBi.out h1 (by omega) hub.out hA8)⟩, hid (hnok.out b (.inr (.inl (by omega))) rfl)⟩, rfl, rfl, by go_num⟩, by simp [intOf]; omega⟩
            · by_cases h2 : k < lo + st
              · have e2 : min k (lo + st) - lo = k - lo := by omega
                rw [e2] at hR2 m2 hBi
                have hR2' := hR2.alloc (.cells #[.bool b] 4)
                have h1' : ¬ (k : Int) < (lo : Int) := by omega
                have h2' : (k : Int) < (lo : Int) + (st : Int) := by omega
                clear hR1 hR2
                go_wp2_with (at_builtin; refine wpList_append_any (ys := [.bool b]) (l := 1) rfl (.tmp 70) (.tmp 72) elB Try.underlying25 rfl rfl rfl hR2' hR rfl (by simp [Value.oneCell']) (by simp) (by omega) (by simp; omega) ?_; rintro ao8 cap8 w8 hA8; have e81 := (bi_row (j := 2) (u := .slice ao8 (k - lo + 1) cap8) hBi.out.g hBi.out.o (by have := hBi.out.r2; rw [e2] at this; exact this) hBi.out.r1 (fun b hb hb2 => hBi.out.ne b hb2 hb) hA8).2.2.2.2; have e8c := (e81.1 2).trans m2; have e8f := (e81.2 2).trans p2)
                exact ⟨⟨_, _, .int .i64 ((k + 1 : Nat) : Int), ⟨k + 1, rfl, by omega, ⟨_, _, hid (bi_app2 hBi.out (by omega) h2 hub.out hA8)⟩, hid (hnok.out b (.inr (.inl (by omega))) rfl)⟩, rfl, rfl, by go_num⟩, by simp [intOf]; omega⟩
              · have h1' : ¬ (k : Int) < (lo : Int) := by omega
                have h2' : ¬ (k : Int) < (lo : Int) + (st : Int) := by omega
                clear hR1 hR2 hR
                cases b with
                | false =>
                  go_wp2
                  exact ⟨⟨k + 1, _, _, by go_num, by omega, hid (bi_skip hBi.out (by omega) (by omega)), hid (hnok.out false (.inr (.inr rfl)) rfl)⟩, by simp [intOf]; omega⟩
                | true =>
                  have hset : ((unpack Y).drop (lo + st)).any id = true := by
                    rw [List.any_eq_true]
                    obtain ⟨hl, he⟩ := List.getElem?_eq_some_iff.1 hub.out
                    refine ⟨true, ?_, rfl⟩
                    rw [← he]
                    exact List.mem_drop_iff_getElem.2 ⟨k - (lo + st), by omega, by congr 1; omega⟩
                  have hd := hdec.out
                  rw [if_pos hset] at hd
                  have hzz : z = ([], 1) := by rw [hfx.out, hd]; simp
                  replace hzz := hid hzz
                  clear hd hset
                  go_wp2
                  go_ret2
                  rw [hzz.out]
                  exact ⟨_, rfl, ⟨[], SlV.nil _ _, Els.nil _ _⟩, (HI.out.only.next oW.out (by simp; omega)).next hBi.out.o (by have := HI.out.only.size; simp; omega)⟩
          · have hk8 : k = 8 * Y.length := by omega
            have hYs := hYl.out
            have hul := unpack_len Y
            have hna : ((unpack Y).drop (lo + st)).any id = false := by
              have := hno.out
              unfold NoBit at this
              rw [List.take_of_length_le (by omega)] at this
              exact this
            have hd := hdec.out
            rw [if_neg (by rw [hna]; decide)] at hd
            have hdz : (decM bs).2.1 = 0 := by rw [hd]
            have hless := decM_less bs hdz
            rw [hd] at hless
            simp only at hless
            have hfz := hfx.out
            rw [if_pos hdz, hd] at hfz
            simp only at hfz
            have hBi' := hBi.out
            have hR1 := hBi'.r1
            have hR2 := hBi'.r2
            rw [show min k lo = lo by omega] at hR1
            rw [show min k (lo + st) - lo = st by omega] at hR2
            obtain ⟨o1, c1, rfl⟩ := rows_slice hR1
            obtain ⟨o2, c2, rfl⟩ := rows_slice hR2
            obtain ⟨m0, m1, m2⟩ := hBi'.m
            obtain ⟨mL, hmL⟩ : ∃ mL, mL = (unpack Y).take lo := ⟨_, rfl⟩
            obtain ⟨mS, hmS⟩ : ∃ mS, mS = ((unpack Y).drop lo).take st := ⟨_, rfl⟩
            have hlL : mL.length = lo := by rw [hmL, List.length_take]; omega
            have hlS : mS.length = st := by rw [hmS, List.length_take, List.length_drop]; omega
            rw [← hmL] at hR1 hfz
            rw [← hmS] at hR2 hfz
            rw [← hlL] at hR1
            rw [← hlS] at hR2
            have hww : wo.heap.size ≤ w7.heap.size := oW.out.size
            have ox : Only [x] wo wr := oW.out.trans hBi'.o (fun y hy => .inr (by simp at hy; omega))
            have S1 := hid ((SlV.of_owns hR1).mono (Q := fun b => wo.heap.size ≤ b) (fun b hb _ => by omega))
            have S2 := hid ((SlV.of_owns hR2).mono (Q := fun b => wo.heap.size ≤ b) (fun b hb _ => by omega))
            have HX9 := hid (HX7.out.only hBi'.o (by simp; omega) (fun hne => by have := hbk.2.2 hne; have := HI.out.only.size; simp; omega))
            obtain ⟨cs, hown, hE⟩ := HI.out.row
            have hown9 := (rows_only hown ox (fun g hg => by have := (hown.lt g hg).1; simp; omega)).alloc (.cells #[.int .i64 (A : Int), .slice o1 mL.length c1, .slice o2 mS.length c2] 27)
            have hR9 := RS.fresh wr #[.int .i64 (A : Int), .slice o1 mL.length c1, .slice o2 mS.length c2] 27
            have hle9 : BB ≤ wr.heap.size := by have := HI.out.le; have := ox.size; omega
            rw [← hlL] at m1
            rw [← hlS] at m2
            replace hfz := hid hfz
            replace hk8 := hid hk8
            have HOW := hid hown
            have HEE := hid hE
            replace ox := hid ox
            clear hd hdz hna hmL hmS hYs hul hBi' hR1 hR2 hown hE hlL hlS hdec
            have hlt3 : ¬ (k : Int) < 8 * (Y.length : Int) := by omega
            go_wp2_with (at_builtin; refine wpList_append_any (ys := [.int .i64 (A : Int), .slice o1 mL.length c1, .slice o2 mS.length c2]) rfl (.tmp 77) (.tmp 79) elMp Try.underlying22 rfl rfl rfl hown9 hR9 rfl (by simp [Value.oneCell']) (by simp) (by omega) (by simp; omega) ?_; rintro ao3 cap3 w9 hA3)
            exact ⟨⟨l ++ [((A : Int), mL, mS)], ao3, cap3, rr, rn, by simp, by simp; omega, ⟨f, by omega, hfz.out⟩, HI.out.step HOW.out HEE.out S1.out S2.out HX9.out ox.out rfl hA3⟩, by simp [lenS]; omega⟩

end Go.Proofs.Ytmghmmkjcgopaaa
