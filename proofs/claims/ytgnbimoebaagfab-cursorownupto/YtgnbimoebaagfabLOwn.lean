/-
  The walk of CursorOwn: it answers true, and writes nothing that was there. What came in is at most 2 to the power of 20 bytes.
-/
import Derived.Test.YtgnbimoebaagfabKnown
namespace Go.Proofs.Ytgnbimoebaagfab
open Go.RowKit

theorem rTake_ok (L : List UInt8) (n m : Nat) (h : m ≤ L.length) : rTake (L, n, 0) m = (L.take m, L.drop m, n + m, 0) := by
  simp [rTake]
  omega

theorem rBytes_all (L : List UInt8) : rBytes (L, 0, 0) (L.length : Int) = (L, [], L.length, 0) := by
  unfold rBytes
  rw [if_neg (by omega), Int.toNat_natCast, rTake_ok _ _ _ (Nat.le_refl _), List.take_length, List.drop_length]
  simp

theorem own_bs {w : World} {B : Nat} {ao : Option Addr} {cap : Nat} {bs : List UInt8} (h : w.ownsRow B 5 1 (.slice ao bs.length cap) bs.length (bcs bs)) :
    ∃ d, BS w ao bs d ∧ (bs ≠ [] → B ≤ d ∧ d < w.heap.size) ∧ (ao = none → cap = 0) ∧ bs.length ≤ cap := by
  obtain ⟨hb, hc, hm, hn, ha⟩ := BS.of_owns h
  refine ⟨_, hb, fun hne => ?_, hn, hc⟩
  cases ao with
  | none => exact absurd hb.none_nil hne
  | some a => exact ⟨(ha a rfl).1, (ha a rfl).2.1⟩

theorem str_append (a b : List UInt8) : str a ++ str b = str (a ++ b) := by
  simp [str, ByteArray.ext_iff]

/-- A row of the call's own, of n bytes: not in block g, not below B. -/
def Mine (w : World) (B g : Nat) (ao : Option Addr) (n cap : Nat) : Prop :=
  (∃ xs, w.ownsRow B 5 1 (.slice ao n cap) n xs) ∧ ∀ a, ao = some a → a.block ≠ g

theorem Mine.only {w w' : World} {S : List Nat} {B g : Nat} {ao : Option Addr} {n cap : Nat} (h : Mine w B g ao n cap) (ho : Only S w w') (hs : ∀ a, ao = some a → a.block ∉ S) : Mine w' B g ao n cap := by
  obtain ⟨⟨xs, h1⟩, h2⟩ := h
  refine ⟨⟨xs, own_only h1 ho (fun k hk => ?_)⟩, h2⟩
  cases ao with
  | none => simp [Value.ownBlock] at hk
  | some a => simp [Value.ownBlock] at hk; subst hk; exact hs a rfl

/-- What stays while x and y are written over. -/
structure Kept (w wr : World) (B p g s ds : Nat) (mo : Option Addr) (bs : List UInt8) : Prop where
  wri : WrE wr p p g (bs, 0)
  rd : RdE wr s ds (bs, 0, 0)
  mine : ∃ md, BS wr mo bs md ∧ (bs ≠ [] → md < s)
  old : Only [] w wr
  size : B ≤ wr.heap.size

theorem Kept.only {w wr w' : World} {S : List Nat} {B p g s ds : Nat} {mo : Option Addr} {bs : List UInt8} (h : Kept w wr B p g s ds mo bs) (ho : Only S wr w') (hp : p < B) (hs : s < B) (hd : ds < B) (hB : w.heap.size ≤ B) (hS : ∀ x, x ∈ S → B ≤ x ∧ x ≠ g) : Kept w w' B p g s ds mo bs := by
  have hn : ∀ y, y < B → y ∉ S := fun y hy hm => by have := (hS y hm).1; omega
  obtain ⟨md, hm, hmd⟩ := h.mine
  exact { wri := h.wri.only ho (hn p hp) (fun hm => (hS g hm).2 rfl), rd := h.rd.only ho (hn s hs) (hn ds hd), mine := ⟨md, hm.only ho (fun hb => hn md (by have := hmd hb; omega)), hmd⟩,
          old := h.old.next ho (fun x hx => by have := (hS x hx).1; omega), size := Nat.le_trans h.size ho.size }

/-- One byte is written over. -/
theorem Mine.set {w : World} {B g : Nat} {ao : Option Addr} {n cap : Nat} (h : Mine w B g ao n cap) (j : Nat) (hj : j < n) : ∃ b v, ao = some ⟨b, 0, none⟩ ∧ B ≤ b ∧ b ≠ g ∧ w.cell? ⟨b, j, none⟩ = some v ∧ w.frozen? ⟨b, j, none⟩ = false ∧ n ≤ cap ∧
    ∀ u, Mine (w.setCell ⟨b, j, none⟩ u) B g ao n cap ∧ Only [b] w (w.setCell ⟨b, j, none⟩ u) := by
  obtain ⟨⟨xs, h1⟩, h2⟩ := h
  rcases h1.2 with ⟨_, h0⟩ | ⟨b, cap', cur, hv, hb, hg, hnc, _⟩
  · omega
  · simp at hv
    obtain ⟨rfl, rfl⟩ := hv
    have hx := h1.1
    refine ⟨b, xs[j]'(by omega), rfl, hb, h2 _ rfl, ?_, h1.frozenAt j, hnc, fun u => ⟨⟨⟨_, (h1.stored j u).1⟩, h2⟩, Only.of_grown (h1.stored j u).2⟩⟩
    rw [h1.cellAt j (by omega)]
    simp

/-- Two rows are not one. -/
def Apart (xo yo : Option Addr) : Prop := ∀ a b, xo = some a → yo = some b → a.block ≠ b.block

theorem Mine.lt {w : World} {B g : Nat} {ao : Option Addr} {n cap : Nat} (h : Mine w B g ao n cap) (a : Addr) (e : ao = some a) : B ≤ a.block ∧ a.block < w.heap.size ∧ a.block ≠ g := by
  obtain ⟨⟨xs, h1⟩, h2⟩ := h
  subst e
  exact ⟨(h1.lt a.block rfl).1, (h1.lt a.block rfl).2, h2 a rfl⟩

/-- What an append leaves of x, of y, and of all else. -/
theorem Mine.grown {w0 w w' : World} {B p g s ds : Nat} {mo : Option Addr} {bs : List UInt8} {ao ao' yo : Option Addr} {n n' cap cap' m ycap : Nat} {xs : List Value} (h : Mine w B g ao n cap) (hy : Mine w B g yo m ycap) (hxy : Apart ao yo) (hK : Kept w0 w B p g s ds mo bs) (hown : w'.ownsRow B 5 1 (.slice ao' n' cap') n' xs)
    (hgr : w.grownBy w' (Value.ownBlock (.slice ao n cap))) (hao : ∀ a, ao' = some a → (∃ a', ao = some a' ∧ a'.block = a.block) ∨ w.heap.size ≤ a.block) (hp : p < B) (hs : s < B) (hd : ds < B) (hB : w0.heap.size ≤ B) :
    Mine w' B g ao' n' cap' ∧ Mine w' B g yo m ycap ∧ Apart ao' yo ∧ Kept w0 w' B p g s ds mo bs := by
  have hg := hK.wri.lt
  have ho := Only.of_grown hgr
  have hS : ∀ x, x ∈ (Value.ownBlock (.slice ao n cap)).toList → ∃ a, ao = some a ∧ a.block = x := by
    intro x hx
    cases ao with
    | none => simp [Value.ownBlock] at hx
    | some a => simp [Value.ownBlock] at hx; exact ⟨a, rfl, hx.symm⟩
  refine ⟨⟨⟨xs, hown⟩, fun a e => ?_⟩, hy.only ho (fun b e hm => ?_), fun a b e1 e2 => ?_, hK.only ho hp hs hd hB (fun x hx => ?_)⟩
  · rcases hao a e with ⟨a', q1, q2⟩ | q
    · have := (h.lt a' q1).2.2
      omega
    · omega
  · obtain ⟨a, q1, q2⟩ := hS _ hm
    exact hxy a b q1 e q2
  · have q := hy.lt b e2
    rcases hao a e1 with ⟨a', q1, q2⟩ | q1
    · have := hxy a' b q1 e2
      omega
    · omega
  · obtain ⟨a, q1, q2⟩ := hS _ hx
    have := h.lt a q1
    omega

set_option maxHeartbeats 4000000 in
set_option maxRecDepth 100000 in
theorem own_walk {w : World} {ao bo : Option Addr} {bs ms : List UInt8} {acap bcap ad bd : Nat} (ha : BS w ao bs ad) (hna : ao = none → acap = 0) (hb : BS w bo ms bd) (hnb : bo = none → bcap = 0) (hsa : bs.length ≤ 1048576) (hsb : ms.length ≤ 1048576) :
    Calls Try.prog 5 #[.slice ao bs.length acap, .slice bo ms.length bcap] w fun e w' => e = .returned (.bool true) ∧ Below w.heap.size w w' := by
  have HNA := hid hna
  have HNB := hid hnb
  clear hna hnb
  go_enter Try.func5, Try.ntmps5
  go_wp2_with fail
  refine (known_any w).mono ?_
  rintro e w1 ⟨rfl, ho1⟩
  have z1 := ho1.size
  have ha1 := ha.only ((ho1.alloc (.cells #[] 5))) (by simp)
  go_wp2_with (at_builtin; refine wpList_append_bytes rfl (.tmp 19) (.tmp 20) rfl rfl rfl (World.ownsRow_made w1 #[] 0 (Nat.le_refl _) (by decide) rfl) ha1 HNA.out (by omega) (by simp) ?_)
  intro mo mcap w2 hown2 hgr2 hao2 hnn2
  have ho2 : Only [] w w2 := (ho1.alloc (.cells #[] 5)).next (Only.of_grown hgr2) (by simp [Value.ownBlock]; omega)
  obtain ⟨md, hm2, hmd, hmn, hmc⟩ := own_bs hown2
  have HMN := hid hmn
  clear hown2 hgr2 hao2 hnn2 hmn ha1 ho1
  have HA := hid (newReader_any hm2 HMN.out (by omega))
  go_wp2_with fail
  refine HA.out.mono ?_
  rintro e w3 ⟨r, dr, rfl, hr3, ho3, a1, a2, a3⟩
  have hm3 := hm2.only ho3 (by simp)
  have b3 := hr3.lt
  have HA := hid (newReader_any hm3 HMN.out (by omega))
  go_wp2_with fail
  refine HA.out.mono ?_
  rintro e w4 ⟨s, ds, rfl, hs4, ho4, a4, a5, a6⟩
  have hm4 := hm3.only ho4 (by simp)
  have hr4 := hr3.only ho4 (by simp) (by simp)
  have b4 := hs4.lt
  go_wp2_with fail
  refine (newWriter_any w4 w4.heap.size (Nat.le_refl _)).mono ?_
  rintro e w5 ⟨rfl, hw5, ho5⟩
  generalize hp : w4.heap.size = p at *
  have hm5 := hm4.only ho5 (by simp)
  have hr5 := hr4.only ho5 (by simp) (by simp)
  have hs5 := hs4.only ho5 (by simp) (by simp)
  have z2 := ho2.size
  have z3 := ho3.size
  have z4 := ho4.size
  have b5 := hw5.lt
  have hO5 : Only [] w w5 := ((ho2.next ho3 (by simp)).next ho4 (by simp)).next ho5 (by simp)
  clear HA hm2 hm3 hm4 hr3 hr4 hs4 ho2 ho3 ho4 ho5 hp
  have HB := bytes_any hr5 (bs.length : Int) (by show bs.length ≤ _; omega)
  rw [rBytes_all] at HB
  have HB := hid HB
  go_wp2_with fail
  refine HB.out.mono ?_
  rintro e w6 ⟨xo, xcap, rfl, hx6, hr6, ho6⟩
  have z6 := ho6.size
  have hm6 := hm5.only ho6 (fun hne => by have := hmd hne; simp; omega)
  have hw6 := hw5.only ho6 (by simp; omega) (by simp; omega)
  have hs6 := hs5.only ho6 (by simp; omega) (by simp; omega)
  have hO6 : Only [] w w6 := hO5.next ho6 (by simp; omega)
  have HB := hid (wbytes_any hw6 hm6 HMN.out (by show 0 + bs.length ≤ _; omega))
  go_wp2_with fail
  refine HB.out.mono ?_
  rintro e w7 ⟨rfl, g, hw7, hg7, ho7⟩
  have e7 : wPut ([], 0) bs = (bs, 0) := by simp [wPut]
  rw [e7] at hw7
  clear HB e7
  have z7 := ho7.size
  have b7 := hw7.lt
  have hx7 : Mine w7 w5.heap.size g xo bs.length xcap := by
    refine ⟨⟨_, own_only hx6 ho7 (fun k hk => ?_)⟩, fun a e => ?_⟩
    · have := hx6.lt k hk
      simp
      omega
    · subst e
      have := hx6.lt a.block rfl
      omega
  have hm7 := hm6.only ho7 (fun hne => by have := hmd hne; simp; omega)
  have hs7 := hs6.only ho7 (by simp; omega) (by simp; omega)
  have hO7 : Only [] w w7 := hO6.next ho7 (by simp; omega)
  go_wp2_with fail
  refine (wdone_any hw7 (by show bs.length ≤ _; omega)).mono ?_
  rintro e w8 ⟨yo, ycap, rfl, hy8, ho8⟩
  have e8 : wDone (bs, 0) = bs := by simp [wDone]
  rw [e8] at hy8 ⊢
  clear e8
  have z8 := ho8.size
  have hy : Mine w8 w5.heap.size g yo bs.length ycap := ⟨⟨_, own_mono hy8 (by omega)⟩, fun a e => by subst e; have := hy8.lt a.block rfl; omega⟩
  have hx : Mine w8 w5.heap.size g xo bs.length xcap := hx7.only ho8 (by simp)
  have hxy : Apart xo yo := by
    intro a b e1 e2
    subst e1 e2
    have q1 := hx6.lt a.block rfl
    have q2 := hy8.lt b.block rfl
    omega
  have hK : Kept w w8 w5.heap.size p g s ds mo bs := ⟨hw7.only ho8 (by simp) (by simp), hs7.only ho8 (by simp) (by simp), ⟨md, hm7.only ho8 (by simp), fun hne => by have := hmd hne; omega⟩, hO7.next ho8 (by simp), by omega⟩
  clear hx6 hx7 hy8 hw7 hw6 hw5 hr6 hr5 hs7 hs6 hs5 hm5 hm6 hm7 hO5 hO6 hO7 ho6 ho7 ho8
  go_wp2
  go_loopw [12] (fun i wr => ∃ j : Nat, j ≤ bs.length ∧ i = .int .i64 (j : Int) ∧ Mine wr w5.heap.size g xo bs.length xcap ∧ Mine wr w5.heap.size g yo bs.length ycap ∧ Kept w wr w5.heap.size p g s ds mo bs) (fun i _ => bs.length - (intOf i).toNat)
  case atStart => exact ⟨0, by omega, rfl, hx, hy, hK⟩
  case round =>
    obtain ⟨j, hj, rfl, hx, hy, hK⟩ := hrel
    by_cases hlt : j < bs.length
    · obtain ⟨xb, xv, rfl, x1, x2, x3, x4, x5, x6⟩ := hx.set j hlt
      have q1 := x6 (.int .u8 1)
      have hy1 := hy.only q1.2 (fun b e => by have := hxy _ b rfl e; simp at this ⊢; omega)
      obtain ⟨yb, yv, rfl, y1, y2, y3, y4, y5, y6⟩ := hy1.set j hlt
      have q2 := y6 (.int .u8 2)
      have hne := hxy _ _ rfl rfl
      simp only at hne
      have hx2 := q1.1.only q2.2 (fun a e => by simp at e; subst e; simpa using hne)
      have hK2 := (hK.only q1.2 (by omega) (by omega) (by omega) (by omega) (by simp; omega)).only q2.2 (by omega) (by omega) (by omega) (by omega) (by simp; omega)
      have HQ := hid (And.intro hx2 (And.intro q2.1 hK2))
      clear q1 q2 hx2 hK2 x6 y6 hy1 hx hy hK
      go_wp2
      exact ⟨⟨j + 1, by omega, by go_num, HQ.out.1, HQ.out.2.1, HQ.out.2.2⟩, by simp [intOf]; omega⟩
    · go_wp2
      go_loopw [9, 10, 13] (fun xv yv k wr => ∃ m : Nat, ∃ xo' xcap' yo' ycap', m ≤ 30 ∧ k = .int .i64 (m : Int) ∧ xv = .slice xo' (bs.length + m) xcap' ∧ yv = .slice yo' (bs.length + m) ycap' ∧ Mine wr w5.heap.size g xo' (bs.length + m) xcap' ∧ Mine wr w5.heap.size g yo' (bs.length + m) ycap' ∧ Apart xo' yo' ∧ Kept w wr w5.heap.size p g s ds mo bs) (fun _ _ k _ => 30 - (intOf k).toNat)
      case atStart => exact ⟨0, xo, xcap, yo, ycap, by omega, rfl, rfl, rfl, hx, hy, hxy, hK⟩
      case round =>
        obtain ⟨m, xo1, xcap1, yo1, ycap1, hm, rfl, rfl, rfl, hx1, hy1, hxy1, hK1⟩ := hrel
        by_cases hm30 : m < 30
        · have oa := (Only.refl [] wr).alloc (.cells #[.int .u8 3] 5)
          have hx2 := hx1.only oa (by simp)
          have hy2 := hy1.only oa (by simp)
          have hK2 := hK1.only oa (by omega) (by omega) (by omega) (by omega) (by simp)
          have hbx := bs_one wr 3 3 rfl
          obtain ⟨⟨xs, hown⟩, hxg⟩ := id hx2
          have zk := hK2.size
          go_wp2_with (at_builtin; refine wpList_append_bytes rfl (.tmp 77) (.tmp 78) rfl rfl rfl hown hbx (by simp) (by simp; omega) (by omega) ?_)
          intro xo3 xcap3 w9 hown9 hgr9 hao9 _
          obtain ⟨hx9, hy9, hxy9, hK9⟩ := hx2.grown hy2 hxy1 hK2 hown9 hgr9 (fun a e => by have := hao9 a e; simpa using this) (by omega) (by omega) (by omega) (by omega)
          clear hown9 hgr9 hao9 hx2 hy2 hK2 oa hbx hown hxg
          have ob := (Only.refl [] w9).alloc (.cells #[.int .u8 4] 5)
          have hx2 := hx9.only ob (by simp)
          have hy2 := hy9.only ob (by simp)
          have hK2 := hK9.only ob (by omega) (by omega) (by omega) (by omega) (by simp)
          have hby := bs_one w9 4 4 rfl
          obtain ⟨⟨ys, hown⟩, hyg⟩ := id hy2
          have zk := hK2.size
          go_wp2_with (at_builtin; refine wpList_append_bytes rfl (.tmp 80) (.tmp 81) rfl rfl rfl hown hby (by simp) (by simp; omega) (by omega) ?_)
          intro yo3 ycap3 w10 hown9 hgr9 hao9 _
          obtain ⟨hy10, hx10, hxy10, hK10⟩ := hy2.grown hx2 (fun a b e1 e2 => Ne.symm (hxy9 b a e2 e1)) hK2 hown9 hgr9 (fun a e => by have := hao9 a e; simpa using this) (by omega) (by omega) (by omega) (by omega)
          clear hown9 hgr9 hao9 hx2 hy2 hK2 ob hby hown hyg
          go_wp2
          refine ⟨⟨m + 1, xo3, xcap3, yo3, ycap3, by omega, by go_num, rfl, rfl, hx10, hy10, fun a b e1 e2 => Ne.symm (hxy10 b a e2 e1), hK10⟩, by simp [intOf]; omega⟩
        · obtain ⟨md2, hmb, hmd2⟩ := hK1.mine
          have HB := bytes_any hK1.rd (bs.length : Int) (by show bs.length ≤ _; omega)
          rw [rBytes_all] at HB
          have HB := hid HB
          go_wp2_with fail
          refine HB.out.mono ?_
          rintro e w11 ⟨zo, zcap, rfl, hz11, hr11, ho11⟩
          have hO11 : Only [] w w11 := hK1.old.next ho11 (by simp; omega)
          have hwr := hK1.wri.lt
          have hz := hK1.size
          have hg0 : p = g ∨ p ≠ g := by omega
          obtain ⟨zd, hzb, hzd, hzn, hzc⟩ := own_bs hz11
          have kz := conv_str hzb zcap
          have ka := conv_str (ha.only hO11 (by simp)) acap
          have km := conv_str (hmb.only ho11 (fun hne => by have := hmd2 hne; simp; omega)) mcap
          have hw11 := hK1.wri.only ho11 (by simp; omega) (by simp; omega)
          clear HB
          have HB := hid (wbytes_any hw11 (hb.only hO11 (by simp)) HNB.out (by show bs.length + ms.length ≤ _; omega))
          go_wp2_with fail
          refine HB.out.mono ?_
          rintro e w12 ⟨rfl, g12, hw12, hg12, ho12⟩
          have e12 : wPut (bs, 0) ms = (bs ++ ms, 0) := by simp [wPut]
          rw [e12] at hw12
          clear e12 HB
          have hO12 : Only [] w w12 := hO11.next ho12 (by simp; omega)
          have hlen : (bs ++ ms).length = bs.length + ms.length := List.length_append
          have hcat : str bs ++ str ms = str (bs ++ ms) := str_append bs ms
          generalize bs ++ ms = C at *
          have hC : C.length ≤ 2097152 := by omega
          clear hlen kz ka km
          go_wp2_with fail
          refine (wdone_any hw12 (by show C.length ≤ _; omega)).mono ?_
          rintro e w13 ⟨co, ccap, rfl, hc13, ho13⟩
          have e13 : wDone (C, 0) = C := by simp [wDone]
          rw [e13] at hc13 ⊢
          clear e13
          have hO13 := hO12.next ho13 (by simp)
          obtain ⟨cd, hcb, _, _, _⟩ := own_bs hc13
          have kc := conv_str hcb ccap
          have ka := conv_str (ha.only hO13 (by simp)) acap
          have kb := conv_str (hb.only hO13 (by simp)) bcap
          have sa : (str bs).size ≤ 1048576 := hsa
          have sb : (str ms).size ≤ 1048576 := hsb
          go_wp2
          go_ret
          exact ⟨rfl, hO13.below (Nat.le_refl _) (by simp)⟩

end Go.Proofs.Ytgnbimoebaagfab
