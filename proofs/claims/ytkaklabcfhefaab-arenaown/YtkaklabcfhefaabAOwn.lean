/-
  The walk of ArenaOwn. No conditions beyond the arguments' own shape.
-/
import Derived.Test.YtkaklabcfhefaabASame
namespace Go.Proofs.Ytkaklabcfhefaab
open Go.RowKit

set_option linter.unusedSimpArgs false

/-- All blocks but those from lo to hi. -/
def OutB (lo hi : Nat) (W : World) (c : Nat) : Prop := c < W.heap.size ∧ ¬ (lo ≤ c ∧ c < hi)

theorem out_lim (lo hi : Nat) (W : World) : ∀ c, OutB lo hi W c → c < W.heap.size := fun _ h => h.1

theorem Ar.outO {W W' : World} {lo hi a : Nat} {s : SW} (h : Ar W (OutB lo hi W) a s) {S : List Nat} (ho : Only S W W') (hS : ∀ x ∈ S, ¬ (lo ≤ x ∧ x < hi)) : Ar W' (OutB lo hi W') a s :=
  h.other ho (fun x hx => by
    rcases Nat.lt_or_ge x W.heap.size with c | c
    · exact .inl ⟨c, hS x hx⟩
    · exact .inr c) (fun c hc => ⟨hc.1, by
    rcases Nat.lt_or_ge c W.heap.size with d | d
    · exact .inl ⟨d, hc.2⟩
    · exact .inr d⟩)

theorem few_stO {W : World} {N : Nat → Prop} {a : Nat} {s : St} (h : Ar W N a s.sw) : s.l.length ≤ 65536 ∧ 8 * (flW s.l).length ≤ 1048576 := by
  have h1 := few_obs s.l
  have h2 : 8 * (flW s.l).length ≤ s.m := h.ok.fit
  have h3 : s.m ≤ 1048576 := h.ok.m1
  exact ⟨by omega, by omega⟩

/-- What is the caller's own: rows that are told. -/
theorem own_in {w w' : World} {e : TypeId} {v : Value} {n : Nat} {xs : List Value} (h : w'.ownsRow w.heap.size e 1 v n xs) : ∀ k, v.ownBlock = some k → w.heap.size ≤ k ∧ k < w'.heap.size := fun k hk => h.lt k hk

theorem own_form {w : World} {B n : Nat} {e : TypeId} {ao : Option Addr} {cap : Nat} {xs : List Value} (h : w.ownsRow B e 1 (.slice ao n cap) n xs) (hn : 0 < n) : ∃ g, ao = some ⟨g, 0, none⟩ := by
  rcases h.2 with ⟨hv, h0⟩ | ⟨g, cap', cur, hv, _⟩
  · omega
  · simp only [Value.slice.injEq] at hv
    exact ⟨g, hv.1⟩

theorem put_own {w : World} {Q : Nat → Prop} {w0 : World} {n g cap : Nat} {e : TypeId} {xs : List Value} (h : w.ownsRow 0 e 1 (.slice (some ⟨g, 0, none⟩) n cap) n xs) (hk : Kep Q w0 w) (hq : ¬ Q g) (i : Nat) (u : Value) :
    (w.setCell ⟨g, i, none⟩ u).ownsRow 0 e 1 (.slice (some ⟨g, 0, none⟩) n cap) n (xs.set i u) ∧ Kep Q w0 (w.setCell ⟨g, i, none⟩ u) ∧ Only [g] w (w.setCell ⟨g, i, none⟩ u) := by
  obtain ⟨q1, q2⟩ := h.stored i u
  have ho : Only [g] w (w.setCell ⟨g, i, none⟩ u) := Only.of_grown q2
  exact ⟨q1, hk.trans (.of ho (by simpa using hq)), ho⟩

theorem appd_own {w w' w0 : World} {Q : Nat → Prop} {e : TypeId} {ao ao' : Option Addr} {m n' cap' : Nat} {xs : List Value} (hA : Appd w w' 0 e 1 ao ao' m n' cap' xs) (hk : Kep Q w0 w) (hQ : ∀ c, Q c → c < w0.heap.size) (hq : ∀ k, Value.ownBlock (.slice ao m 0) = some k → ¬ Q k) :
    Kep Q w0 w' ∧ ∀ k, Value.ownBlock (.slice ao' n' cap') = some k → ¬ Q k := by
  refine ⟨hk.trans (.of hA.only (fun x hx => hq x (by simpa using hx))), fun k hk' hQk => ?_⟩
  cases ao' with
  | none => cases hk'
  | some b =>
    cases hk'
    rcases hA.place b rfl with ⟨b', rfl, hb⟩ | c
    · exact hq b'.block (by simp [Value.ownBlock]) (by rw [hb]; exact hQk)
    · have := hQ _ hQk
      have := hk.size
      omega

set_option maxRecDepth 20000 in
set_option maxHeartbeats 16000000 in
theorem own_any {w : World} (x : Int) (_hx : i64 x) {ao : Option Addr} {L : List Cl} {cap d : Nat} (hL : ClS w ao L d) (hl : L.length ≤ 9223372036854775807) :
    Calls Try.prog 4 #[.int .i64 x, .slice ao L.length cap] w fun e w' => e = .returned (.bool true) ∧ Only [] w w' := by
  have hdL : L ≠ [] → d < w.heap.size := fun hn => hL.rs.lt (fun e => hn (List.eq_nil_of_length_eq_zero (by have := congrArg List.length e; rw [clz_length] at this; simp only [List.length_nil] at this; omega)))
  have hKn := hid (known15 w)
  have hMd := hid (fun W (ho : Only [] w W) => made_any (w := W) (N := fun b => b < W.heap.size) (fun b hb => hb) x (cap := cap) (hL.kep (Kep.of0 (N := fun b => b < w.heap.size) ho) hdL) (fun hn => Nat.lt_of_lt_of_le (hdL hn) ho.size) hl)
  obtain ⟨S, hS⟩ : ∃ S, S = madeTo (256 + (x % 8000).toNat) L (min 60 L.length) := ⟨_, rfl⟩
  rw [← hS] at hMd
  clear hS
  go_enter Try.func4, Try.ntmps4
  have hbl := encWs_length (flW S.l)
  go_wp2_with (first
    | (go_at_call 5; refine hKn.out.mono ?_; rintro e w1 ⟨rfl, ho1⟩; replace ho1 := hid ho1)
    | (go_at_call 7; refine (hAl.out _ O6.out).mono ?_; rintro e w7 ⟨v7, rfl, own7, o7⟩; obtain ⟨mo, cm, rfl⟩ := rows_slice own7; replace own7 := hid own7; have O7 := hid (O6.out.trans o7 (by simp)); have Y7 := hid (Y6.out.only0 o7); have C7 := conv_str Y7.out hbl cy; replace o7 := hid o7)
    | (go_at_call 7; refine (hAl.out _ O5.out).mono ?_; rintro e w6 ⟨v6, rfl, own6, o6⟩; obtain ⟨lo, cl, rfl⟩ := rows_slice own6; replace own6 := hid own6; have O6 := hid (O5.out.trans o6 (by simp)); have Y6 := hid (Y5.out.only0 o6); replace o6 := hid o6)
    | (go_at_call 16; refine (hBy.out _ O4.out).mono ?_; rintro e w5 ⟨v5, rfl, own5, o5⟩; obtain ⟨yo, cy, rfl⟩ := rows_slice own5; have Y5 := hid (RS.of_owns own5).1; replace own5 := hid own5; have O5 := hid (O4.out.trans o5 (by simp)); replace o5 := hid o5)
    | (go_at_call 16; refine (hBy.out _ (Only.refl _ _)).mono ?_; rintro e w4 ⟨v4, rfl, own4, o4⟩; obtain ⟨xo, cx, rfl⟩ := rows_slice own4; replace own4 := hid own4; have O4 := hid o4; replace o4 := hid o4)
    | (go_at_call 6; refine (hMd.out _ ho2.out).mono ?_; rintro e w3 ⟨rfl, B3, K3⟩; have p3 := hid K3.only; have q3 := hid B3.lt; have A4 := hid (A3.out.outO K3.only (by simp)); have B4 := hid (B3.other (Only.refl [] _) (by simp) (N' := OutB w2.heap.size w3.heap.size w3) (fun c hc => ⟨hc.1, (Nat.lt_or_ge c w2.heap.size).elim .inl (fun d => absurd ⟨d, hc.1⟩ hc.2)⟩)); have hBy := hid (fun W (ho : Only [] w3 W) => Bytes_any (l := S.l) (A4.out.only0 ho).used); have hAl := hid (fun W (ho : Only [] w3 W) => All_any (l := S.l) (A4.out.only0 ho).used))
    | (go_at_call 6; refine (hMd.out _ ho1.out).mono ?_; rintro e w2 ⟨rfl, A1, K1⟩; have ho2 := hid (ho1.out.trans K1.only (by simp)); have A3 := hid (A1.other (Only.refl [] _) (by simp) (N' := OutB w1.heap.size w2.heap.size w2) (fun c hc => ⟨hc.1, (Nat.lt_or_ge c w1.heap.size).elim .inl (fun d => absurd ⟨d, hc.1⟩ hc.2)⟩))))
  obtain ⟨hlen, hfew⟩ := few_stO A4.out
  have g3 := o4.out.size
  have g4 := o5.out.size
  have g5 := o6.out.size
  have g6 := o7.out.size
  have g1 := p3.out.size
  have g0 := q3.out
  obtain ⟨Q, hQd⟩ : ∃ Q : Nat → Prop, Q = fun c => c < w3.heap.size ∨ (w4.heap.size ≤ c ∧ c < w5.heap.size) ∨ (w6.heap.size ≤ c ∧ c < w7.heap.size) := ⟨_, rfl⟩
  have hQlim : ∀ c, Q c → c < w7.heap.size := by rw [hQd]; intro c hc; omega
  have x4 := rows_mono (rows_only own4.out ((o5.out.trans o6.out (by simp)).trans o7.out (by simp)) (by simp)) (Nat.zero_le _)
  have x6 := rows_mono (rows_only own6.out o7.out (by simp)) (Nat.zero_le _)
  have kx : ∀ k, Value.ownBlock (.slice xo (8 * (flW S.l).length) cx) = some k → ¬ Q k := by
    intro k hk
    have := own_in own4.out k hk
    rw [hQd]
    omega
  have kl : ∀ k, Value.ownBlock (.slice lo S.l.length cl) = some k → ¬ Q k := by
    intro k hk
    have := own_in own6.out k hk
    rw [hQd]
    omega
  have yQ : 0 < 8 * (flW S.l).length → ∃ k, yo = some ⟨k, 0, none⟩ ∧ Q k ∧ w3.heap.size ≤ k ∧ k < w7.heap.size := by
    intro hn
    obtain ⟨k, rfl⟩ := own_form own5.out hn
    have := own_in own5.out k rfl
    refine ⟨k, rfl, ?_, by omega, by omega⟩
    rw [hQd]
    omega
  have mQ : 0 < S.l.length → ∃ k, mo = some ⟨k, 0, none⟩ ∧ Q k ∧ w3.heap.size ≤ k ∧ k < w7.heap.size := by
    intro hn
    obtain ⟨k, rfl⟩ := own_form own7.out hn
    have := own_in own7.out k rfl
    refine ⟨k, rfl, ?_, by omega, by omega⟩
    rw [hQd]
    omega
  have hQlow : ∀ c, c < w3.heap.size → Q c := by rw [hQd]; intro c hc; exact .inl hc
  have A7 := hid (A4.out.outO O7.out (by simp))
  have B7 := hid (B4.out.outO O7.out (by simp))
  have m7 := hid (RS.of_owns own7.out).1
  have hO7 := hid (ho2.out.trans (p3.out.trans O7.out (by simp)) (by simp))
  have hs12 : w1.heap.size ≤ w2.heap.size ∧ w2.heap.size ≤ w3.heap.size ∧ w3.heap.size ≤ w7.heap.size ∧ w.heap.size ≤ w1.heap.size := ⟨by have := A3.out.lt; omega, by omega, by omega, ho1.out.size⟩
  clear hQd hMd hKn hBy hAl A4 B4 A3 O4 O5 O6 O7 Y5 Y6 own4 own5 own6 own7 o4 o5 o6 o7 C7 g0 g1 g3 g4 g5 g6 q3 p3 ho1 ho2
  replace hs12 := hid hs12
  replace x4 := hid x4
  replace x6 := hid x6
  replace kx := hid kx
  replace kl := hid kl
  replace yQ := hid yQ
  replace mQ := hid mQ
  replace hQlim := hid hQlim
  replace hQlow := hid hQlow
  replace hbl := hid hbl
  generalize w1.heap.size = s1 at *
  generalize w2.heap.size = s2 at *
  generalize hs3 : w3.heap.size = s3 at *
  replace hs3 := hid hs3
  have hT : ((8 * (flW S.l).length : Nat) : Int) ≤ 1048576 := by omega
  generalize hTT : 8 * (flW S.l).length = T at *
  replace hTT := hid hTT
  go_loopw [12] (fun i wr => ∃ k : Nat, k ≤ T ∧ i = .int .i64 (k : Int) ∧ ∃ xs, Hid (wr.ownsRow 0 5 1 (.slice xo T cx) T xs) ∧ Hid (wr.ownsRow 0 2 1 (.slice lo S.l.length cl) S.l.length (ics (adrP S.l))) ∧ Hid (Kep Q w7 wr)) (fun i _ => T - (intOf i).toNat)
  case atStart => exact ⟨0, Nat.zero_le _, rfl, _, x4, x6, hid (Kep.refl _ _)⟩
  case round =>
    obtain ⟨k, hk, rfl, xs, hX, hLl, hK⟩ := hrel
    by_cases hlt : k < T
    · obtain ⟨g, rfl⟩ := own_form hX.out (by omega)
      have i1 : (k : Int) < (T : Int) := by omega
      obtain ⟨u, hu⟩ : ∃ u, xs[k]? = some u := ⟨_, List.getElem?_eq_getElem (by have := hX.out.1; omega)⟩
      have c1 := (hX.out.cellAt k (by omega)).trans hu
      have f1 := hX.out.frozenAt k
      obtain ⟨z1, z2, z3⟩ := put_own hX.out hK.out (kx.out g rfl) k (.int .u8 238)
      have z4 := rows_only hLl.out z3 (fun q hq hm => row_apart hX.out hLl.out (by decide) (g := g) rfl (by simp at hm; rw [← hm]; exact hq))
      replace z1 := hid z1
      replace z2 := hid z2
      replace z4 := hid z4
      go_wp2
      exact ⟨⟨k + 1, hlt, by go_num, _, z1, z4, z2⟩, by simp [intOf]; omega⟩
    · have i1 : ¬ (k : Int) < (T : Int) := by omega
      clear hk hlt x4 x6
      go_wp2
      go_loopw [13] (fun i wr => ∃ k : Nat, k ≤ S.l.length ∧ i = .int .i64 (k : Int) ∧ ∃ ls, Hid (wr.ownsRow 0 5 1 (.slice xo T cx) T xs) ∧ Hid (wr.ownsRow 0 2 1 (.slice lo S.l.length cl) S.l.length ls) ∧ Hid (Kep Q w7 wr)) (fun i _ => S.l.length - (intOf i).toNat)
      case atStart => exact ⟨0, Nat.zero_le _, rfl, _, hX, hLl, hK⟩
      case round =>
        clear hX hLl hK
        obtain ⟨k2, hk, rfl, ls, hX, hLl, hK⟩ := hrel
        by_cases hlt : k2 < S.l.length
        · obtain ⟨g, rfl⟩ := own_form hLl.out (by omega)
          have i2 : (k2 : Int) < (S.l.length : Int) := by omega
          obtain ⟨u, hu⟩ : ∃ u, ls[k2]? = some u := ⟨_, List.getElem?_eq_getElem (by have := hLl.out.1; omega)⟩
          have c1 := (hLl.out.cellAt k2 (by omega)).trans hu
          have f1 := hLl.out.frozenAt k2
          obtain ⟨z1, z2, z3⟩ := put_own hLl.out hK.out (kl.out g rfl) k2 (.int .i64 (-1))
          have z4 := rows_only hX.out z3 (fun q hq hm => row_apart hLl.out hX.out (by decide) (g := g) rfl (by simp at hm; rw [← hm]; exact hq))
          replace z1 := hid z1
          replace z2 := hid z2
          replace z4 := hid z4
          go_wp2
          exact ⟨⟨k2 + 1, hlt, by go_num, _, z4, z1, z2⟩, by simp [intOf]; omega⟩
        · have i2 : ¬ (k2 : Int) < (S.l.length : Int) := by omega
          clear hk hlt i1
          go_wp2
          go_loopw [7, 9, 14] (fun v7 v9 i wr => ∃ j : Nat, j ≤ 20 ∧ i = .int .i64 (j : Int) ∧ ∃ xo' cx' xs' lo' cl' ls', v7 = .slice xo' (T + j) cx' ∧ v9 = .slice lo' (S.l.length + j) cl' ∧ Hid (wr.ownsRow 0 5 1 (.slice xo' (T + j) cx') (T + j) xs') ∧ Hid (wr.ownsRow 0 2 1 (.slice lo' (S.l.length + j) cl') (S.l.length + j) ls') ∧ Hid (∀ k, Value.ownBlock (.slice xo' (T + j) cx') = some k → ¬ Q k) ∧ Hid (∀ k, Value.ownBlock (.slice lo' (S.l.length + j) cl') = some k → ¬ Q k) ∧ Hid (Kep Q w7 wr)) (fun _ _ i _ => 20 - (intOf i).toNat)
          case atStart => exact ⟨0, by omega, rfl, xo, cx, xs, lo, cl, ls, rfl, rfl, hX, hLl, kx, kl, hK⟩
          case round =>
            clear hX hLl hK kx kl i2
            obtain ⟨j, hj, rfl, xo2, cx2, xs2, lo2, cl2, ls2, rfl, rfl, hX, hLl, kx, kl, hK⟩ := hrel
            by_cases hlt : j < 20
            · have i3 : (j : Int) < 20 := by omega
              have hTn : T + j + 1 ≤ 8000000 := by omega
              have hSn : S.l.length + j + 1 ≤ 8000000 := by omega
              go_wp2_with (at_builtin; refine wpList_append_any rfl (.tmp 69) (.tmp 70) elU Try.underlying28 rfl rfl rfl (hX.out.alloc _) (RS.fresh _ _ _) rfl (by simp [Value.oneCell']) (by simp) hTn (Nat.zero_le _) ?_)
              intro ao3 cap3 w8 P1
              obtain ⟨z1, z2⟩ := appd_own P1 (hK.out.trans (.of0 ((Only.refl [] _).alloc _))) hQlim.out (fun k hk => kx.out k (by cases xo2 <;> exact hk))
              have z3 := rows_only (hLl.out.alloc (.cells #[.int .u8 1] 5)) P1.only (fun q hq hm => row_apart hX.out hLl.out (by decide) (g := q) (by simp at hm; cases xo2 <;> exact hm) hq)
              have z4 := P1.own
              go_wp2_with (at_builtin; refine wpList_append_any rfl (.tmp 72) (.tmp 73) elI Try.underlying26 rfl rfl rfl (z3.alloc _) (RS.fresh _ _ _) rfl (by simp [Value.oneCell']) (by simp) hSn (Nat.zero_le _) ?_)
              intro ao4 cap4 w9 P2
              obtain ⟨y1, y2⟩ := appd_own P2 (z1.trans (.of0 ((Only.refl [] _).alloc _))) hQlim.out (fun k hk => kl.out k (by cases lo2 <;> exact hk))
              have y3 := rows_only (z4.alloc (.cells #[.int .i64 2] 2)) P2.only (fun q hq hm => row_apart z3 z4 (by decide) (g := q) (by simp at hm; cases lo2 <;> exact hm) hq)
              have y4 := P2.own
              have fin := hid (show _ ∧ _ ∧ _ ∧ _ ∧ _ from ⟨y3, y4, z2, y2, y1⟩)
              clear P1 P2 y1 y2 y3 y4 z1 z2 z3 z4
              go_wp2
              exact ⟨⟨j + 1, hlt, by go_num, ao3, cap3, _, ao4, cap4, _, rfl, rfl, hid fin.out.1, hid fin.out.2.1, hid fin.out.2.2.1, hid fin.out.2.2.2.1, hid fin.out.2.2.2.2⟩, by simp [intOf]; omega⟩
            · have i3 : ¬ (j : Int) < 20 := by omega
              clear hj hlt
              obtain ⟨t1, t2, t3, t4⟩ := hs12.out
              obtain ⟨SS, hSo, hSq⟩ := hK.out
              have hge : ∀ y ∈ SS, s3 ≤ y := fun y hy => by
                rcases Nat.lt_or_ge y s3 with c | c
                · exact absurd (hQlow.out y (by have := hs3.out; omega)) (hSq y hy)
                · exact c
              have hz := hK.out.size
              have hz3 := hs3.out
              have A8 := A7.out.outO hSo (fun y hy => by have := hge y hy; omega)
              have B8 := B7.out.outO hSo (fun y hy => by have := hge y hy; omega)
              have hTp : bcs (encWs (flW S.l)) ≠ [] → 0 < T := fun hn => by
                rcases Nat.eq_zero_or_pos T with c | c
                · exact absurd (List.eq_nil_of_length_eq_zero (by rw [bcs_length, hbl.out, c])) hn
                · exact c
              have hSp : ics (adrP S.l) ≠ [] → 0 < S.l.length := fun hn => by
                rcases Nat.eq_zero_or_pos S.l.length with c | c
                · exact absurd (List.eq_nil_of_length_eq_zero (by rw [ics_length, adrP_length, c])) hn
                · exact c
              have Y8 := hid (Y7.out.kep hK.out (fun hn => by obtain ⟨k, rfl, hk, _⟩ := yQ.out (hTp hn); exact hk))
              have M8 := hid (m7.out.kep hK.out (fun hn => by obtain ⟨k, rfl, hk, _⟩ := mQ.out (hSp hn); exact hk))
              have hYo := hid (show ∀ c, c = ((yo.map (·.block)).getD 0) → bcs (encWs (flW S.l)) ≠ [] → OutB s1 s2 wr c from fun c hc hn => by
                obtain ⟨k, rfl, _, h1, h2⟩ := yQ.out (hTp hn)
                simp at hc
                subst hc
                exact ⟨by omega, by omega⟩)
              have hMo := hid (show ∀ c, c = ((mo.map (·.block)).getD 0) → ics (adrP S.l) ≠ [] → OutB s1 s2 wr c from fun c hc hn => by
                obtain ⟨k, rfl, _, h1, h2⟩ := mQ.out (hSp hn)
                simp at hc
                subst hc
                exact ⟨by omega, by omega⟩)
              have hMk := hid (Make_any A8 5 1 ⟨by decide, by decide⟩ ⟨by decide, by decide⟩)
              obtain ⟨S1, hS1⟩ : ∃ S1, S1 = makeS S 5 1 := ⟨_, rfl⟩
              rw [← hS1] at hMk
              clear hS1
              obtain ⟨S2, hS2⟩ : ∃ S2, S2 = putS S1.1 8 0 99 := ⟨_, rfl⟩
              have hBk := hid (show ∀ W, Kep (OutB s1 s2 wr) wr W → Ar W (OutB s2 s3 W) s2 S.sw from fun W hW => by
                obtain ⟨ST, hT1, hT2⟩ := hW
                exact B8.outO hT1 (fun y hy hc => hT2 y hy ⟨by omega, by omega⟩))
              have hOk := hid (show ∀ W, Kep (OutB s1 s2 wr) wr W → Only [] w W from fun W hW => by
                have h1 : Kep (fun b => b < w.heap.size) w7 wr := hK.out.mono (fun b hb => hQlow.out b (by omega))
                have h2 : Kep (fun b => b < w.heap.size) wr W := hW.mono (fun b hb => ⟨by omega, by omega⟩)
                exact ((Kep.of0 hO7.out).trans (h1.trans h2)).only)
              have hPt := hid (show ∀ W, Ar W (OutB s1 s2 wr) s1 S1.1.sw → _ from fun W h => Put_any h 8 0 99 ⟨by decide, by decide⟩ ⟨by decide, by decide⟩ ⟨by decide, by decide⟩)
              rw [← hS2] at hPt
              clear hS2 hX hLl kx kl A8 B8 A7 B7 Y7 m7 hSo hSq hge hTp hSp hK
              replace hz := hid hz
              replace hz3 := hid hz3
              go_wp2_with (first
                | (go_at_call 17; refine hMk.out.mono ?_; rintro e w10 ⟨rfl, A10, K10⟩; replace A10 := hid A10; replace K10 := hid K10)
                | (go_at_call 8; refine (hPt.out _ A10.out).mono ?_; rintro e w11 ⟨rfl, A11, K11⟩; have K := hid (K10.out.trans K11); have Y11 := hid (Y8.out.kep K.out (hYo.out _ rfl)); have M11 := hid (M8.out.kep K.out (hMo.out _ rfl)); have B11 := hBk.out _ K.out; have C11 := conv_str Y11.out hbl.out cy; have hBy := hid (Bytes_ar B11); clear A11 K11 B11)
                | (go_at_call 16; refine hBy.out.mono ?_; rintro e w12 ⟨bo12, bc12, bd12, M12, rfl, hR12, _, _, B12, o12, _⟩; rw [hTT.out]; have C12 := conv_str hR12 hbl.out bc12; have hAl := hid (All_ar B12); have N12 := hid (M11.out.only0 o12); clear hR12 B12; replace o12 := hid o12)
                | (go_at_call 7; refine hAl.out.mono ?_; rintro e w13 ⟨bo13, bc13, bd13, M13, rfl, hR13, _, _, _, o13, _⟩; have hSm := hid (same_any (ca := cm) (cb := bc13) (N12.out.only0 o13) hR13 (adrP_length _) (by omega)); clear hR13; replace o13 := hid o13)
                | (go_at_call 18; refine hSm.out.mono ?_; rintro e w14 ⟨rfl, n14, rfl⟩))
              go_ret
              exact ⟨rfl, (hOk.out _ K.out).trans ((o12.out.trans o13.out (by simp)).trans (only_drewN _ _) (by simp)) (by simp)⟩

end Go.Proofs.Ytkaklabcfhefaab
