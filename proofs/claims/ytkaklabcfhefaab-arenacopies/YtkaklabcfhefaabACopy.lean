/-
  The contracts of an arena's object and Copy. No conditions beyond the receiver's own shape.
-/
import Derived.Test.YtkaklabcfhefaabAFlip2
import Derived.Deep.MidRow
namespace Go.Proofs.Ytkaklabcfhefaab
open Go.RowKit

set_option linter.unusedSimpArgs false

section
variable {w : World} {N : Nat → Prop} {a : Nat}

set_option maxHeartbeats 1000000 in
theorem object_any {o : Nat} {l : List Ob} (h : HfE w a o (flW l) (flH l)) (j : Nat) (hj : j < l.length) {d off n cap : Nat} (c1 : w.cell? ⟨a, o + 1, none⟩ = some (.slice (some ⟨d, off, none⟩) n cap)) (hcap : 8 * (flW l).length ≤ cap) (x : Int) (hx : x = 8 * (ofs l j : Int)) :
    Calls Try.prog 29 #[.pointer (some ⟨a, o, none⟩), .int .i64 x] w fun e w' => e = .returned (.slice (some ⟨d, off + 8 * ofs l j, none⟩) (16 + 8 * l[j].2.length) (cap - 8 * ofs l j)) ∧ ∃ n, w' = w.drewN n := by
  have few := h.few
  have hend := ofs_end l j hj
  have hS := hid (fun n => slots_at (h.drewN n) j hj x hx)
  have hZ := hid (fun n => sizeOf_any (w.drewN n) (l[j].2.length : Int) (by omega) (by omega))
  have k1 := slice_mid d off n cap (8 * ofs l j) (8 * ofs l j + (16 + 8 * l[j].2.length)) x (x + (16 + 8 * (l[j].2.length : Int))) (by omega) (by omega) (by omega) (by omega)
  rw [show 8 * ofs l j + (16 + 8 * l[j].2.length) - 8 * ofs l j = 16 + 8 * l[j].2.length by omega] at k1
  have x0 : 0 ≤ x := by omega
  have x1 : x ≤ 1048576 := by omega
  have x2 : (l[j].2.length : Int) ≤ 1048576 := by omega
  clear hx h
  generalize l[j].2.length = k at *
  generalize ofs l j = p at *
  go_enter Try.func29, Try.ntmps29
  go_wp2
  go_quiet (first | (go_at_call 21; exact Calls.quiet_of (hS.out _)) | (go_at_call 20; exact Calls.quiet_of_same (hZ.out _)) | fail)
  go_wp2
  go_ret
  exact ⟨rfl, _, rfl⟩

/-- A copy into a row that the call owns, as a step of a region that draws its order. -/
theorem step_copy_own {ops : Array Oper} {o : Oper} {A : Act} {w : World} {K : Act → World → Prop} {Q : Exit → Act → World → Prop} {E : Prop} (hgd : o.guard = none) (d s : Operand) (dT sT : TypeId)
    (ho : o.op = .call { callee := .builtin .copy, args := #[d, s], argTypes := #[dT, sT] }) (elem : TypeId) (hu : Try.prog.underlying dT = some (.slice elem)) (hsz : (Try.prog.info? elem).map (·.size) = some 1)
    {g off dLen dCap sb so sLen sCap : Nat} (hd : A.eval d = .slice (some ⟨g, off, none⟩) dLen dCap) (hs : A.eval s = .slice (some ⟨sb, so, none⟩) sLen sCap)
    {B : Nat} {e : TypeId} {n cap : Nat} {xs : List Value} (own : w.ownsRow B e 1 (.slice (some ⟨g, 0, none⟩) n cap) n xs) (cs : List Value) (hn : cs.length = Nat.min sLen dLen)
    (hsrc : ∀ j v, cs[j]? = some v → w.cell? ⟨sb, so + j, none⟩ = some v) (hfit : off + cs.length ≤ n) (h1 : ∀ v ∈ cs, v.oneCell' = true)
    (h : ∀ w', w'.ownsRow B e 1 (.slice (some ⟨g, 0, none⟩) n cap) n (xs.take off ++ (cs ++ xs.drop (off + cs.length))) → Only [g] w w' → K (A.put o.dst (goInt cs.length)) w') :
    if Region.wanted o (yielded ops A.tmps) = true then Oper.wp Try.prog o A w K Q else E := by
  have hw : Region.wanted o (yielded ops A.tmps) = true := by simp [Region.wanted, hgd]
  rw [if_pos hw]
  have hxl : xs.length = n := by simpa using own.1
  rcases own.2 with ⟨hv, _⟩ | ⟨g', cap', cur, hv, hbg, hg, hnc, hcm, hcs, htake⟩
  · cases hv
  · cases hv
    have hcs' : cur.size = cap := by simpa using hcs
    have htk : cur.toList.take n = xs := by simpa using htake
    have hrun := run_copy_row (P := Try.prog) w dT sT o.type elem g off dLen dCap ⟨sb, so, none⟩ sLen sCap cur e cs hu hsz hg hn (fun j v hj => by rw [Addr.add_lit]; exact hsrc j v hj) (by omega) h1
    unfold Oper.wp
    simp [execOp, ho, resolve, invoke, builtin, hd, hs, hrun, Result.andThen]
    have hset := setRow_heap w g cur (cur.toList.take off ++ (cs ++ cur.toList.drop (off + cs.length))).toArray e _ hg
    refine h _ ⟨?_, .inr ⟨g, cap, _, rfl, hbg, by simpa using hset, hnc, hcm, ?_, ?_⟩⟩ ⟨rfl, rfl, rfl, by simp [World.setRow], fun k hk hm => setRow_other w g k _ (by simpa using hm)⟩
    · simp [hxl]
      omega
    · simp
      omega
    · rw [← htk]
      have l1 : (cur.toList.take off).length = off := by simp; omega
      simp only [Nat.mul_one, List.toList_toArray]
      rw [List.take_append, List.take_append, l1, List.take_take, List.take_take, List.drop_take, Nat.min_eq_right (by omega), Nat.min_eq_left (by omega), List.take_of_length_le (show cs.length ≤ n - off by omega), Nat.sub_sub]

theorem slice_from (d off n cap p : Nat) (x : Int) (hx : x = (p : Int)) (h1 : p < cap) (h2 : p ≤ n) (w : World) :
    (Instr.slice 28 (.slice (some ⟨d, off, none⟩) n cap) (some (.int .i64 x)) none none).run Try.prog w = .ok (.slice (some ⟨d, off + p, none⟩) (n - p) (cap - p)) w := by
  subst hx
  obtain ⟨i0, hi, hz0, hz1, hz2⟩ := info_parts info5
  have h3 : ¬ cap = p := by omega
  simp [Instr.slice, run_underlying Try.underlying28, Instr.sliceBounds, run_sliceBound, sizeOf, typeInfo, hi, hz1, h2, h3, Addr.add]

/-- An arena behind the copy of an object's bytes over the noughts of one that was just made. -/
theorem copied {s : St} {wc w5 : World} {k : Int} {n g nn cap : Nat} {u2 u4 u5 u6 : Value} (hB : ArV wc N a (St.sw { s with l := s.l ++ [(k, List.replicate n 0)] }) (.slice (some ⟨g, 0, none⟩) nn cap) u2 u4 u5 u6)
    (o : Ob) (h2 : o.2.length = n) (hall : ∀ v ∈ obW o, i64 v)
    (own : w5.ownsRow 0 5 1 (.slice (some ⟨g, 0, none⟩) nn cap) nn ((bcs (encWs (flW (s.l ++ [(k, List.replicate n 0)])))).take (8 * (flW s.l).length) ++ (bcs (encWs (obW o)) ++ (bcs (encWs (flW (s.l ++ [(k, List.replicate n 0)])))).drop (8 * (flW s.l).length + (bcs (encWs (obW o))).length))))
    (o5 : Only [g] wc w5) : Ar w5 N a (St.sw { s with l := s.l ++ [o] }) ∧ Kep N wc w5 := by
  have hnn : nn = 8 * (flW (s.l ++ [(k, List.replicate n 0)])).length := by
    rcases hB.r1.2 with ⟨hv, _⟩ | ⟨_, _, _, hv, _⟩
    · cases hv
    · simp only [Value.slice.injEq] at hv
      exact hv.2.1
  subst hnn
  have lz : (flW (s.l ++ [(k, List.replicate n 0)])).length = (flW s.l).length + (n + 2) := by
    rw [flW_append, List.length_append]
    simp [flW, obW]
  have lo : (flW (s.l ++ [o])).length = (flW (s.l ++ [(k, List.replicate n 0)])).length := by
    rw [lz, flW_append, List.length_append]
    simp [flW, obW, h2]
  have lob : (bcs (encWs (obW o))).length = 8 * (n + 2) := by rw [bcs_length, encWs_length, obW_length, h2]; omega
  have e1 : (bcs (encWs (flW (s.l ++ [(k, List.replicate n 0)])))).take (8 * (flW s.l).length) = bcs (encWs (flW s.l)) := by
    rw [bcs_take, encWs_take, flW_append, List.take_left]
  have e2 : (bcs (encWs (flW (s.l ++ [(k, List.replicate n 0)])))).drop (8 * (flW s.l).length + (bcs (encWs (obW o))).length) = [] := by
    refine List.drop_of_length_le ?_
    rw [lob, bcs_length, encWs_length, lz]
    omega
  have e3 : bcs (encWs (flW s.l)) ++ bcs (encWs (obW o)) = bcs (encWs (flW (s.l ++ [o]))) := by
    rw [← bcs_append, ← encWs_append, flW_append]
    congr 3
    simp [flW]
  rw [e1, e2, List.append_nil, e3, ← lo] at own
  have hh : flH (s.l ++ [o]) = flH (s.l ++ [(k, List.replicate n 0)]) := by
    rw [flH_append, flH_append]
    simp [flH, obH, h2]
  have hok := hB.ok
  obtain ⟨z1, z2⟩ := hB.turned (ws := flW (s.l ++ [o])) (hs := flH (s.l ++ [o])) (u1 := .slice (some ⟨g, 0, none⟩) (8 * (flW (s.l ++ [o])).length) cap) (u2 := u2) o5 (by simp [Value.ownBlock])
    (by rw [o5.block a hB.lt (by simp; exact fun e => row_ne hB.r1 hB.blk (by decide) (g := g) rfl e.symm), lo]; exact hB.blk) own
    (by rw [hh]; exact rows_only hB.r2 o5 fun q hq hm => row_apart hB.r1 hB.r2 (by decide) (g := g) rfl (by simp at hm; rw [← hm]; exact hq))
    (fun _ hg => .inl (by simpa [Value.ownBlock] using hg)) (fun _ hg => .inl hg) (by rw [lo]; exact hok.fit) (by rw [hh, lo]; exact hok.same)
    (fun v hv => by
      rw [flW_append] at hv
      rcases List.mem_append.1 hv with c | c
      · exact hok.all v (by show v ∈ flW _; rw [flW_append]; exact List.mem_append.2 (.inl c))
      · exact hall v (by simpa [flW] using c))
  exact ⟨⟨_, _, _, _, _, z1⟩, z2⟩

/-- The map has turned, and nothing else. -/
theorem ArV.mapped {s : SW} {w' : World} {v1 v2 v4 v5 : Value} {q : Nat} {L : List (Int × Int)} (h : ArV w N a s v1 v2 v4 v5 (.map (some q))) (hm0 : MapV w (.map (some q)) (some L)) (ho : Only [q] w w') {mv' : Option (List (Int × Int))} (hm : MapV w' (.map (some q)) mv') :
    Ar w' N a { s with mv := mv' } ∧ Kep N w w' := by
  obtain ⟨q', es, c, hq', hq, _⟩ := hm0
  cases hq'
  have key : ∀ {e : TypeId} {v : Value} {n : Nat} {xs : List Value}, w.ownsRow 0 e 1 v n xs → w'.ownsRow 0 e 1 v n xs := fun hr => rows_only hr ho fun g hg hm => row_map hr hq hg (by simpa using hm)
  have haq : a ≠ q := by
    rintro rfl
    have := h.blk
    rw [hq] at this
    cases this
  have hok := h.ok
  refine ⟨⟨v1, v2, v4, v5, .map (some q), { blk := ?_, r1 := key h.r1, r2 := key h.r2, r4 := key h.r4, r5 := key h.r5, mp := hm, ap1 := h.ap1, ap2 := h.ap2, na := h.na, n1 := h.n1, n2 := h.n2, n4 := h.n4, n5 := h.n5, n6 := h.n6, lim := (fun b hb => Nat.lt_of_lt_of_le (h.lim b hb) ho.size), ok := ⟨hok.m1, hok.fit, hok.afit, hok.same, hok.asame, hok.all, hok.aall⟩ }⟩, .of ho (by simpa using h.n6 q rfl)⟩
  rw [ho.block a h.lt (by simpa using haq)]
  exact h.blk

theorem makeS_ok {s : St} {k n : Int} (h : (makeS s k n).2.2 = 0) : makeS s k n = ({ s with l := s.l ++ [(k, List.replicate n.toNat 0)] }, (8 * ((flW s.l).length : Int) + 8, 0)) ∧ roomP s.m (flW s.l) n = true ∧ 0 ≤ n ∧ n ≤ 65536 := by
  unfold makeS at *
  split at h
  · rename_i hb
    rw [if_pos hb]
    split at h
    · rename_i hr
      exact ⟨by rw [if_pos hr], hr, hb⟩
    · cases h
  · cases h

theorem makeS_no {s : St} {k n : Int} (h : (makeS s k n).2.2 ≠ 0) : (makeS s k n).1 = s := by
  unfold makeS at *
  split at h
  · rename_i hb
    rw [if_pos hb]
    split at h
    · exact absurd rfl h
    · rename_i hr
      rw [if_neg hr]
  · rename_i hb
    rw [if_neg hb]

/-- Copy. -/
def copyS (s : St) (x : Int) : St × (Int × Int) := match findP s.al x with
  | none => (s, (0, 57))
  | some j => match lookM (s.mv.getD []) x with
    | some y => (s, (y, 0))
    | none => match s.al[j]? with
      | none => (s, (0, 57))
      | some o => if (makeS s o.1 (o.2.length : Int)).2.2 = 0
          then ({ s with l := s.l ++ [o], mv := some (s.mv.getD [] ++ [(x, 8 * ((flW s.l).length : Int) + 8)]) }, (8 * ((flW s.l).length : Int) + 8, 0))
          else (s, (0, (makeS s o.1 (o.2.length : Int)).2.2))

theorem onlyN {S : List Nat} {w W : World} (h : Only S w W) (n : Nat) : Only S w (W.drewN n) := ⟨h.os, h.tape, h.output, h.size, h.block⟩

theorem mapV_drewN {v : Value} {L : List (Int × Int)} (h : MapV w v (some L)) (n : Nat) : MapV (w.drewN n) v (some L) := h

set_option maxHeartbeats 4000000 in
theorem Copy_any {s : St} (h : Ar w N a s.sw) (hmv : s.al = [] ∨ ∃ L, s.mv = some L) (x : Int) (hx : i64 x) :
    Calls Try.prog 14 #[.pointer (some ⟨a, 0, none⟩), .int .i64 x] w fun e w' => e = .returned (.tuple #[.int .i64 (copyS s x).2.1, .int .i64 (copyS s x).2.2]) ∧ Ar w' N a (copyS s x).1.sw ∧ Kep N w w' := by
  cases hf : findP s.al x with
  | none =>
    have H := hid (find_none (l := s.al) h.ahead x hx hf)
    have e : copyS s x = (s, (0, 57)) := by unfold copyS; rw [hf]
    rw [e]
    have hh := hid h
    clear h e
    go_enter Try.func14, Try.ntmps14
    go_wp2_with (go_at_call 25; refine H.out.mono ?_; rintro e w1 ⟨rfl, n, rfl⟩)
    go_ret2
    exact ⟨rfl, hh.out.only0 (only_drewN _ _), .of0 (only_drewN _ _)⟩
  | some j =>
    obtain ⟨j1, j2⟩ := findP_some hf
    have H := hid (find_some (l := s.al) h.ahead x hx hf)
    obtain ⟨L, hL⟩ : ∃ L, s.mv = some L := by
      rcases hmv with c | c
      · rw [c] at j1
        simp at j1
      · exact c
    have hh := hid h
    obtain ⟨v1, v2, v4, v5, v6, hV⟩ := h
    have c6 : w.cell? ⟨a, 6, none⟩ = some v6 := hV.cell 6
    have hm : MapV w v6 (some L) := by have := hV.mp; rw [show s.sw.mv = some L from hL] at this; exact this
    have hlook := hid (fun n => look_run (mapV_drewN hm n) x hx)
    cases hy : lookM L x with
    | some y =>
      have e : copyS s x = (s, (y, 0)) := by unfold copyS; rw [hf, hL]; simp only [Option.getD_some, hy]
      rw [e]
      rw [hy] at hlook
      clear e j2 hV hm
      go_enter Try.func14, Try.ntmps14
      go_wp2_with (go_at_call 25; refine H.out.mono ?_; rintro e w1 ⟨rfl, n, rfl⟩; have hl1 := hlook.out n)
      go_ret2
      exact ⟨rfl, hh.out.only0 (only_drewN _ _), .of0 (only_drewN _ _)⟩
    | none =>
      rw [hy] at hlook
      have hok := hh.out.ok
      have few : 8 * (flW s.al).length ≤ s.m := hok.afit
      have hm1 : s.m ≤ 1048576 := hok.m1
      have hend := ofs_end s.al j j1
      have hi64 : i64 s.al[j].1 := hok.aall _ (List.mem_of_getElem? (flW_kind s.al j j1))
      have hn64 : i64 (s.al[j].2.length : Int) := ⟨by omega, by omega⟩
      have hK := hid (fun W (ho : Only [] w W) => kind_at (l := s.al) (hh.out.only0 ho).ahead j j1 (8 * (ofs s.al j : Int)) rfl)
      have hS := hid (fun W (ho : Only [] w W) => slots_at (l := s.al) (hh.out.only0 ho).ahead j j1 (8 * (ofs s.al j : Int)) rfl)
      have hM := hid (fun W (ho : Only [] w W) => (Make_any (hh.out.only0 ho) s.al[j].1 (s.al[j].2.length : Int) hi64 hn64).mono (R' := fun e w' => e = .returned (.tuple #[.int .i64 (makeS s s.al[j].1 (s.al[j].2.length : Int)).2.1, .int .i64 (makeS s s.al[j].1 (s.al[j].2.length : Int)).2.2]) ∧ Ar w' N a (makeS s s.al[j].1 (s.al[j].2.length : Int)).1.sw ∧ Kep N w w') (fun e w' ⟨h1, h2, h3⟩ => ⟨h1, h2, (Kep.of0 ho).trans h3⟩))
      have e : copyS s x = if (makeS s s.al[j].1 (s.al[j].2.length : Int)).2.2 = 0
          then ({ s with l := s.l ++ [s.al[j]], mv := some (L ++ [(x, 8 * ((flW s.l).length : Int) + 8)]) }, (8 * ((flW s.l).length : Int) + 8, 0))
          else (s, (0, (makeS s s.al[j].1 (s.al[j].2.length : Int)).2.2)) := by
        unfold copyS
        rw [hf, hL]
        simp only [Option.getD_some, hy, List.getElem?_eq_getElem j1]
      rw [e]
      clear j2 hV hm e
      generalize hMk : makeS s s.al[j].1 (s.al[j].2.length : Int) = M at *
      generalize hMv : M.2.1 = mv at *
      generalize hMe : M.2.2 = me at *
      generalize hkk : s.al[j].1 = kk at *
      generalize hnn : s.al[j].2.length = nn at *
      have hkk' := hid hkk
      have hnn' := hid hnn
      clear hkk hnn
      go_enter Try.func14, Try.ntmps14
      go_upto_region 7 with (go_at_call 25; refine H.out.mono ?_; rintro e w1 ⟨rfl, n, rfl⟩; have hl1 := hlook.out n)
      go_cut [7, 10] (fun s7 s10 wx => s10 = .int .i64 mv ∧ s7 = .int .i64 me ∧ Ar wx N a M.1.sw ∧ Kep N w wx)
      case first =>
        go_region_with (first
          | (go_at_call 26; with_reducible refine (hK.out _ (by repeat (first | with_reducible exact Only.refl _ _ | with_reducible refine Only.drew ?_ | with_reducible refine onlyN ?_ _))).mono ?_; rintro e w2 ⟨rfl, n2, rfl⟩)
          | (go_at_call 21; with_reducible refine (hS.out _ (by repeat (first | with_reducible exact Only.refl _ _ | with_reducible refine Only.drew ?_ | with_reducible refine onlyN ?_ _))).mono ?_; rintro e w3 ⟨rfl, n3, rfl⟩)
          | (go_at_call 17; with_reducible refine (hM.out _ (by repeat (first | with_reducible exact Only.refl _ _ | with_reducible refine Only.drew ?_ | with_reducible refine onlyN ?_ _))).mono ?_; rintro e w4 ⟨rfl, hA4, hK4⟩))
        all_goals
          go_wp2
          go_meet
          exact ⟨rfl, rfl, hA4.only0 (by repeat (first | with_reducible exact Only.refl _ _ | with_reducible refine Only.drew ?_ | with_reducible refine onlyN ?_ _)), hK4.trans (Kep.of0 (by repeat (first | with_reducible exact Only.refl _ _ | with_reducible refine Only.drew ?_ | with_reducible refine onlyN ?_ _)))⟩
      case rest =>
        obtain ⟨rfl, rfl, hA, hKK⟩ := hcut
        by_cases hme : me = 0
        · obtain ⟨hM1, hroom, hn0, hn1⟩ := makeS_ok (s := s) (k := kk) (n := (nn : Int)) (by rw [hMk, hMe]; exact hme)
          rw [hMk] at hM1
          have hmv1 : mv = 8 * ((flW s.l).length : Int) + 8 := by rw [← hMv, hM1]
          have hM2 : M.1 = { s with l := s.l ++ [(kk, List.replicate nn 0)] } := by rw [hM1]; simp
          rw [hM2] at hA
          clear hM1 hM2 hK hS hM hMk hMv hMe
          subst hme hmv1
          obtain ⟨u1, u2, u4, u5, u6, hB⟩ := hA
          have lz : (flW (s.l ++ [(kk, List.replicate nn 0)])).length = (flW s.l).length + (nn + 2) := by
            rw [flW_append, List.length_append]
            simp [flW, obW]
          have hfit : 8 * (flW (s.l ++ [(kk, List.replicate nn 0)])).length ≤ s.m := hB.ok.fit
          obtain ⟨g, cg, hu1⟩ : ∃ g c, u1 = .slice (some ⟨g, 0, none⟩) (8 * (flW (s.l ++ [(kk, List.replicate nn 0)])).length) c := by
            rcases hB.r1.2 with ⟨_, h0⟩ | ⟨g, c, _, hv, _⟩
            · exfalso
              change 8 * (flW (s.l ++ [(kk, List.replicate nn 0)])).length = 0 at h0
              omega
            · exact ⟨g, c, hv⟩
          subst hu1
          have hal0 := few_obs s.al
          obtain ⟨d, cd, hu4⟩ : ∃ d c, u4 = .slice (some ⟨d, 0, none⟩) (8 * (flW s.al).length) c := by
            rcases hB.r4.2 with ⟨_, h0⟩ | ⟨g, c, _, hv, _⟩
            · exfalso
              change 8 * (flW s.al).length = 0 at h0
              omega
            · exact ⟨g, c, hv⟩
          subst hu4
          have hgd : g ≠ d := fun e => hB.ap1 g rfl (by simp [Value.ownBlock, e])
          have cg1 : wc.cell? ⟨a, 1, none⟩ = some (.slice (some ⟨g, 0, none⟩) (8 * (flW (s.l ++ [(kk, List.replicate nn 0)])).length) cg) := hB.cell 1
          have cd1 : wc.cell? ⟨a, 4, none⟩ = some (.slice (some ⟨d, 0, none⟩) (8 * (flW s.al).length) cd) := hB.cell 4
          have hcapd : 8 * (flW s.al).length ≤ cd := (RS.of_owns hB.r4).2.1
          have hcapg : 8 * (flW (s.l ++ [(kk, List.replicate nn 0)])).length ≤ cg := (RS.of_owns hB.r1).2.1
          have hO := hid (fun W (ho : Only [] wc W) => object_any (o := 3) (l := s.al) (Ar.only0 ⟨_, _, _, _, _, hB⟩ ho).ahead j j1 ((ho.cell (World.block_lt_of_cell? wc _ cd1) (by simp)).trans cd1) hcapd (8 * (ofs s.al j : Int)) rfl)
          have hP0 := fun W => placeOf_any W (8 * ((flW s.l).length : Int) + 8) (by omega) (by omega)
          rw [show 8 * ((flW s.l).length : Int) + 8 - 8 = 8 * ((flW s.l).length : Int) by omega] at hP0
          have hP := hid hP0
          clear hP0
          have k1 := slice_from g 0 (8 * (flW (s.l ++ [(kk, List.replicate nn 0)])).length) cg (8 * (flW s.l).length) (8 * ((flW s.l).length : Int)) (by omega) (by omega) (by omega)
          rw [show 8 * (flW (s.l ++ [(kk, List.replicate nn 0)])).length - 8 * (flW s.l).length = 16 + 8 * nn by omega, Nat.zero_add] at k1
          have hsrc : ∀ i v, (bcs (encWs (obW s.al[j])))[i]? = some v → wc.cell? ⟨d, 8 * ofs s.al j + i, none⟩ = some v := by
            intro i v hi
            have hr4 := hB.r4.cells (g := d) rfl (8 * ofs s.al j + i) v (by
              have hs := flW_split s.al j j1
              show (bcs (encWs (flW s.al)))[8 * ofs s.al j + i]? = some v
              have hlt : i < (bcs (encWs (obW s.al[j]))).length := (List.getElem?_eq_some_iff.1 hi).1
              rw [hs, encWs_append, encWs_append, bcs_append, bcs_append, List.getElem?_append_right (by rw [bcs_length, encWs_length]; unfold ofs; omega), show 8 * ofs s.al j + i - (bcs (encWs (flW (s.al.take j)))).length = i by rw [bcs_length, encWs_length]; unfold ofs; omega, List.getElem?_append_left hlt]
              exact hi)
            rw [Addr.add_lit, Nat.zero_add] at hr4
            exact hr4
          have hsrcW := hid (fun W (ho : Only [] wc W) (i : Nat) (v : Value) (hi : (bcs (encWs (obW s.al[j])))[i]? = some v) => (ho.cell (p := ⟨d, 8 * ofs s.al j + i, none⟩) (World.block_lt_of_cell? wc _ (hsrc i v hi)) (by simp)).trans (hsrc i v hi))
          clear hsrc
          have hsz5 : (Try.prog.info? 5).map (·.size) = some 1 := by
            obtain ⟨i0, hi, _, hz1, _⟩ := info_parts info5
            rw [hi]
            simp [hz1]
          have hobW := hid (show ∀ v ∈ obW s.al[j], i64 v from fun v hv => hok.aall v (by
            show v ∈ flW s.al
            rw [flW_split s.al j j1]
            exact List.mem_append.2 (.inr (List.mem_append.2 (.inl hv)))))
          rw [hnn'.out, Nat.zero_add] at hO
          have own1 : wc.ownsRow 0 5 1 (.slice (some ⟨g, 0, none⟩) (8 * (flW (s.l ++ [(kk, List.replicate nn 0)])).length) cg) (8 * (flW (s.l ++ [(kk, List.replicate nn 0)])).length) (bcs (encWs (flW (s.l ++ [(kk, List.replicate nn 0)])))) := hB.r1
          have hBB := hid hB
          have hKK' := hid hKK
          have hobl : (bcs (encWs (obW s.al[j]))).length = 16 + 8 * nn := by rw [bcs_length, encWs_length, obW_length, hnn'.out]; omega
          clear hB hKK hlook
          replace lz := hid lz
          generalize hT : 8 * (flW (s.l ++ [(kk, List.replicate nn 0)])).length = T at *
          replace hT := hid hT
          replace hroom := hid hroom
          have hmin := hid (hobl.trans (Nat.min_self _).symm : _ = Nat.min (16 + 8 * nn) (16 + 8 * nn))
          have hfitT := hid (show 8 * (flW s.l).length + (bcs (encWs (obW s.al[j]))).length ≤ T by rw [hobl, ← hT.out, lz.out]; omega)
          clear hobl
          go_upto_region 10 with fail
          go_cut [] (fun wx => Ar wx N a (St.sw { s with l := s.l ++ [s.al[j]] }) ∧ Kep N w wx)
          case first =>
            go_region_law (first
              | (go_simp; go_at_call 28; with_reducible refine (hP.out _).mono ?_; rintro e w2 ⟨rfl, rfl⟩; dsimp only)
              | (go_simp; go_at_call 29; with_reducible refine (hO.out _ (by repeat (first | with_reducible exact Only.refl _ _ | with_reducible refine Only.drew ?_ | with_reducible refine onlyN ?_ _))).mono ?_; rintro e w3 ⟨rfl, n3, rfl⟩; dsimp only)
              | (refine step_copy_own rfl (.tmp 60) (.tmp 65) 28 28 rfl 5 Try.underlying28 hsz5 rfl rfl (B := 0) (e := 5) (n := T) (cap := cg) (xs := bcs (encWs (flW (s.l ++ [(kk, List.replicate nn 0)])))) own1 (bcs (encWs (obW s.al[j]))) hmin.out (hsrcW.out _ (by repeat (first | with_reducible exact Only.refl _ _ | with_reducible refine Only.drew ?_ | with_reducible refine onlyN ?_ _))) hfitT.out (bcs_one _) ?_; intro w5 own5 ho5))
            all_goals
              have o5 : Only [g] wc w5 := Only.trans (by repeat (first | with_reducible exact Only.refl _ _ | with_reducible refine Only.drew ?_ | with_reducible refine onlyN ?_ _)) ho5 (fun x hx => .inl hx)
              go_wp2
              go_meet
              obtain ⟨z1, z2⟩ := copied hBB.out s.al[j] hnn'.out hobW.out own5 o5
              exact ⟨z1, hKK'.out.trans z2⟩
          case rest =>
            obtain ⟨hA2, hK2⟩ := hcut
            clear own1 cg1 cd1 k1 hsrcW hO hP hBB
            have hA3 := hid hA2
            obtain ⟨x1, x2, x4, x5, x6, hX⟩ := hA2
            have d6 : wc.cell? ⟨a, 6, none⟩ = some x6 := hX.cell 6
            have hmx : MapV wc x6 (some L) := by have := hX.mp; rw [show (St.sw { s with l := s.l ++ [s.al[j]] }).mv = some L from hL] at this; exact this
            obtain ⟨q, w6, hq, hrun, hm6, ho6⟩ := upd_run hmx x (8 * ((flW s.l).length : Int) + 8) hx hy
            subst hq
            have fin : Ar w6 N a (St.sw { s with l := s.l ++ [s.al[j]], mv := some (L ++ [(x, 8 * ((flW s.l).length : Int) + 8)]) }) ∧ Kep N w w6 := by
              obtain ⟨z1, z2⟩ := hX.mapped hmx ho6 hm6
              exact ⟨z1, hK2.trans z2⟩
            replace fin := hid fin
            clear hX hA3 hm6 ho6 hmx
            go_wp2
            go_ret2
            exact ⟨rfl, fin.out⟩
        · have h1 := makeS_no (s := s) (by rw [hMk, hMe]; exact hme)
          rw [hMk] at h1
          rw [h1] at hA
          go_wp2
          go_ret2
          exact ⟨rfl, hA, hKK⟩

end
end Go.Proofs.Ytkaklabcfhefaab
