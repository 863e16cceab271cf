/-
  The contract of the second program's Sig: what is read of whatever text. The text is at most 2 to the power of 40 bytes.
-/
import Derived.Test.YtemjhlhioeopnaaDoorXType
import Derived.Test.YtemjhlhioeopnaaDoorQLite
namespace Go.Proofs.YtemjhlhioeopnaaDoor
open Go.RowKit

/-- How Sig ends. -/
def SigPost (l : List UInt8) (w : World) (e : Ending) (w' : World) : Prop := ∃ v, e = .returned (.tuple #[sigV v (sigR l).1.2.1 (sigR l).1.2.2, .int .i64 (sigR l).2]) ∧ Own w' w.heap.size v (sigR l).1.1 ∧ Only [] w w'

theorem rsig_result {w : World} {b : Nat} {v x : Value} {void : Bool} {t : Ty} (h : SigAt w b v void t) (tmps : Array Value) (h2 : tmps.getD 2 undef = .pointer (some ⟨b, 0, none⟩)) (h3 : tmps.getD 3 undef = x) :
    (results Tryd.f55 tmps).run Tryd.prog w = .ok (.tuple #[sigV v void t, x]) w := by
  obtain ⟨c0, c1, c2, c3, _, _, _, _⟩ := h
  rw [results_cell_tmp (p := 2) (u := 3) (ty := 92) Tryd.results55, h2, h3]
  simp [go_sem, c0, c1, c2, c3, sigV]

theorem rsig_end {w w2 : World} {v0 : Value} {x0 : Bool} {t0 : Ty} {l : List UInt8} {ao : Option Addr} {cap : Nat} {ps : List Ty} {void : Bool} {d : Int} {n : List UInt8} {c : Int} (sr : SigAt w2 w.heap.size v0 x0 t0) (ho : Only [] w w2) (hown : Own w2 (w.heap.size + 2) (.slice ao ps.length cap) ps) (hS : sigR l = ((ps, void, (d, n)), c)) (a : Act) (hd : a.defers = []) (h2 : a.tmps.getD 2 undef = .pointer (some ⟨w.heap.size, 0, none⟩)) (h3 : a.tmps.getD 3 undef = .int .i64 c) :
    bodyPost Tryd.prog Tryd.f55 (fun e w' => SigPost l w e w') Exit.ret a ((((w2.setCell ⟨w.heap.size, 0, none⟩ (.slice ao ps.length cap)).setCell ⟨w.heap.size, 1, none⟩ (.bool void)).setCell ⟨w.heap.size, 2, none⟩ (.int .i64 d)).setCell ⟨w.heap.size, 3, none⟩ (.string (str n))) := by
  refine bodyPost_ret (rsig_result ((((sr.put0 (.slice ao ps.length cap)).put1 void).put2 d).put3 n) _ h2 h3) hd ⟨.slice ao ps.length cap, by rw [hS], ?_, ?_⟩
  · rw [hS]
    exact own_mono (own_set (own_set (own_set (own_set hown _ (by simp) _) _ (by simp) _) _ (by simp) _) _ (by simp) _) (by omega)
  · exact (((ho.setCell (.inr (by simp)) _).setCell (.inr (by simp)) _).setCell (.inr (by simp)) _).setCell (.inr (by simp)) _

theorem params_paren (f : Nat) (t : List UInt8) : paramsP (f + 1) (41 :: t) = some ([], t) := rfl

theorem params_step {f : Nat} {l : List UInt8} (h : hasOne l 41 = false) : paramsP (f + 1) l = match firstP 0 l with
    | none => none
    | some (t, r) => (paramsP f r).map fun x => (t :: x.1, x.2) := by
  rw [paramsP, h]
  simp
  cases firstP 0 l <;> rfl

theorem result_type {r : List UInt8} (h : r ≠ [86]) : resultP r = if (typeR r).2 = 0 then some (some (typeR r).1) else none := by
  unfold resultP typeR
  rw [if_neg h]
  cases firstP 0 r with
  | none => rfl
  | some x =>
    obtain ⟨t, q⟩ := x
    cases q with
    | nil => rfl
    | cons a b => rfl

set_option maxHeartbeats 400000 in
set_option maxRecDepth 100000 in
theorem rsig_any (l : List UInt8) (hl : l.length ≤ 1099511627776) (w : World) : Calls Tryd.prog 55 #[.string (str l)] w fun e w' => SigPost l w e w' := by
  have hs := str_size l
  have htl := str_toList l
  obtain ⟨SR, SG⟩ := sig_new2 w (.slice none 0 0) false 0 []
  have o0 := ((Only.refl [] w).alloc (.cells #[.slice none 0 0, .bool false, .int .i64 0, .string ⟨#[]⟩] 92)).alloc (.cells #[.slice none 0 0, .bool false, .int .i64 0, .string ⟨#[]⟩] 92)
  replace SR := hid SR
  replace SG := hid SG
  by_cases hz : l = []
  · subst hz
    go_enter Tryd.func55, Tryd.ntmps55
    go_wp2
    exact bodyPost_ret (rsig_result SR.out _ rfl rfl) rfl ⟨.slice none 0 0, rfl, own_nil _ _, o0⟩
  · have hzi : l.isEmpty = false := by simpa using hz
    have hp : 0 < l.length := List.length_pos_iff.2 hz
    have a0 := run_at l 0 hp
    by_cases h40 : l[0] = 40
    · have hh : hasOne l 40 = true := by
        cases l with
        | nil => simp at hp
        | cons a t => simpa [hasOne] using h40
      rw [h40] at a0
      simp only [Int.ofNat_zero] at a0
      replace hh := hid hh
      clear h40 hz
      go_enter Tryd.func55, Tryd.ntmps55
      go_wp2
      go_loopw [5] (fun i wr => ∃ (q : Nat) (ps : List Ty) (ao : Option Addr) (cap f : Nat), q ≤ l.length ∧ i = .int .i64 (q : Int) ∧ Hid ((paramsP f (l.drop q)).map (fun x => (ps ++ x.1, x.2)) = paramsP l.length (l.drop 1)) ∧ Hid (l.length - q < f) ∧ ps.length ≤ q ∧ SigAt wr w.heap.size (.slice none 0 0) false (0, []) ∧ SigAt wr (w.heap.size + 1) (.slice ao ps.length cap) false (0, []) ∧ Own wr (w.heap.size + 2) (.slice ao ps.length cap) ps ∧ Only [] w wr ∧ w.heap.size + 2 ≤ wr.heap.size) (fun i _ => l.length - (intOf i).toNat)
      case atStart =>
        refine ⟨1, [], none, 0, l.length, by omega, rfl, ?_, by show l.length - 1 < l.length; omega, by simp, SR.out, SG.out, own_nil _ _, o0, by simp⟩
        show _ = _
        cases paramsP l.length (l.drop 1) with
        | none => rfl
        | some x => simp
      case round =>
        obtain ⟨q, ps, ao, cap, f, hq, rfl, hP, hf, hpq, hSR, hSG, hown, hor, hsz⟩ := hrel
        clear SR SG o0 a0
        replace hSR := hid hSR
        replace hSG := hid hSG
        replace hown := hid hown
        obtain ⟨r0, r1, r2, r3, rf0, rf1, rf2, rf3⟩ := hSR.out
        obtain ⟨s0, s1, s2, s3, sf0, sf1, sf2, sf3⟩ := hSG.out
        obtain ⟨f, rfl⟩ : ∃ f', f = f' + 1 := ⟨f - 1, by have := hf.out; omega⟩
        by_cases hlt : q < l.length
        · have g1 : ((q : Int) < (l.length : Int)) := by omega
          have aq := run_at l q hlt
          have hdr := hid (List.drop_eq_getElem_cons hlt)
          generalize l[q] = c at *
          by_cases hc : c = 41
          · subst hc
            have hP2 : Hid (paramsP l.length (l.drop 1) = some (ps, l.drop (q + 1))) := by
              unfold Hid
              rw [← hP.out, hdr.out, params_paren]
              simp
            have hsp := hid (sigP_of hh.out hP2.out)
            have hrf := fun w => run_from l (q + 1) (by omega) w
            simp only [Int.natCast_add, Int.natCast_one] at hrf
            have hlr : (l.drop (q + 1)).length ≤ 9223372036854775807 := by simp; omega
            generalize l.drop (q + 1) = rest at *
            have hrt := str_toList rest
            clear hP hdr hf
            by_cases hV : rest = [86]
            · have hsR : sigR l = if 16 < ps.length then (([], false, (0, [])), 4) else ((ps, true, (0, [])), 0) := by
                unfold sigR
                rw [hsp.out, hV]
                rfl
              subst hV
              clear hsp hP2
              by_cases h16 : 16 < ps.length
              · have g16 : (16 < (ps.length : Int)) := by omega
                rw [if_pos h16] at hsR
                replace hsR := hid hsR
                clear h16
                go_wp2
                exact rsig_end (ps := []) (d := 0) (n := []) (hSR.out.only ((Only.refl [w.heap.size + 1] _).setCell (.inl (by simp)) _) (by simp)) (hor.setCell (.inr (by simp)) _) (own_nil _ _) hsR.out _ rfl rfl rfl
              · have g16 : ¬ (16 < (ps.length : Int)) := by omega
                rw [if_neg h16] at hsR
                replace hsR := hid hsR
                clear h16
                go_wp2
                exact rsig_end (ps := ps) (d := 0) (n := []) (hSR.out.only ((Only.refl [w.heap.size + 1] _).setCell (.inl (by simp)) _) (by simp)) (hor.setCell (.inr (by simp)) _) (own_set hown.out ⟨w.heap.size + 1, 1, none⟩ (by simp) (.bool true)) hsR.out _ rfl rfl rfl
            · have hV2 : (rest == [86]) = false := by simpa using hV
              have hrP := result_type hV
              have HT := rtype_any rest hlr wr
              generalize typeR rest = X at *
              obtain ⟨⟨xd, xn⟩, xe⟩ := X
              simp only [tyV] at HT hrP
              replace HT := hid HT
              clear hV
              replace hrP := hid hrP
              go_wp2_with fail
              refine HT.out.mono ?_
              rintro e w1 ⟨rfl, ho1⟩
              clear aq hrf hrt hV2
              have q1 := ho1.alloc (.cells #[.int .i64 xd, .string (str xn)] 78)
              have o1 := hor.next q1 (by simp)
              replace hSR := hid (hSR.out.only q1 (by simp))
              replace hSG := hid (hSG.out.only q1 (by simp))
              replace hown := hid (own_only hown.out q1 (by simp))
              clear r0 r1 r2 r3 rf0 rf1 rf2 rf3 s0 s1 s2 s3 sf0 sf1 sf2 sf3
              obtain ⟨r0, r1, r2, r3, rf0, rf1, rf2, rf3⟩ := hSR.out
              obtain ⟨s0, s1, s2, s3, sf0, sf1, sf2, sf3⟩ := hSG.out
              by_cases hxe : xe = 0
              · have hsR : sigR l = if 16 < ps.length then (([], false, (0, [])), 4) else ((ps, false, (xd, xn)), 0) := by
                  unfold sigR
                  rw [hsp.out, hrP.out, if_pos hxe]
                  rfl
                subst hxe
                clear hsp hP2 hrP
                by_cases h16 : 16 < ps.length
                · have g16 : (16 < (ps.length : Int)) := by omega
                  rw [if_pos h16] at hsR
                  replace hsR := hid hsR
                  clear h16
                  go_wp2
                  exact rsig_end (ps := []) (d := 0) (n := []) (hSR.out.only (((Only.refl [w.heap.size + 1] _).setCell (.inl (by simp)) _).setCell (.inl (by simp)) _) (by simp)) ((o1.setCell (.inr (by simp)) _).setCell (.inr (by simp)) _) (own_nil _ _) hsR.out _ rfl rfl rfl
                · have g16 : ¬ (16 < (ps.length : Int)) := by omega
                  rw [if_neg h16] at hsR
                  replace hsR := hid hsR
                  clear h16
                  go_wp2
                  exact rsig_end (ps := ps) (d := xd) (n := xn) (hSR.out.only (((Only.refl [w.heap.size + 1] _).setCell (.inl (by simp)) _).setCell (.inl (by simp)) _) (by simp)) ((o1.setCell (.inr (by simp)) _).setCell (.inr (by simp)) _) (own_set (own_set hown.out ⟨w.heap.size + 1, 2, none⟩ (by simp) (.int .i64 xd)) ⟨w.heap.size + 1, 3, none⟩ (by simp) (.string (str xn))) hsR.out _ rfl rfl rfl
              · have e1 : Hid (sigR l = (([], false, (0, [])), 15)) := by
                  unfold Hid sigR
                  rw [hsp.out, hrP.out, if_neg hxe]
                  rfl
                have hxe2 : (xe == 0) = false := by simpa using hxe
                clear hsp hP2 hrP hxe
                go_wp2
                exact rsig_end (ps := []) (d := 0) (n := []) hSR.out o1 (own_nil _ _) e1.out _ rfl rfl rfl
          · have hc1 : ((c.toNat : Int) == 41) = false := byte_ne hc
            have hno : hasOne (l.drop q) 41 = false := by
              rw [hdr.out]
              simpa [hasOne] using hc
            have hst := hid (params_step (f := f) hno)
            have HO := hid (one_any l (by omega) q hq wr)
            clear hdr
            go_wp2_with fail
            refine HO.out.mono ?_
            rintro e w1 ⟨⟨td, tn⟩, n, rfl, hR, ho1⟩
            simp only [tyV]
            clear aq
            unfold OneR at hR
            have q1 := ho1.alloc (.cells #[.int .i64 td, .string (str tn)] 78)
            have o1 := hor.next q1 (by simp)
            replace hSR := hid (hSR.out.only q1 (by simp))
            replace hSG := hid (hSG.out.only q1 (by simp))
            clear r0 r1 r2 r3 rf0 rf1 rf2 rf3 s0 s1 s2 s3 sf0 sf1 sf2 sf3
            obtain ⟨r0, r1, r2, r3, rf0, rf1, rf2, rf3⟩ := hSR.out
            obtain ⟨s0, s1, s2, s3, sf0, sf1, sf2, sf3⟩ := hSG.out
            cases hF : firstP 0 (l.drop q) with
            | none =>
              rw [hF] at hR
              simp only [] at hR
              subst hR
              have e1 : Hid (sigR l = (([], false, (0, [])), 15)) := by
                have h1 : paramsP l.length (l.drop 1) = none := by
                  rw [← hP.out, hst.out, hF]
                  rfl
                unfold Hid sigR sigP
                rw [if_pos hh.out, h1]
                rfl
              clear hF hst hP
              go_wp2
              exact rsig_end (ps := []) (d := 0) (n := []) hSR.out o1 (own_nil _ _) e1.out _ rfl rfl rfl
            | some x =>
              obtain ⟨t', r⟩ := x
              rw [hF] at hR
              simp only [] at hR
              obtain ⟨rfl, hn, hrd, hrl⟩ := hR
              have hlt2 := firstP_lt _ _ _ _ hF
              have hP3 : Hid ((paramsP f r).map (fun x => ((ps ++ [(td, tn)]) ++ x.1, x.2)) = paramsP l.length (l.drop 1)) := by
                have h1 := hP.out
                rw [hst.out, hF] at h1
                simp only [Option.map_map] at h1
                unfold Hid
                rw [← h1]
                congr 1
                funext x
                simp
              simp at hlt2
              obtain ⟨q2, hq2⟩ : ∃ q2 : Nat, q2 = l.length - r.length := ⟨_, rfl⟩
              rw [← hq2] at hrd
              have hn2 : n = (q2 : Int) := by omega
              subst hn2
              rw [hrd] at hP3
              have hb1 : q + 1 ≤ q2 := by omega
              have hb2 : q2 ≤ l.length := by omega
              have hf2 : Hid (l.length - q2 < f) := by have := hf.out; show _ < _; omega
              clear hF hst hP hn hrd hq2 hlt2 hf
              have hownA := hid (own_only hown.out (q1.alloc (.cells #[.int .i64 td, .string (str tn)] 78)) (by simp))
              have htA := ts_one (w1.alloc (.cells #[.int .i64 td, .string (str tn)] 78)) (td, tn) 78
              rw [World.size_alloc] at htA
              replace htA := hid htA
              have hz1 := ho1.size
              go_wp2_with (at_builtin; refine wpList_append_types rfl (.tmp 38) (.tmp 40) rfl rfl rfl hownA.out htA.out (by simp) (by simp; omega) (by simp; omega) ?_)
              intro ao2 cap2 w2 hown2 hgrow2 hao2 _
              have qb := Only.of_grown hgrow2
              have hbl : ∀ x ∈ (Value.ownBlock (.slice ao ps.length cap)).toList, w.heap.size + 2 ≤ x := by
                intro x hx
                cases hv : Value.ownBlock (.slice ao ps.length cap) with
                | none => rw [hv] at hx; simp at hx
                | some y =>
                  rw [hv] at hx
                  simp at hx
                  subst hx
                  exact (hown.out.lt x hv).1
              have oa := (Only.refl [] (w1.alloc (.cells #[.int .i64 td, .string (str tn)] 78))).alloc (.cells #[.int .i64 td, .string (str tn)] 78)
              replace hSR := hid ((hSR.out.only oa (by simp)).only qb (fun h => by have := hbl _ h; omega))
              replace hSG := hid ((hSG.out.only oa (by simp)).only qb (fun h => by have := hbl _ h; omega))
              have o2 := (o1.alloc (.cells #[.int .i64 td, .string (str tn)] 78)).next qb (fun x hx => by have := hbl x hx; omega)
              have hz2 := qb.size
              simp only [World.size_alloc] at hz2
              clear r0 r1 r2 r3 rf0 rf1 rf2 rf3 s0 s1 s2 s3 sf0 sf1 sf2 sf3
              obtain ⟨s0, s1, s2, s3, sf0, sf1, sf2, sf3⟩ := hSG.out
              have hl1 : ps.length + 1 = (ps ++ [(td, tn)]).length := by simp
              rw [hl1] at hown2
              have hown3 := hid (own_set hown2 ⟨w.heap.size + 1, 0, none⟩ (by simp) (.slice ao2 (ps.length + 1) cap2))
              clear hown2 hgrow2 hao2 hl1 qb
              go_wp2
              refine ⟨⟨q2, ps ++ [(td, tn)], ao2, cap2, f, hb2, rfl, hP3, hf2, by simp; omega, ?_, ?_, ?_, ?_, ?_⟩, by simp [intOf]; omega⟩
              · exact hSR.out.only ((Only.refl [w.heap.size + 1] _).setCell (.inl (by simp)) _) (by simp)
              · rw [List.length_append]
                exact hSG.out.put0 _
              · exact hown3.out
              · exact o2.setCell (.inr (by simp)) _
              · simp
                omega
        · have g1 : ¬ ((q : Int) < (l.length : Int)) := by omega
          obtain rfl : q = l.length := by omega
          have e1 : Hid (sigR l = (([], false, (0, [])), 15)) := by
            have h1 : paramsP l.length (l.drop 1) = none := by
              rw [← hP.out, List.drop_of_length_le (Nat.le_refl _)]
              rfl
            unfold Hid sigR sigP
            rw [if_pos hh.out, h1]
            rfl
          clear hP hf
          go_wp2
          exact rsig_end (ps := []) (d := 0) (n := []) hSR.out hor (own_nil _ _) e1.out _ rfl rfl rfl
    · have e1 : sigR l = (([], false, (0, [])), 15) := by
        have : hasOne l 40 = false := by
          cases l with
          | nil => simp at hp
          | cons a t => simpa [hasOne] using h40
        simp [sigR, sigP, this]
      have g1 : ((l[0].toNat : Int) == 40) = false := byte_ne h40
      generalize l[0] = c at *
      simp only [Int.ofNat_zero] at a0
      replace e1 := hid e1
      clear h40 hz
      go_enter Tryd.func55, Tryd.ntmps55
      go_wp2
      exact bodyPost_ret (rsig_result SR.out _ rfl rfl) rfl ⟨.slice none 0 0, by rw [e1.out]; rfl, by rw [e1.out]; exact own_nil _ _, o0⟩

end Go.Proofs.YtemjhlhioeopnaaDoor
