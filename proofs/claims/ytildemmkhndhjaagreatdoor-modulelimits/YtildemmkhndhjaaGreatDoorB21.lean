/-
  What the proof leans on, part 21 of 23. The conditions stand in each theorem.
-/
import Derived.Test.YtildemmkhndhjaaGreatDoorB20
import Derived.Lib.SmallJoins
import Derived.Test.YtildemmkhndhjaaGreatDoorB10
import Derived.Test.YtildemmkhndhjaaGreatDoorB19
import Derived.Test.YtildemmkhndhjaaGreatDoorB06
import Derived.BigQuiet
import Derived.Deep.RegionHeld3
import Derived.Deep.DeepCutAuto
import Derived.Test.YtildemmkhndhjaaGreatDoorB07
namespace Go.Proofs.YtildemmkhndhjaaGreatDoor
open Go.RowKit

theorem encFd_len {f : Fd} (g : FdGood f) : (encFd f).length ≤ 300 := by
  have := g.name
  have := tyText_len g.type
  simp [encFd, e1, eT]
  omega

theorem encMe_len {m : Me} (g : MeGood m) : (encMe m).length ≤ 3000 := by
  have h1 := g.name
  have h2 := g.text
  have h3 := g.code
  have h4 := flat_le encHd 39 m.hands fun x hx => encHd_len (g.hands x hx)
  have h5 := g.many
  unfold encMe
  split
  · simp [e1, eT]
    omega
  · simp only [List.length_append, e1, e2, eT, toBE_length, List.length_cons, List.length_nil]
    omega

theorem encEn_len {e : En} (g : EnGood e) : (encEn e).length ≤ 300 := by
  have h1 := g.text
  unfold encEn
  split
  · simp [e1, eT]
    omega
  · split
    · simp [e1, e8, toBE_length]
    · split
      · simp [e1, e2, toBE_length]
      · simp [e1, e2, toBE_length]

theorem encCl_len {c : Cl} (g : ClGood c) : (encCl c).length ≤ 300000 := by
  have h1 := g.name
  have h2 := g.super
  have h3 := flat_le eT 40 c.faces fun x hx => by have := g.faces x hx; simp [eT]; omega
  have h4 := flat_le encFd 300 c.fields fun x hx => encFd_len (g.fields x hx)
  have h5 := flat_le encMe 3000 c.methods fun x hx => encMe_len (g.methods x hx)
  have h6 := g.manyF
  have h7 := g.manyD
  have h8 := g.manyM
  unfold encCl
  simp only [List.length_append, e1, eT, List.length_cons, List.length_nil] at h3 h4 h5 ⊢
  omega

set_option maxHeartbeats 4000000 in
theorem wcl_any {w : World} {B p g : Nat} {out : List UInt8} (h : WrE w B p g (out, 0)) (c : Cl) (hg : ClGood c) (hF : ClFit c) {P : Nat → Prop} {vf vd vm : Value} (hC : ClAt (SlR w P) vf vd vm c) (hPB : ∀ d, P d → d < B) (hsz : out.length ≤ 50000000000000) :
    Calls Tryz.prog 62 #[tgV p, clV vf vd vm c] w fun r w' => r = .returned (.tuple #[]) ∧ WTo w B p g w' (out ++ encCl c, 0) := by
  obtain ⟨hc1, hc2, mcs, hc3, hME⟩ := hC
  obtain ⟨fo, fc, fd, rfl, hA0⟩ := hc1
  obtain ⟨dO, dc, dd, rfl, hF0⟩ := hc2
  obtain ⟨mo, mc, md, rfl, hM0⟩ := hc3
  have hmeF := hF.methods
  clear hF
  obtain ⟨fl, nm, su, fa, fi, me⟩ := c
  obtain ⟨hfl, hnm, hsu, hmf, hmd, hmm, hfaG, hfiG, hmeG⟩ := hg
  simp only at hfl hnm hsu hmf hmd hmm hfaG hfiG hmeG hmeF hA0 hF0 hM0 hME
  unfold clV encCl
  simp only
  have hl := h.lt
  have hT1 := WTo.refl (h.only (((Only.refl [] w).alloc (.cells #[.pointer (some ⟨p, 0, none⟩)] 76)).alloc (.cells #[.int .i64 fl, .string (str nm), .string (str su), .slice fo fa.length fc, .slice dO fi.length dc, .slice mo me.length mc] 28)) (by simp) (by simp))
  have hO := hid (((Only.refl [p, g] w).alloc (.cells #[.pointer (some ⟨p, 0, none⟩)] 76)).alloc (.cells #[.int .i64 fl, .string (str nm), .string (str su), .slice fo fa.length fc, .slice dO fi.length dc, .slice mo me.length mc] 28))
  have q := box1 w #[.pointer (some ⟨p, 0, none⟩)] 76 (.cells #[.int .i64 fl, .string (str nm), .string (str su), .slice fo fa.length fc, .slice dO fi.length dc, .slice mo me.length mc] 28) (i := 0) rfl
  have q0 := box2 w #[.int .i64 fl, .string (str nm), .string (str su), .slice fo fa.length fc, .slice dO fi.length dc, .slice mo me.length mc] 28 (.cells #[.pointer (some ⟨p, 0, none⟩)] 76) (i := 0) rfl
  have q1 := box2 w #[.int .i64 fl, .string (str nm), .string (str su), .slice fo fa.length fc, .slice dO fi.length dc, .slice mo me.length mc] 28 (.cells #[.pointer (some ⟨p, 0, none⟩)] 76) (i := 1) rfl
  have q2 := box2 w #[.int .i64 fl, .string (str nm), .string (str su), .slice fo fa.length fc, .slice dO fi.length dc, .slice mo me.length mc] 28 (.cells #[.pointer (some ⟨p, 0, none⟩)] 76) (i := 2) rfl
  have q3 := box2 w #[.int .i64 fl, .string (str nm), .string (str su), .slice fo fa.length fc, .slice dO fi.length dc, .slice mo me.length mc] 28 (.cells #[.pointer (some ⟨p, 0, none⟩)] 76) (i := 3) rfl
  have q4 := box2 w #[.int .i64 fl, .string (str nm), .string (str su), .slice fo fa.length fc, .slice dO fi.length dc, .slice mo me.length mc] 28 (.cells #[.pointer (some ⟨p, 0, none⟩)] 76) (i := 4) rfl
  have q5 := box2 w #[.int .i64 fl, .string (str nm), .string (str su), .slice fo fa.length fc, .slice dO fi.length dc, .slice mo me.length mc] 28 (.cells #[.pointer (some ⟨p, 0, none⟩)] 76) (i := 5) rfl
  have Q := hid (And.intro q ((And.intro q0 (And.intro q1 (And.intro q2 (And.intro q3 (And.intro q4 q5)))))))
  clear q q0 q1 q2 q3 q4 q5
  have hp1 : w.heap.size ≠ p := by omega
  have hg1 : w.heap.size ≠ g := by omega
  have hp2 : w.heap.size + 1 ≠ p := by omega
  have hg2 : w.heap.size + 1 ≠ g := by omega
  unfold tgV
  have hB := hid hl
  have RA := hid hA0
  have RF := hid hF0
  have RM := hid hM0
  have RME := hid hME
  have hGa := hid hfaG
  have hGf := hid hfiG
  have hGm := hid hmeG
  have hFm := hid hmeF
  clear hA0 hF0 hM0 hME hfaG hfiG hmeG hmeF
  have hFlen : (fi.flatMap encFd).length ≤ 19300 := by
    have := flat_le encFd 300 fi fun x hx => encFd_len (hGf.out x hx)
    omega
  have hAlen : (fa.flatMap eT).length ≤ 700 := by
    have := flat_le eT 40 fa fun x hx => by have := hGa.out x hx; simp [eT]; omega
    omega
  have HU := u1_lift hT1 [fl] (by simp; omega) (by simp; omega)
  simp only [World.size_alloc] at HU
  simp only [List.map_cons, List.map_nil, List.length_cons, List.length_nil, Nat.zero_add, List.flatMap_cons, List.flatMap_nil, List.append_nil] at HU
  replace HU := hid HU
  go_enter Tryz.func62, Tryz.ntmps62
  obtain ⟨q, q0, q1, q2, q3, q4, q5⟩ := Q.out
  go_wp2_with fail
  refine HU.out.mono ?_
  rintro e w2 ⟨rfl, hT2⟩
  clear HU
  obtain ⟨q, q0, q1, q2, q3, q4, q5⟩ := Q.out
  replace q := hT2.box q hp1 hg1
  replace q0 := hT2.box q0 hp2 hg2
  replace q1 := hT2.box q1 hp2 hg2
  replace q2 := hT2.box q2 hp2 hg2
  replace q3 := hT2.box q3 hp2 hg2
  replace q4 := hT2.box q4 hp2 hg2
  replace q5 := hT2.box q5 hp2 hg2
  have HV := tx_lift hT2 [nm, su] (by simp; omega) (by simp [e1]; omega)
  simp only [List.map_cons, List.map_nil, List.length_cons, List.length_nil, Nat.zero_add, List.flatMap_cons, List.flatMap_nil, List.append_nil, Nat.reduceAdd] at HV
  replace HV := hid HV
  go_wp2_with fail
  refine HV.out.mono ?_
  rintro e w9 ⟨rfl, hT3⟩
  clear HV
  obtain ⟨q, q0, q1, q2, q3, q4, q5⟩ := Q.out
  replace q := hT3.box q hp1 hg1
  replace q0 := hT3.box q0 hp2 hg2
  replace q1 := hT3.box q1 hp2 hg2
  replace q2 := hT3.box q2 hp2 hg2
  replace q3 := hT3.box q3 hp2 hg2
  replace q4 := hT3.box q4 hp2 hg2
  replace q5 := hT3.box q5 hp2 hg2
  have HV := u1_lift hT3 [(fa.length : Int)] (by simp; omega) (by simp [e1, eT]; omega)
  simp only [List.map_cons, List.map_nil, List.length_cons, List.length_nil, Nat.zero_add, List.flatMap_cons, List.flatMap_nil, List.append_nil] at HV
  replace HV := hid HV
  go_wp2_with fail
  refine HV.out.mono ?_
  rintro e w9 ⟨rfl, hT4⟩
  clear HV
  obtain ⟨q, q0, q1, q2, q3, q4, q5⟩ := Q.out
  replace q := hT4.box q hp1 hg1
  replace q0 := hT4.box q0 hp2 hg2
  replace q1 := hT4.box q1 hp2 hg2
  replace q2 := hT4.box q2 hp2 hg2
  replace q3 := hT4.box q3 hp2 hg2
  replace q4 := hT4.box q4 hp2 hg2
  replace q5 := hT4.box q5 hp2 hg2
  have RA2 := RA.out.rs.only (((((Only.refl [p, g] w).alloc (.cells #[.pointer (some ⟨p, 0, none⟩)] 76)).alloc (.cells #[.int .i64 fl, .string (str nm), .string (str su), .slice fo fa.length fc, .slice dO fi.length dc, .slice mo me.length mc] 28)).trans hT4.only (by simp))) (fun hn => by have := hPB _ (RA.out.ok hn); have := hB.out; simp; omega)
  have HV := txs_lift hT4 (cap := fc) fa RA2 (fun hn => hPB _ (RA.out.ok hn)) (fun s hs => by have := hGa.out s hs; omega) (by simp [e1, eT]; omega)
  replace HV := hid HV
  go_wp2_with fail
  refine HV.out.mono ?_
  rintro e w9 ⟨rfl, hT5⟩
  clear HV
  obtain ⟨q, q0, q1, q2, q3, q4, q5⟩ := Q.out
  replace q := hT5.box q hp1 hg1
  replace q0 := hT5.box q0 hp2 hg2
  replace q1 := hT5.box q1 hp2 hg2
  replace q2 := hT5.box q2 hp2 hg2
  replace q3 := hT5.box q3 hp2 hg2
  replace q4 := hT5.box q4 hp2 hg2
  replace q5 := hT5.box q5 hp2 hg2
  have HV := u1_lift hT5 [(fi.length : Int)] (by simp; omega) (by simp [e1, eT] at hAlen ⊢; omega)
  simp only [List.map_cons, List.map_nil, List.length_cons, List.length_nil, Nat.zero_add, List.flatMap_cons, List.flatMap_nil, List.append_nil] at HV
  replace HV := hid HV
  go_wp2_with fail
  refine HV.out.mono ?_
  rintro e w9 ⟨rfl, hT6⟩
  clear HV
  obtain ⟨q, q0, q1, q2, q3, q4, q5⟩ := Q.out
  replace q := hT6.box q hp1 hg1
  replace q0 := hT6.box q0 hp2 hg2
  replace q1 := hT6.box q1 hp2 hg2
  replace q2 := hT6.box q2 hp2 hg2
  replace q3 := hT6.box q3 hp2 hg2
  replace q4 := hT6.box q4 hp2 hg2
  replace q5 := hT6.box q5 hp2 hg2
  go_wp2_with fail
  obtain ⟨OUT, hOUT⟩ : ∃ O, O = out ++ e1 fl ++ (eT nm ++ eT su) ++ e1 (fa.length : Int) ++ fa.flatMap eT ++ e1 (fi.length : Int) := ⟨_, rfl⟩
  rw [← hOUT] at hT6
  have hlen : OUT.length ≤ out.length + 5000 := by rw [hOUT]; simp [e1, eT] at hAlen ⊢; omega
  replace hOUT := hid hOUT
  have hst : Hid (WTo ((w.alloc (.cells #[.pointer (some ⟨p, 0, none⟩)] 76)).alloc (.cells #[.int .i64 fl, .string (str nm), .string (str su), .slice fo fa.length fc, .slice dO fi.length dc, .slice mo me.length mc] 28)) B p g w9 (OUT ++ (fi.take 0).flatMap encFd, 0)) := by simpa [Hid] using hT6
  clear q q0 q1 q2 q3 q4 q5 hT2 hT3 hT4 hT5 hT6 RA RA2 hAlen
  go_loopw [44] (fun i wr => ∃ (j : Nat), j ≤ fi.length ∧ i = .int .i64 (j : Int) ∧ Hid (WTo ((w.alloc (.cells #[.pointer (some ⟨p, 0, none⟩)] 76)).alloc (.cells #[.int .i64 fl, .string (str nm), .string (str su), .slice fo fa.length fc, .slice dO fi.length dc, .slice mo me.length mc] 28)) B p g wr (OUT ++ (fi.take j).flatMap encFd, 0))) (fun i _ => fi.length - (intOf i).toNat)
  case atStart => exact ⟨0, by omega, rfl, hst⟩
  case round =>
    obtain ⟨j, hj, rfl, hT⟩ := hrel
    clear hst
    by_cases hlt : j < fi.length
    · have g4 : ((j : Int) < (fi.length : Int)) := by omega
      have hOw := ((((Only.refl [p, g] w).alloc (.cells #[.pointer (some ⟨p, 0, none⟩)] 76)).alloc (.cells #[.int .i64 fl, .string (str nm), .string (str su), .slice fo fa.length fc, .slice dO fi.length dc, .slice mo me.length mc] 28)).trans hT.out.only (by simp))
      have RH2 := RF.out.rs.only hOw (fun hn => by have := hPB _ (RF.out.ok hn); have := hB.out; simp; omega)
      obtain ⟨off, rfl, c0, c1, c2, c3⟩ := fd_cells RH2 hlt
      have hy := hGf.out fi[j] (List.getElem_mem hlt)
      have hfl : ((fi.take j).flatMap encFd).length ≤ 20000 := by
        have := flat_le encFd 300 (fi.take j) fun x hx => encFd_len (hGf.out x (List.mem_of_mem_take hx))
        have h2 : (fi.take j).length ≤ 64 := by rw [List.length_take]; omega
        omega
      have hsucc := hid (flat_take_succ encFd fi j hlt)
      obtain ⟨q, _⟩ := Q.out
      replace q := hT.out.box q hp1 hg1
      clear RH2
      generalize fi[j] = y at *
      generalize (fi.take j).flatMap encFd = fl2 at *
      have qa := cell_alloc (.cells #[.int .i64 y.1, .string (str y.2.1), .int .i64 y.2.2.1, .string (str y.2.2.2)] 44) q
      obtain ⟨g', hT2, hgl, hpl, hback⟩ := hT.out.hereA (.cells #[.int .i64 y.1, .string (str y.2.1), .int .i64 y.2.2.1, .string (str y.2.2.2)] 44)
      obtain ⟨gz, hW2, hz2, hz3⟩ := hT2
      have HV := (wfield_any hW2 y hy (by simp; omega)).mono fun _ _ h => And.intro h.1 (wto_trans hz3 hz2 h.2)
      unfold tgV fdV at HV
      clear hOw
      replace HV := hid HV
      go_wp2_with fail
      refine HV.out.mono ?_
      rintro e w3 ⟨rfl, hT4⟩
      clear HV
      go_wp2_with fail
      refine ⟨⟨j + 1, by omega, by go_num, ?_⟩, by simp [intOf]; omega⟩
      have := hback _ _ hT4
      rw [hsucc.out]
      simpa [Hid] using this
    · have g4 : ¬ ((j : Int) < (fi.length : Int)) := by omega
      rw [List.take_of_length_le (by omega)] at hT
      have hT7 := hT.out
      obtain ⟨q, q0, q1, q2, q3, q4, q5⟩ := Q.out
      replace q := hT7.box q hp1 hg1
      replace q0 := hT7.box q0 hp2 hg2
      replace q1 := hT7.box q1 hp2 hg2
      replace q2 := hT7.box q2 hp2 hg2
      replace q3 := hT7.box q3 hp2 hg2
      replace q4 := hT7.box q4 hp2 hg2
      replace q5 := hT7.box q5 hp2 hg2
      clear hT
      have HV := u1_lift hT7 [(me.length : Int)] (by simp; omega) (by rw [List.length_append]; simp only [List.length_cons, List.length_nil]; omega)
      simp only [List.map_cons, List.map_nil, List.length_cons, List.length_nil, Nat.zero_add, List.flatMap_cons, List.flatMap_nil, List.append_nil] at HV
      replace HV := hid HV
      go_wp2_with fail
      refine HV.out.mono ?_
      rintro e w10 ⟨rfl, hT8⟩
      clear HV
      obtain ⟨q, q0, q1, q2, q3, q4, q5⟩ := Q.out
      replace q := hT8.box q hp1 hg1
      replace q0 := hT8.box q0 hp2 hg2
      replace q1 := hT8.box q1 hp2 hg2
      replace q2 := hT8.box q2 hp2 hg2
      replace q3 := hT8.box q3 hp2 hg2
      replace q4 := hT8.box q4 hp2 hg2
      replace q5 := hT8.box q5 hp2 hg2
      go_wp2_with fail
      obtain ⟨OUT2, hOUT2⟩ : ∃ O, O = OUT ++ fi.flatMap encFd ++ e1 (me.length : Int) := ⟨_, rfl⟩
      rw [← hOUT2] at hT8
      have hlen2 : OUT2.length ≤ OUT.length + 20000 := by rw [hOUT2, List.length_append, List.length_append]; simp only [e1, List.length_cons, List.length_nil]; omega
      replace hOUT2 := hid hOUT2
      have hst : Hid (WTo ((w.alloc (.cells #[.pointer (some ⟨p, 0, none⟩)] 76)).alloc (.cells #[.int .i64 fl, .string (str nm), .string (str su), .slice fo fa.length fc, .slice dO fi.length dc, .slice mo me.length mc] 28)) B p g w10 (OUT2 ++ (me.take 0).flatMap encMe, 0)) := by simpa [Hid] using hT8
      clear q q0 q1 q2 q3 q4 q5 hT7 hT8
      go_loopw [62] (fun i wr => ∃ (j : Nat), j ≤ me.length ∧ i = .int .i64 (j : Int) ∧ Hid (WTo ((w.alloc (.cells #[.pointer (some ⟨p, 0, none⟩)] 76)).alloc (.cells #[.int .i64 fl, .string (str nm), .string (str su), .slice fo fa.length fc, .slice dO fi.length dc, .slice mo me.length mc] 28)) B p g wr (OUT2 ++ (me.take j).flatMap encMe, 0))) (fun i _ => me.length - (intOf i).toNat)
      case atStart => exact ⟨0, by omega, rfl, hst⟩
      case round =>
        obtain ⟨j, hj, rfl, hT⟩ := hrel
        clear hst
        by_cases hlt : j < me.length
        · have g4 : ((j : Int) < (me.length : Int)) := by omega
          have hOw := ((((Only.refl [p, g] w).alloc (.cells #[.pointer (some ⟨p, 0, none⟩)] 76)).alloc (.cells #[.int .i64 fl, .string (str nm), .string (str su), .slice fo fa.length fc, .slice dO fi.length dc, .slice mo me.length mc] 28)).trans hT.out.only (by simp))
          have RH2 := RM.out.rs.only hOw (fun hn => by have := hPB _ (RM.out.ok hn); have := hB.out; simp; omega)
          obtain ⟨off, vp, vc, vh, rfl, hMA, c0, c1, c2, c3, c4, c5, c6, c7, c8, c9⟩ := me_cells RH2 RME.out hlt
          obtain ⟨po, pc, _, rfl, _⟩ := hMA.params
          obtain ⟨co, cc, _, rfl, _⟩ := hMA.code
          obtain ⟨ho, hc, _, rfl, _⟩ := hMA.hands
          have hyF := hFm.out me[j] (List.getElem_mem hlt)
          have hy := hGm.out me[j] (List.getElem_mem hlt)
          have hfl : ((me.take j).flatMap encMe).length ≤ 200000 := by
            have := flat_le encMe 3000 (me.take j) fun x hx => encMe_len (hGm.out x (List.mem_of_mem_take hx))
            have h2 : (me.take j).length ≤ 64 := by rw [List.length_take]; omega
            omega
          have hsucc := hid (flat_take_succ encMe me j hlt)
          obtain ⟨q, _⟩ := Q.out
          replace q := hT.out.box q hp1 hg1
          clear RH2
          generalize me[j] = y at *
          generalize (me.take j).flatMap encMe = fl2 at *
          have qa := cell_alloc (.cells #[.int .i64 y.flags, .string (str y.name), .slice po y.sig.1.length pc, .bool y.sig.2.1, .int .i64 y.sig.2.2.1, .string (str y.sig.2.2.2), .int .i64 y.stack, .int .i64 y.locals, .slice co y.code.length cc, .slice ho y.hands.length hc] 41) q
          obtain ⟨g', hT2, hgl, hpl, hback⟩ := hT.out.hereA (.cells #[.int .i64 y.flags, .string (str y.name), .slice po y.sig.1.length pc, .bool y.sig.2.1, .int .i64 y.sig.2.2.1, .string (str y.sig.2.2.2), .int .i64 y.stack, .int .i64 y.locals, .slice co y.code.length cc, .slice ho y.hands.length hc] 41)
          obtain ⟨gz, hW2, hz2, hz3⟩ := hT2
          have hMA2 := hMA.only (hOw.alloc (.cells #[.int .i64 y.flags, .string (str y.name), .slice po y.sig.1.length pc, .bool y.sig.2.1, .int .i64 y.sig.2.2.1, .string (str y.sig.2.2.2), .int .i64 y.stack, .int .i64 y.locals, .slice co y.code.length cc, .slice ho y.hands.length hc] 41)) (fun d hd => by have := hPB d hd; have := hB.out; simp; omega)
          have HV := (wmeth_any hW2 y hy hyF hMA2 hPB (by simp; omega)).mono fun _ _ h => And.intro h.1 (wto_trans hz3 hz2 h.2)
          unfold tgV meV at HV
          clear hMA hMA2 hOw
          replace HV := hid HV
          go_wp2_with fail
          refine HV.out.mono ?_
          rintro e w3 ⟨rfl, hT4⟩
          clear HV
          go_wp2_with fail
          refine ⟨⟨j + 1, by omega, by go_num, ?_⟩, by simp [intOf]; omega⟩
          have := hback _ _ hT4
          rw [hsucc.out]
          simpa [Hid] using this
        · have g4 : ¬ ((j : Int) < (me.length : Int)) := by omega
          go_wp2_with fail
          go_end0
          refine ⟨rfl, ?_⟩
          have := wto_trans hO.out (.inl rfl) hT.out
          rw [List.take_of_length_le (by omega), hOUT2.out, hOUT.out] at this
          simpa using this

end Go.Proofs.YtildemmkhndhjaaGreatDoor
namespace Go.Proofs.YtildemmkhndhjaaGreatDoor
open Go.RowKit

theorem rs_fresh (w : World) (cs : Array Value) (t : TypeId) (fr : Nat × Nat) : RS (w.alloc (.cells cs t fr)) (some ⟨w.heap.size, 0, none⟩) cs.toList w.heap.size :=
  .inr ⟨0, rfl, fun j u hj => by
    rw [Nat.zero_add, World.cell?_alloc_mark]
    simpa using hj⟩

set_option maxHeartbeats 4000000 in
theorem wmod_any {w : World} {B p g : Nat} {out : List UInt8} (h : WrE w B p g (out, 0)) (m : Mo) (hg : MoGood m) (hF : MoFit m) {P : Nat → Prop} {vp vc : Value} (hM : MoAt (SlR w P) vp vc m) (hPB : ∀ d, P d → d < B) (hsz : out.length ≤ 1000000000000) :
    Calls Tryz.prog 25 #[tgV p, .agg #[vp, vc]] w fun r w' => r = .returned (.tuple #[]) ∧ WTo w B p g w' (out ++ encM m, 0) := by
  obtain ⟨hp0, ccs, hc0, hCE⟩ := hM
  obtain ⟨po, pc, pd, rfl, hP0⟩ := hp0
  obtain ⟨co, cc, cd, rfl, hC0⟩ := hc0
  have hclF := hF.classes
  clear hF
  obtain ⟨pl, cl⟩ := m
  obtain ⟨hmp, hmc, hplG, hclG⟩ := hg
  simp only at hmp hmc hplG hclG hclF hP0 hC0 hCE
  unfold encM
  simp only
  have hl := h.lt
  have hT1 := WTo.refl (h.only (((Only.refl [] w).alloc (.cells #[.pointer (some ⟨p, 0, none⟩)] 76)).alloc (.cells #[.slice po pl.length pc, .slice co cl.length cc] 32)) (by simp) (by simp))
  have hO := hid (((Only.refl [p, g] w).alloc (.cells #[.pointer (some ⟨p, 0, none⟩)] 76)).alloc (.cells #[.slice po pl.length pc, .slice co cl.length cc] 32))
  have q := box1 w #[.pointer (some ⟨p, 0, none⟩)] 76 (.cells #[.slice po pl.length pc, .slice co cl.length cc] 32) (i := 0) rfl
  have q0 := box2 w #[.slice po pl.length pc, .slice co cl.length cc] 32 (.cells #[.pointer (some ⟨p, 0, none⟩)] 76) (i := 0) rfl
  have q1 := box2 w #[.slice po pl.length pc, .slice co cl.length cc] 32 (.cells #[.pointer (some ⟨p, 0, none⟩)] 76) (i := 1) rfl
  have Q := hid (And.intro q ((And.intro q0 q1)))
  clear q q0 q1
  have hp1 : w.heap.size ≠ p := by omega
  have hg1 : w.heap.size ≠ g := by omega
  have hp2 : w.heap.size + 1 ≠ p := by omega
  have hg2 : w.heap.size + 1 ≠ g := by omega
  unfold tgV
  have hB := hid hl
  have RP := hid hP0
  have RC := hid hC0
  have RCE := hid hCE
  have hGe := hid hplG
  have hGc := hid hclG
  have hFc := hid hclF
  clear hP0 hC0 hCE hplG hclG hclF
  have hElen : (pl.flatMap encEn).length ≤ 1250000 := by
    have := flat_le encEn 300 pl fun x hx => encEn_len (hGe.out x hx)
    omega
  have HM := bytes_lift (hT1.alloc (.cells #[.int .u8 75, .int .u8 69, .int .u8 89, .int .u8 49] 5 (4, 5))) (bs := magicL) (cap := 4) (rs_fresh _ #[.int .u8 75, .int .u8 69, .int .u8 89, .int .u8 49] 5 (4, 5)) (by simp) (by simp [magicL]; omega)
  simp only [World.size_alloc] at HM
  replace HM := hid HM
  have kc := Joins.run_convert_bytes_const_at (P := Tryz.prog) ((w.alloc (.cells #[.pointer (some ⟨p, 0, none⟩)] 76)).alloc (.cells #[.slice po pl.length pc, .slice co cl.length cc] 32)) 38 5 #[.int .u8 75, .int .u8 69, .int .u8 89, .int .u8 49] 4 4 (w.heap.size + 1 + 1) (by simp) Tryz.underlying38 Tryz.underlying5
  go_enter Tryz.func25, Tryz.ntmps25
  obtain ⟨q, q0, q1⟩ := Q.out
  go_wp2_with fail
  refine HM.out.mono ?_
  rintro e w2 ⟨rfl, hT2⟩
  clear HM
  obtain ⟨q, q0, q1⟩ := Q.out
  replace q := hT2.box q hp1 hg1
  replace q0 := hT2.box q0 hp2 hg2
  replace q1 := hT2.box q1 hp2 hg2
  have HV := u2_lift hT2 [(pl.length : Int)] (by simp; omega) (by simp [magicL]; omega)
  simp only [List.map_cons, List.map_nil, List.length_cons, List.length_nil, Nat.zero_add, List.flatMap_cons, List.flatMap_nil, List.append_nil] at HV
  replace HV := hid HV
  go_wp2_with fail
  refine HV.out.mono ?_
  rintro e w9 ⟨rfl, hT3⟩
  clear HV
  obtain ⟨q, q0, q1⟩ := Q.out
  replace q := hT3.box q hp1 hg1
  replace q0 := hT3.box q0 hp2 hg2
  replace q1 := hT3.box q1 hp2 hg2
  go_wp2_with fail
  obtain ⟨OUT, hOUT⟩ : ∃ O, O = out ++ magicL ++ e2 (pl.length : Int) := ⟨_, rfl⟩
  rw [← hOUT] at hT3
  have hlen : OUT.length ≤ out.length + 10 := by rw [hOUT]; simp [e2, magicL, toBE_length]
  replace hOUT := hid hOUT
  have hst : Hid (WTo ((w.alloc (.cells #[.pointer (some ⟨p, 0, none⟩)] 76)).alloc (.cells #[.slice po pl.length pc, .slice co cl.length cc] 32)) B p g w9 (OUT ++ (pl.take 0).flatMap encEn, 0)) := by simpa [Hid] using hT3
  clear q q0 q1 hT2 hT3
  go_loopw [23] (fun i wr => ∃ (j : Nat), j ≤ pl.length ∧ i = .int .i64 (j : Int) ∧ Hid (WTo ((w.alloc (.cells #[.pointer (some ⟨p, 0, none⟩)] 76)).alloc (.cells #[.slice po pl.length pc, .slice co cl.length cc] 32)) B p g wr (OUT ++ (pl.take j).flatMap encEn, 0))) (fun i _ => pl.length - (intOf i).toNat)
  case atStart => exact ⟨0, by omega, rfl, hst⟩
  case round =>
    obtain ⟨j, hj, rfl, hT⟩ := hrel
    clear hst
    by_cases hlt : j < pl.length
    · have g4 : ((j : Int) < (pl.length : Int)) := by omega
      have hOw := ((((Only.refl [p, g] w).alloc (.cells #[.pointer (some ⟨p, 0, none⟩)] 76)).alloc (.cells #[.slice po pl.length pc, .slice co cl.length cc] 32)).trans hT.out.only (by simp))
      have RH2 := RP.out.rs.only hOw (fun hn => by have := hPB _ (RP.out.ok hn); have := hB.out; simp; omega)
      obtain ⟨off, rfl, hcell⟩ : ∃ off, po = some ⟨pd, off, none⟩ ∧ _ := (ES.of_rs RH2).resolve_left (fun e => by rw [e] at hlt; simp at hlt)
      obtain ⟨c0, c1, c2, c3, c4, c5⟩ := hcell j hlt
      clear hcell
      have hy := hGe.out pl[j] (List.getElem_mem hlt)
      have hfl : ((pl.take j).flatMap encEn).length ≤ 1300000 := by
        have := flat_le encEn 300 (pl.take j) fun x hx => encEn_len (hGe.out x (List.mem_of_mem_take hx))
        have h2 : (pl.take j).length ≤ 4096 := by rw [List.length_take]; omega
        omega
      have hsucc := hid (flat_take_succ encEn pl j hlt)
      obtain ⟨q, _⟩ := Q.out
      replace q := hT.out.box q hp1 hg1
      clear RH2
      generalize pl[j] = y at *
      generalize (pl.take j).flatMap encEn = fl2 at *
      have qa := cell_alloc (.cells #[.int .i64 y.1, .string (str y.2.1), .int .i64 y.2.2.1, .int .i64 y.2.2.2.1, .int .i64 y.2.2.2.2.1, .int .i64 y.2.2.2.2.2] 90) q
      obtain ⟨g', hT2, hgl, hpl, hback⟩ := hT.out.hereA (.cells #[.int .i64 y.1, .string (str y.2.1), .int .i64 y.2.2.1, .int .i64 y.2.2.2.1, .int .i64 y.2.2.2.2.1, .int .i64 y.2.2.2.2.2] 90)
      obtain ⟨gz, hW2, hz2, hz3⟩ := hT2
      have HV := (wentry_any hW2 y hy (by simp; omega)).mono fun _ _ h => And.intro h.1 (wto_trans hz3 hz2 h.2)
      unfold tgV enV at HV
      clear hOw
      replace HV := hid HV
      go_wp2_with fail
      refine HV.out.mono ?_
      rintro e w3 ⟨rfl, hT4⟩
      clear HV
      go_wp2_with fail
      refine ⟨⟨j + 1, by omega, by go_num, ?_⟩, by simp [intOf]; omega⟩
      have := hback _ _ hT4
      rw [hsucc.out]
      simpa [Hid] using this
    · have g4 : ¬ ((j : Int) < (pl.length : Int)) := by omega
      rw [List.take_of_length_le (by omega)] at hT
      have hT7 := hT.out
      obtain ⟨q, q0, q1⟩ := Q.out
      replace q := hT7.box q hp1 hg1
      replace q0 := hT7.box q0 hp2 hg2
      replace q1 := hT7.box q1 hp2 hg2
      clear hT
      have HV := u1_lift hT7 [(cl.length : Int)] (by simp; omega) (by rw [List.length_append]; simp only [List.length_cons, List.length_nil]; omega)
      simp only [List.map_cons, List.map_nil, List.length_cons, List.length_nil, Nat.zero_add, List.flatMap_cons, List.flatMap_nil, List.append_nil] at HV
      replace HV := hid HV
      go_wp2_with fail
      refine HV.out.mono ?_
      rintro e w10 ⟨rfl, hT8⟩
      clear HV
      obtain ⟨q, q0, q1⟩ := Q.out
      replace q := hT8.box q hp1 hg1
      replace q0 := hT8.box q0 hp2 hg2
      replace q1 := hT8.box q1 hp2 hg2
      go_wp2_with fail
      obtain ⟨OUT2, hOUT2⟩ : ∃ O, O = OUT ++ pl.flatMap encEn ++ e1 (cl.length : Int) := ⟨_, rfl⟩
      rw [← hOUT2] at hT8
      have hlen2 : OUT2.length ≤ OUT.length + 1300000 := by rw [hOUT2, List.length_append, List.length_append]; simp only [e1, List.length_cons, List.length_nil]; omega
      replace hOUT2 := hid hOUT2
      have hst : Hid (WTo ((w.alloc (.cells #[.pointer (some ⟨p, 0, none⟩)] 76)).alloc (.cells #[.slice po pl.length pc, .slice co cl.length cc] 32)) B p g w10 (OUT2 ++ (cl.take 0).flatMap encCl, 0)) := by simpa [Hid] using hT8
      clear q q0 q1 hT7 hT8
      go_loopw [41] (fun i wr => ∃ (j : Nat), j ≤ cl.length ∧ i = .int .i64 (j : Int) ∧ Hid (WTo ((w.alloc (.cells #[.pointer (some ⟨p, 0, none⟩)] 76)).alloc (.cells #[.slice po pl.length pc, .slice co cl.length cc] 32)) B p g wr (OUT2 ++ (cl.take j).flatMap encCl, 0))) (fun i _ => cl.length - (intOf i).toNat)
      case atStart => exact ⟨0, by omega, rfl, hst⟩
      case round =>
        obtain ⟨j, hj, rfl, hT⟩ := hrel
        clear hst
        by_cases hlt : j < cl.length
        · have g4 : ((j : Int) < (cl.length : Int)) := by omega
          have hOw := ((((Only.refl [p, g] w).alloc (.cells #[.pointer (some ⟨p, 0, none⟩)] 76)).alloc (.cells #[.slice po pl.length pc, .slice co cl.length cc] 32)).trans hT.out.only (by simp))
          have RH2 := RC.out.rs.only hOw (fun hn => by have := hPB _ (RC.out.ok hn); have := hB.out; simp; omega)
          obtain ⟨off, vf, vd, vm, rfl, hMA, c0, c1, c2, c3, c4, c5⟩ := cl_cells RH2 RCE.out hlt
          obtain ⟨fo, fc, _, rfl, _⟩ := hMA.faces
          obtain ⟨dO, dc, _, rfl, _⟩ := hMA.fields
          obtain ⟨_, ⟨mo, mc, _, rfl, _⟩, _⟩ := hMA.methods
          have hyF := hFc.out cl[j] (List.getElem_mem hlt)
          have hy := hGc.out cl[j] (List.getElem_mem hlt)
          have hfl : ((cl.take j).flatMap encCl).length ≤ 20000000 := by
            have := flat_le encCl 300000 (cl.take j) fun x hx => encCl_len (hGc.out x (List.mem_of_mem_take hx))
            have h2 : (cl.take j).length ≤ 64 := by rw [List.length_take]; omega
            omega
          have hsucc := hid (flat_take_succ encCl cl j hlt)
          obtain ⟨q, _⟩ := Q.out
          replace q := hT.out.box q hp1 hg1
          clear RH2
          generalize cl[j] = y at *
          generalize (cl.take j).flatMap encCl = fl2 at *
          have qa := cell_alloc (.cells #[.int .i64 y.flags, .string (str y.name), .string (str y.super), .slice fo y.faces.length fc, .slice dO y.fields.length dc, .slice mo y.methods.length mc] 28) q
          obtain ⟨g', hT2, hgl, hpl, hback⟩ := hT.out.hereA (.cells #[.int .i64 y.flags, .string (str y.name), .string (str y.super), .slice fo y.faces.length fc, .slice dO y.fields.length dc, .slice mo y.methods.length mc] 28)
          obtain ⟨gz, hW2, hz2, hz3⟩ := hT2
          have hMA2 := hMA.only (hOw.alloc (.cells #[.int .i64 y.flags, .string (str y.name), .string (str y.super), .slice fo y.faces.length fc, .slice dO y.fields.length dc, .slice mo y.methods.length mc] 28)) (fun d hd => by have := hPB d hd; have := hB.out; simp; omega)
          have HV := (wcl_any hW2 y hy hyF hMA2 hPB (by simp; omega)).mono fun _ _ h => And.intro h.1 (wto_trans hz3 hz2 h.2)
          unfold tgV clV at HV
          clear hMA hMA2 hOw
          replace HV := hid HV
          go_wp2_with fail
          refine HV.out.mono ?_
          rintro e w3 ⟨rfl, hT4⟩
          clear HV
          go_wp2_with fail
          refine ⟨⟨j + 1, by omega, by go_num, ?_⟩, by simp [intOf]; omega⟩
          have := hback _ _ hT4
          rw [hsucc.out]
          simpa [Hid] using this
        · have g4 : ¬ ((j : Int) < (cl.length : Int)) := by omega
          go_wp2_with fail
          go_end0
          refine ⟨rfl, ?_⟩
          have := wto_trans hO.out (.inl rfl) hT.out
          rw [List.take_of_length_le (by omega), hOUT2.out, hOUT.out] at this
          simpa using this

end Go.Proofs.YtildemmkhndhjaaGreatDoor
namespace Go.Proofs.YtildemmkhndhjaaGreatDoor
open Go.RowKit

theorem encM_len {m : Mo} (g : MoGood m) : (encM m).length ≤ 30000000 := by
  have h1 := flat_le encEn 300 m.pool fun x hx => encEn_len (g.pool x hx)
  have h2 := flat_le encCl 300000 m.classes fun x hx => encCl_len (g.classes x hx)
  have h3 := g.manyP
  have h4 := g.manyC
  unfold encM
  simp only [List.length_append, magicL, e1, e2, toBE_length, List.length_cons, List.length_nil]
  omega

set_option maxHeartbeats 4000000 in
theorem mwrite_any {w : World} (hg : Ety w) {P : Nat → Prop} (m : Mo) (hF : MoFit m) (hN : ∀ e ∈ m.pool, -9223372036854775808 ≤ e.2.2.1 ∧ e.2.2.1 ≤ 9223372036854775807) {vp vc : Value} (hM : MoAt (SlR w P) vp vc m) :
    Calls Tryz.prog 10 #[.agg #[vp, vc]] w fun e w' => ∃ ao cap v, e = .returned (.tuple #[.slice ao (writeM m).1.length cap, v]) ∧ w'.ownsRow w.heap.size 5 1 (.slice ao (writeM m).1.length cap) (writeM m).1.length (bcs (writeM m).1) ∧ EB w' w.heap.size v (writeM m).2 ∧ Only [] w w' := by
  have hM' : MoAt (SlR w fun d => d < w.heap.size) vp vc m := hM.mono fun d _ h => h
  obtain ⟨po, pc, _, rfl, _⟩ := hM.pool
  obtain ⟨_, ⟨co, cc, _, rfl, _⟩, _⟩ := hM.classes
  have o0 := (Only.refl [] w).alloc (.cells #[.slice po m.pool.length pc, .slice co m.classes.length cc] 32)
  have b0 : Hid ((w.alloc (.cells #[.slice po m.pool.length pc, .slice co m.classes.length cc] 32)).cell? ⟨w.heap.size, 0, none⟩ = some (.slice po m.pool.length pc) ∧ (w.alloc (.cells #[.slice po m.pool.length pc, .slice co m.classes.length cc] 32)).cell? ⟨w.heap.size, 1, none⟩ = some (.slice co m.classes.length cc)) := ⟨by rw [cell_new]; rfl, by rw [cell_new]; rfl⟩
  have hs0 : Hid (w.heap.size < (w.alloc (.cells #[.slice po m.pool.length pc, .slice co m.classes.length cc] 32)).heap.size) := by simp [Hid]
  have HC := hid (mcheck_any (hg.only0 o0) (P := P) m hF (hM.only0 o0))
  have hGood : Hid ((checkM m).2.2.2 = 0 → MoGood m) := fun h => mo_good h hN
  clear hM hg hN
  replace hM' := hid hM'
  replace hF := hid hF
  obtain ⟨R, hR⟩ : ∃ R, R = writeM m := ⟨_, rfl⟩
  rw [← hR]
  unfold writeM at hR
  generalize checkM m = X at *
  replace hR := hid hR
  by_cases hX : X.2.2.2 = 0
  · have hG := hGood.out hX
    have hlen := encM_len hG
    replace hG := hid hG
    go_enter Tryz.func10, Tryz.ntmps10
    go_wp2_with fail
    refine HC.out.mono ?_
    rintro e w1 ⟨v, rfl, hev, ho1⟩
    obtain rfl : v = .nilIface := by
      rcases hev.ev.nil_iff with ⟨_, h⟩ | ⟨h, _⟩
      · exact h
      · exact absurd hX h
    clear hev
    have o1 := hid (o0.next ho1 (by simp))
    have hs1 : Hid (w.heap.size < w1.heap.size) := Nat.lt_of_lt_of_le hs0.out ho1.size
    have b1 : Hid (w1.cell? ⟨w.heap.size, 0, none⟩ = some (.slice po m.pool.length pc) ∧ w1.cell? ⟨w.heap.size, 1, none⟩ = some (.slice co m.classes.length cc)) := ⟨(ho1.cell (p := ⟨w.heap.size, 0, none⟩) hs0.out (by simp)).trans b0.out.1, (ho1.cell (p := ⟨w.heap.size, 1, none⟩) hs0.out (by simp)).trans b0.out.2⟩
    have HW := hid (newWriter_any w1 w1.heap.size (Nat.le_refl _))
    clear HC b0
    go_wp2_with fail
    refine HW.out.mono ?_
    rintro e w2 ⟨rfl, hW2, ho2⟩
    clear HW
    have hs2 := hW2.lt
    have oB := (Only.refl [] w2).alloc (.cells #[.pointer (some ⟨w1.heap.size, 0, none⟩)] 76)
    have o2 := hid (o1.out.next (ho2.next oB (by simp)) (by simp))
    have c0 := ((ho2.next oB (by simp)).cell (p := ⟨w.heap.size, 0, none⟩) hs1.out (by simp)).trans b1.out.1
    have c1 := ((ho2.next oB (by simp)).cell (p := ⟨w.heap.size, 1, none⟩) hs1.out (by simp)).trans b1.out.2
    have ct : Hid ((w2.alloc (.cells #[.pointer (some ⟨w1.heap.size, 0, none⟩)] 76)).cell? ⟨w2.heap.size, 0, none⟩ = some (.pointer (some ⟨w1.heap.size, 0, none⟩))) := by rw [cell_new]; rfl
    have HT := wmod_any (hW2.only oB (by simp) (by simp)) m hG.out hF.out (hM'.out.only0 o2.out) (fun d hd => by have := hs1.out; omega) (by simp)
    unfold tgV at HT
    rw [List.nil_append] at HT
    replace HT := hid HT
    go_wp2_with fail
    refine HT.out.mono ?_
    rintro e w3 ⟨rfl, hT⟩
    clear HT c0 c1
    generalize encM m = bs at *
    have t3 := hT.box ct.out (by omega) (by omega)
    have o3 := hid (o2.out.next (hT.only) (by simp; have := hs1.out; omega))
    obtain ⟨g', hW3, _, _⟩ := hT
    have HL := hid (wlen_any hW3)
    have HD := hid (wdone_any hW3 (by simp only; omega))
    simp only at HL HD
    go_wp2_with fail
    refine HL.out.mono ?_
    rintro e w4 ⟨rfl, rfl⟩
    by_cases hbig : 262144 < bs.length
    · have gb : (262144 : Int) < (bs.length : Int) := by omega
      clear HL HD
      go_wp2_with fail
      go_ret2
      have hRR : R = ([], 0, 0, 0, 5) := by rw [hR.out, if_pos hX, if_pos hbig]
      subst hRR
      exact ⟨none, 0, _, rfl, World.ownsRow_nil _ _ _ _, .bad (by decide) (by have := o3.out.size; omega) (bad_new _ 0 0 0 5), o3.out.alloc _⟩
    · have gb : ¬ (262144 : Int) < (bs.length : Int) := by omega
      have ed : wDone (bs, 0) = bs := by simp [wDone]
      rw [ed] at HD
      clear HL
      go_wp2_with fail
      refine HD.out.mono ?_
      rintro e w5 ⟨ao, cap, rfl, hown, ho5⟩
      go_wp2_with fail
      go_ret2
      have hRR : R = (bs, ok4) := by rw [hR.out, if_pos hX, if_neg hbig]
      subst hRR
      exact ⟨ao, cap, _, rfl, rows_mono hown o3.out.size, .no rfl, o3.out.next ho5 (by simp)⟩
  · have hRR : R = ([], X) := by rw [hR.out, if_neg hX]
    subst hRR
    go_enter Tryz.func10, Tryz.ntmps10
    go_wp2_with fail
    refine HC.out.mono ?_
    rintro e w1 ⟨v, rfl, hev, ho1⟩
    rcases hev.ev.nil_iff with ⟨h, _⟩ | ⟨_, t, u, rfl⟩
    · exact absurd h hX
    go_wp2_with fail
    go_ret2
    exact ⟨none, 0, _, rfl, World.ownsRow_nil _ _ _ _, hev.down o0.size, o0.next ho1 (by simp)⟩

end Go.Proofs.YtildemmkhndhjaaGreatDoor
namespace Go.Proofs.YtildemmkhndhjaaGreatDoor
open Go.RowKit

def key7 : List UInt8 := [75, 69, 89, 49, 0, 0, 0]
def key6 : List UInt8 := [75, 69, 89, 49, 0, 0]

theorem read7 : readM key7 = (mo0, ok4) := by kernel_rfl
theorem read6 : readM key6 = (mo0, 0, 0, 6, 11) := by kernel_rfl
theorem write0 : writeM mo0 = (key7, ok4) := by kernel_rfl

set_option maxHeartbeats 4000000 in
set_option maxRecDepth 100000 in
theorem known5 {w : World} (hg : Ety w) : Calls Tryz.prog 6 #[] w fun e w' => e = .returned (.bool true) ∧ Only [] w w' := by
  have kc1 := Joins.run_convert_bytes_const_at (P := Tryz.prog) w 38 5 #[.int .u8 75, .int .u8 69, .int .u8 89, .int .u8 49, .int .u8 0, .int .u8 0, .int .u8 0] 7 7 w.heap.size rfl Tryz.underlying38 Tryz.underlying5
  have o1 := (Only.refl [] w).alloc (.cells #[.int .u8 75, .int .u8 69, .int .u8 89, .int .u8 49, .int .u8 0, .int .u8 0, .int .u8 0] 5 (7, 8))
  have HR1 := mread_any (hg.only0 o1) (bs := key7) (cap := 7) (bs_of_rs (rs_fresh w #[.int .u8 75, .int .u8 69, .int .u8 89, .int .u8 49, .int .u8 0, .int .u8 0, .int .u8 0] 5 (7, 8))) (by simp) (by decide)
  rw [read7] at HR1
  replace HR1 := hid HR1
  go_enter Tryz.func6, Tryz.ntmps6
  go_wp2_with fail
  refine HR1.out.mono ?_
  rintro e w2 ⟨vp, vc, v, rfl, hev, hf1, hf2, hA, ho2⟩
  obtain ⟨po, pc, rfl⟩ := rows_slice hA.pool.1
  obtain ⟨ccs0, ⟨hc1, _⟩, _⟩ := hA.classes
  obtain ⟨co, cc, rfl⟩ := rows_slice hc1
  obtain rfl : v = .nilIface := by
    rcases hev.cases_nil with ⟨_, h⟩ | ⟨h, _⟩
    · exact h
    · exact absurd rfl h
  have hA' : MoAt (OwR w2 (w.alloc (.cells #[.int .u8 75, .int .u8 69, .int .u8 89, .int .u8 49, .int .u8 0, .int .u8 0, .int .u8 0] 5 (7, 8))).heap.size fun _ => True) (.slice po 0 pc) (.slice co 0 cc) mo0 := hA
  simp only [mo0, List.length_nil]
  clear hA hev hc1
  have oM := (Only.refl [] w2).alloc (.cells #[.slice po 0 pc, .slice co 0 cc] 32)
  have o2 := (o1.trans ho2 (by simp)).trans oM (by simp)
  have M2 := mo2_new w2 (.slice po 0 pc) (.slice co 0 cc) 32
  have HW := mwrite_any (hg.only0 o2) (P := fun _ => True) mo0 hf1 (fun e he => by cases he) ((hA'.own oM (by simp)).imp fun _ _ _ _ _ g => owr_slice g)
  rw [write0] at HW
  simp only [show key7.length = 7 from rfl] at HW
  replace HW := hid HW
  obtain ⟨m0, m1, _, _⟩ := M2
  clear HR1 kc1 hA' ho2
  go_wp2_with fail
  refine HW.out.mono ?_
  rintro e w3 ⟨bo, bc, v, rfl, hown, hev, ho3⟩
  obtain rfl : v = .nilIface := by
    rcases hev.cases_nil with ⟨_, h⟩ | ⟨h, _⟩
    · exact h
    · exact absurd rfl h
  clear hev HW
  have hm1 := (ho3.cell (p := ⟨w2.heap.size, 1, none⟩) (by simp) (by simp)).trans m1
  have o3 := o2.trans ho3 (by simp)
  clear m0 m1 oM o2
  have kc2 := Joins.run_convert_bytes_const_at (P := Tryz.prog) w3 38 5 #[.int .u8 75, .int .u8 69, .int .u8 89, .int .u8 49, .int .u8 0, .int .u8 0] 6 6 w3.heap.size rfl Tryz.underlying38 Tryz.underlying5
  have q3 := (Only.refl [] w3).alloc (.cells #[.int .u8 75, .int .u8 69, .int .u8 89, .int .u8 49, .int .u8 0, .int .u8 0] 5 (6, 7))
  have HR2 := mread_any (hg.only0 (o3.trans q3 (by simp))) (bs := key6) (cap := 6) (bs_of_rs (rs_fresh w3 #[.int .u8 75, .int .u8 69, .int .u8 89, .int .u8 49, .int .u8 0, .int .u8 0] 5 (6, 7))) (by simp) (by decide)
  rw [read6] at HR2
  replace HR2 := hid HR2
  replace hown := hid hown
  replace hm1 := hid hm1
  go_wp2_with fail
  refine HR2.out.mono ?_
  rintro e w4 ⟨vp, vc, v, rfl, hev, _, _, hA, ho4⟩
  obtain ⟨qo, qc, rfl⟩ := rows_slice hA.pool.1
  obtain ⟨ccs1, ⟨hc1, _⟩, _⟩ := hA.classes
  obtain ⟨eo, ec, rfl⟩ := rows_slice hc1
  obtain ⟨p, rfl, hb⟩ : ∃ p, v = badV p ∧ BadAt w4 p (0, 0, 6, 11) := by
    rcases hev.cases_nil with ⟨h, _⟩ | ⟨_, p, h1, _, h2⟩
    · exact absurd h (by decide)
    · exact ⟨p, h1, h2⟩
  simp only [mo0, List.length_nil, badV]
  clear HR2 kc2 hA hc1 hev
  have q4 := (q3.trans ho4 (by simp)).alloc (.cells #[.slice qo 0 qc, .slice eo 0 ec] 32)
  have hm4 := (q4.cell (p := ⟨w2.heap.size, 1, none⟩) (World.block_lt_of_cell? w3 _ hm1.out) (by simp)).trans hm1.out
  have kc := ((RS.of_owns hown.out).1.only0 q4).conv (bs := key7) bc
  have hk7 : str key7 = ⟨#[75, 69, 89, 49, 0, 0, 0]⟩ := rfl
  simp only [show key7.length = 7 from rfl, hk7] at kc
  clear hk7
  have hb4 := hb.only ((Only.refl [] w4).alloc (.cells #[.slice qo 0 qc, .slice eo 0 ec] 32)) (by simp)
  have HI := hid (is_hit p 11 _ hb4.c3)
  have o4 := hid (o3.trans q4 (by simp))
  clear hb hb4 hown hm1 q3 ho4 o3 q4
  go_wp2_with fail
  refine HI.out.mono ?_
  rintro e w5 ⟨rfl, ho5⟩
  go_wp2_with fail
  go_ret
  exact ⟨rfl, o4.out.trans ho5 (by simp)⟩

end Go.Proofs.YtildemmkhndhjaaGreatDoor
namespace Go.Proofs.YtildemmkhndhjaaGreatDoor
open Go.RowKit

set_option maxHeartbeats 1000000 in
theorem errno4 (w : World) : Calls Tryz.prog 29 #[.int .i64 4] w fun e w' => e = .returned (.string ⟨#[109, 97, 110, 121]⟩) ∧ w' = w := by
  go_enter Tryz.func29, Tryz.ntmps29
  go_wp2
  go_ret
  exact ⟨rfl, rfl⟩

def leftOf (v : Value) : Nat := match v with
  | .string b => 1 - b.size
  | _ => 0

set_option maxHeartbeats 1000000 in
set_option maxRecDepth 100000 in
theorem decimal0 (w : World) : Calls Tryz.prog 30 #[.int .i64 0] w fun e w' => e = .returned (.string ⟨#[48]⟩) ∧ Only [] w w' := by
  go_enter Tryz.func30, Tryz.ntmps30
  go_wp2
  go_loopw [0, 3] (fun n s wr => n = .int .i64 0 ∧ (s = .string ⟨#[]⟩ ∨ s = .string ⟨#[48]⟩) ∧ Hid (Only [] w wr)) (fun _ s _ => leftOf s)
  case atStart => exact ⟨rfl, .inl rfl, hid (Only.refl _ _)⟩
  case round =>
    obtain ⟨rfl, hs, ho⟩ := hrel
    rcases hs with rfl | rfl
    · have kc : (convert 38 9 (.slice (some ⟨wr.heap.size, 0, none⟩) 1 1)).run Tryz.prog (wr.alloc (.cells #[.int .u8 48] 5)) = .ok (.string ⟨#[48]⟩) (wr.alloc (.cells #[.int .u8 48] 5)) := (RS.fresh wr #[.int .u8 48] 5).conv (bs := [48]) 1
      go_wp2
      exact ⟨⟨by go_num, .inr rfl, hid (ho.out.alloc _)⟩, by decide⟩
    · go_wp2
      go_ret
      exact ⟨rfl, ho.out⟩

theorem digits0 : Lib.decDigits 0 = [48] := by kernel_rfl

theorem itoa0 (w : World) : Calls Tryz.prog 256 #[.int .i64 0] w fun e w' => e = .returned (.string ⟨#[48]⟩) ∧ w' = w :=
  (Tryz.strconv_Itoa_small 0 (by decide) w).mono fun _ _ h => ⟨by rw [h.1, digits0], h.2⟩

set_option maxHeartbeats 4000000 in
theorem bad_error {w : World} {p : Nat} (h : BadAt w p (0, 0, 0, 4)) : Calls Tryz.prog 254 #[.pointer (some ⟨p, 0, none⟩)] w fun e w' => e = .returned (.string (⟨#[109, 97, 110, 121]⟩ ++ ⟨#[32]⟩ ++ ⟨#[48]⟩ ++ ⟨#[46]⟩ ++ ⟨#[48]⟩ ++ ⟨#[32]⟩ ++ ⟨#[48]⟩)) ∧ ∃ m, w' = w.drewN m := by
  obtain ⟨c0, c1, c2, c3, _, _, _, _⟩ := h
  go_enter Tryz.func254, Tryz.ntmps254
  go_wp2_with fail
  go_quiet (first | (go_at_call 29; exact Calls.quiet_of_same (errno4 _)) | (go_at_call 256; exact Calls.quiet_of_same (itoa0 _)) | fail)
  go_wp2
  go_ret
  exact ⟨rfl, _, rfl⟩

theorem keepW {w z z' : World} {b : Nat} (h : z.cell? ⟨b, 0, none⟩ = some (.int .i64 0) ∧ z.cell? ⟨b, 1, none⟩ = some (.int .i64 0) ∧ z.cell? ⟨b, 2, none⟩ = some (.int .i64 0) ∧ z.cell? ⟨b, 3, none⟩ = some (.int .i64 4) ∧ Only [] w z) (ho : Only [] z z') : z'.cell? ⟨b, 0, none⟩ = some (.int .i64 0) ∧ z'.cell? ⟨b, 1, none⟩ = some (.int .i64 0) ∧ z'.cell? ⟨b, 2, none⟩ = some (.int .i64 0) ∧ z'.cell? ⟨b, 3, none⟩ = some (.int .i64 4) ∧ Only [] w z' := by
  obtain ⟨h0, h1, h2, h3, h4⟩ := h
  have hl := World.block_lt_of_cell? z _ h0
  exact ⟨(ho.cell (p := ⟨b, 0, none⟩) hl (by simp)).trans h0, (ho.cell (p := ⟨b, 1, none⟩) hl (by simp)).trans h1, (ho.cell (p := ⟨b, 2, none⟩) hl (by simp)).trans h2, (ho.cell (p := ⟨b, 3, none⟩) hl (by simp)).trans h3, h4.trans ho (by simp)⟩

end Go.Proofs.YtildemmkhndhjaaGreatDoor
namespace Go.Proofs.YtildemmkhndhjaaGreatDoor
open Go.RowKit

theorem four_new (w : World) (t : TypeId) : BadAt (w.alloc (.cells #[.int .i64 0, .int .i64 0, .int .i64 0, .int .i64 4] t)) w.heap.size (0, 0, 0, 4) :=
  ⟨by rw [cell_new]; rfl, by rw [cell_new]; rfl, by rw [cell_new]; rfl, by rw [cell_new]; rfl, frozen_new _ _ _ _, frozen_new _ _ _ _, frozen_new _ _ _ _, frozen_new _ _ _ _⟩

theorem Only.drewZ' {S : List Nat} {a w : World} (h : Only S a w) (n : Nat) : Only S a (w.drewN n) := h.trans (S' := []) ⟨rfl, rfl, rfl, Nat.le_refl _, fun _ _ _ => rfl⟩ (by simp)

theorem drewN_drewN (w : World) (n m : Nat) : (w.drewN n).drewN m = w.drewN (n + m) := by
  simp [World.drewN, Nat.add_assoc]

theorem qtrans {f : FuncId} {args : Array Value} {w : World} {n : Nat} {v : Value} (h : Calls Tryz.prog f args (w.drewN n) fun e w' => e = .returned v ∧ ∃ m, w' = (w.drewN n).drewN m) : Calls Tryz.prog f args (w.drewN n) fun e w'' => e = .returned v ∧ ∃ m, w'' = w.drewN m :=
  h.mono fun _ _ ⟨he, m, hm⟩ => ⟨he, n + m, by rw [hm, drewN_drewN]⟩

set_option maxHeartbeats 4000000 in
theorem wrongly4 {w : World} (hg : Ety w) {p : Nat} (h : BadAt w p (0, 0, 0, 4)) :
    Calls Tryz.prog 11 #[badV p, .agg #[.int .i64 0, .int .i64 0, .int .i64 0, .int .i64 4]] w fun e w' => e = .returned (.bool true) ∧ Only [] w w' := by
  have hp := h.lt
  have o1 := (Only.refl [] w).alloc (.cells #[.int .i64 0, .int .i64 0, .int .i64 0, .int .i64 4] 54)
  have o2 := o1.alloc (.cells #[.pointer none] 66)
  have b2 := hid (BadAt.only (four_new w 54) ((Only.refl [] _).alloc (.cells #[.pointer none] 66)) (by simp))
  have x2 : ((w.alloc (.cells #[.int .i64 0, .int .i64 0, .int .i64 0, .int .i64 4] 54)).alloc (.cells #[.pointer none] 66)).cell? ⟨w.heap.size + 1, 0, none⟩ = some (.pointer none) := by
    have := cell_new (w.alloc (.cells #[.int .i64 0, .int .i64 0, .int .i64 0, .int .i64 4] 54)) #[.pointer none] 66 0
    rw [World.size_alloc] at this
    rw [this]
    rfl
  have f2 : ((w.alloc (.cells #[.int .i64 0, .int .i64 0, .int .i64 0, .int .i64 4] 54)).alloc (.cells #[.pointer none] 66)).frozen? ⟨w.heap.size + 1, 0, none⟩ = false := by
    have := frozen_new (w.alloc (.cells #[.int .i64 0, .int .i64 0, .int .i64 0, .int .i64 4] 54)) #[.pointer none] 66 0
    rw [World.size_alloc] at this
    exact this
  have HA := hid (as_hit ⟨p, 0, none⟩ ⟨w.heap.size + 1, 0, none⟩ (.pointer none) _ (hg.only0 o2) x2 f2)
  replace h := hid (h.only o2 (by simp))
  replace x2 := hid x2
  clear f2
  unfold badV
  go_enter Tryz.func11, Tryz.ntmps11
  go_wp2_with fail
  refine HA.out.mono ?_
  rintro e w3 ⟨rfl, w4, o4, rfl⟩
  have h4 := h.out.only o4 (by simp)
  have b4 := b2.out.only o4 (by simp)
  have x4 := (o4.cell (p := ⟨w.heap.size + 1, 0, none⟩) (by simp) (by simp)).trans x2.out
  have oS : Only [w.heap.size + 1] w4 (w4.setCell ⟨w.heap.size + 1, 0, none⟩ (.pointer (some ⟨p, 0, none⟩))) := (Only.refl _ _).setCell (.inl (by simp)) _
  have h5 := h4.only oS (by simp; omega)
  have b5 := b4.only oS (by simp)
  have x5 := cell_setCell_same w4 (.pointer (some ⟨p, 0, none⟩)) x4
  have o5 : Only [] w (w4.setCell ⟨w.heap.size + 1, 0, none⟩ (.pointer (some ⟨p, 0, none⟩))) := (o2.trans o4 (by simp)).next oS (by simp)
  clear h4 b4 x4 oS HA h b2 x2 o4 o2 o1
  generalize w4.setCell ⟨w.heap.size + 1, 0, none⟩ (.pointer (some ⟨p, 0, none⟩)) = w5 at *
  have HI := hid (is_hit p 4 w5 h5.c3)
  have c3 := b5.c3
  replace h5 := hid h5
  replace b5 := hid b5
  go_wp2_with fail
  refine HI.out.mono ?_
  rintro e w6 ⟨rfl, o6⟩
  have h6 := hid (h5.out.only o6 (by simp))
  have b6 := hid (b5.out.only o6 (by simp))
  have x6 := (o6.cell (p := ⟨w.heap.size + 1, 0, none⟩) (World.block_lt_of_cell? w5 _ x5) (by simp)).trans x5
  have o7 := hid (o5.trans o6 (by simp))
  clear HI c3 h5 b5 x5 o5 o6
  have hk : Hid (w6.cell? ⟨w.heap.size, 0, none⟩ = some (.int .i64 0) ∧ w6.cell? ⟨w.heap.size, 1, none⟩ = some (.int .i64 0) ∧ w6.cell? ⟨w.heap.size, 2, none⟩ = some (.int .i64 0) ∧ w6.cell? ⟨w.heap.size, 3, none⟩ = some (.int .i64 4) ∧ Only [] w6 w6) := ⟨b6.out.c0, b6.out.c1, b6.out.c2, b6.out.c3, Only.refl _ _⟩
  go_upto_region 6 with fail
  go_region_held3 (fun w' => w'.cell? ⟨w.heap.size, 0, none⟩ = some (.int .i64 0) ∧ w'.cell? ⟨w.heap.size, 1, none⟩ = some (.int .i64 0) ∧ w'.cell? ⟨w.heap.size, 2, none⟩ = some (.int .i64 0) ∧ w'.cell? ⟨w.heap.size, 3, none⟩ = some (.int .i64 4) ∧ Only [] w6 w')
    (first | (with_reducible assumption) | (with_reducible exact hk.out) | (with_reducible exact keepW hk.out (Only.refl [] _).drew) | (with_reducible exact keepW (by assumption) (by assumption)))
    (first
      | (go_at_call 29; refine (errno4 _).mono ?_; rintro e w7 ⟨rfl, rfl⟩)
      | (go_at_call 30; refine (decimal0 _).mono ?_; rintro e w7 ⟨rfl, ho⟩))
  rename_i hH
  have oA := hH.2.2.2.2
  clear hH
  have h7 := h6.out.only oA (by simp)
  have b7 := b6.out.only oA (by simp)
  have x7 := (oA.cell (p := ⟨w.heap.size + 1, 0, none⟩) (World.block_lt_of_cell? w6 _ x6) (by simp)).trans x6
  have o8 := hid (o7.out.trans oA (by simp))
  have HE := hid (fun n => bad_error (h7.only ((Only.refl [] w7).drewZ' n) (by simp)))
  have mE := mError (.pointer (some ⟨p, 0, none⟩))
  obtain ⟨c0, c1, c2, c3, _, _, _, _⟩ := h7
  obtain ⟨d0, d1, d2, d3, _, _, _, _⟩ := b7
  clear h6 b6 x6 o7 hk oA
  go_wp2_with fail
  go_quiet (first | (go_at_call 254; exact qtrans (HE.out _)) | fail)
  go_wp2
  go_ret
  exact ⟨rfl, o8.out.drewZ' _⟩

end Go.Proofs.YtildemmkhndhjaaGreatDoor
namespace Go.Proofs.YtildemmkhndhjaaGreatDoor
open Go.RowKit

set_option maxHeartbeats 400000 in
set_option maxRecDepth 100000 in
theorem rsame_any {w : World} {ao bo : Option Addr} {l m : List Ty} {d k cap bap : Nat} (hT : TS w ao l d) (hM : TS w bo m k) (hl : l.length ≤ 9223372036854775807) (v u : Bool) (s t : Ty) :
    Calls Tryz.prog 145 #[sigV (.slice ao l.length cap) v s, sigV (.slice bo m.length bap) u t] w fun e w' => e = .returned (.bool (sameR (l, v, s) (m, u, t))) ∧ Only [] w w' := by
  have hq := neq_type s t
  have hst : ∃ b, b = decide (s = t) := ⟨_, rfl⟩
  obtain ⟨b, hb⟩ := hst
  rw [← hb] at hq
  replace hb := hid hb
  obtain ⟨d0, n0⟩ := s
  obtain ⟨d1, n1⟩ := t
  simp only [tyV] at hq
  simp only [sigV]
  have o1 := ((Only.refl [] w).alloc (.cells #[.slice ao l.length cap, .bool v, .int .i64 d0, .string (str n0)] 37)).alloc (.cells #[.slice bo m.length bap, .bool u, .int .i64 d1, .string (str n1)] 37)
  have hfin : Hid (sameR (l, v, (d0, n0)) (m, u, (d1, n1)) = (decide (v = u) && (b && decide (l = m)))) := by
    rw [hb.out]
    unfold Hid sameR
    by_cases h1 : l = m <;> by_cases h2 : v = u <;> by_cases h3 : ((d0, n0) : Ty) = (d1, n1) <;> simp [h1, h2, h3]
  have hno : (v = u ∧ b = true ∧ l.length = m.length) ∨ ¬ (v = u ∧ b = true ∧ l.length = m.length) := Classical.em _
  rcases hno with ⟨rfl, rfl, hlm⟩ | hno
  · have SA := hid ((sig_new w (.slice ao l.length cap) v d0 n0).only ((Only.refl [] _).alloc (.cells #[.slice bo m.length bap, .bool v, .int .i64 d1, .string (str n1)] 37)) (by simp))
    have SB := sig_new (w.alloc (.cells #[.slice ao l.length cap, .bool v, .int .i64 d0, .string (str n0)] 37)) (.slice bo m.length bap) v d1 n1
    rw [World.size_alloc] at SB
    rw [← hlm] at SB o1 SA ⊢
    replace SB := hid SB
    replace hlm := hid hlm
    simp only [Bool.not_true] at hq
    go_enter Tryz.func145, Tryz.ntmps145
    go_wp2
    go_loopw [5] (fun i wr => ∃ j : Nat, j ≤ l.length ∧ i = .int .i64 (j : Int) ∧ l.take j = m.take j ∧ SigAt wr w.heap.size (.slice ao l.length cap) v (d0, n0) ∧ SigAt wr (w.heap.size + 1) (.slice bo l.length bap) v (d1, n1) ∧ Only [] w wr) (fun i _ => l.length - (intOf i).toNat)
    case atStart => exact ⟨0, by omega, rfl, by simp, SA.out, SB.out, o1⟩
    case round =>
      obtain ⟨j, hj, rfl, hpre, hSA, hSB, hor⟩ := hrel
      clear SA SB o1
      replace hSA := hid hSA
      replace hSB := hid hSB
      obtain ⟨a0, a1, a2, a3, _, _, _, _⟩ := hSA.out
      obtain ⟨e0, e1, e2, e3, _, _, _, _⟩ := hSB.out
      by_cases hlt : j < l.length
      · have g2 : ((j : Int) < (l.length : Int)) := by omega
        have hne : l ≠ [] := by intro e; simp [e] at hlt
        have hlt2 : j < m.length := by rw [← hlm.out]; exact hlt
        have hne2 : m ≠ [] := by intro e; simp [e] at hlt2
        rcases hT.only hor (by simp) with h | ⟨off, rfl, hc⟩
        · exact absurd h hne
        rcases hM.only hor (by simp) with h | ⟨off2, rfl, hc2⟩
        · exact absurd h hne2
        obtain ⟨y0, y1⟩ := hc j hlt
        obtain ⟨z0, z1⟩ := hc2 j hlt2
        clear hc hc2 hT hM
        have hnx : l[j] = m[j] → l.take (j + 1) = m.take (j + 1) := by
          intro e
          rw [List.take_succ_eq_append_getElem hlt, List.take_succ_eq_append_getElem hlt2, hpre, e]
        have hno : l[j] ≠ m[j] → l ≠ m := by
          intro e1 e2
          apply e1
          simp [e2]
        have hqt := neq_type l[j] m[j]
        generalize l[j] = s at *
        generalize m[j] = t at *
        obtain ⟨sd, sn⟩ := s
        obtain ⟨td, tn⟩ := t
        simp only [tyV] at hqt
        clear hpre hne hne2 hlt2 hq
        by_cases hs : (sd, sn) = (td, tn)
        · have hnx := hid (hnx hs)
          simp only [hs, decide_true, Bool.not_true] at hqt
          clear hs hno
          go_wp2_with fail
          go_region
          go_wp2
          exact ⟨⟨j + 1, by omega, by go_num, hnx.out, hSA.out.only (Only.refl [] _).drew (by simp), hSB.out.only (Only.refl [] _).drew (by simp), hor.drew⟩, by simp [intOf]; omega⟩
        · have e1 : Hid (decide (l = m) = false) := by simp [Hid, hno hs]
          simp only [hs, decide_false, Bool.not_false] at hqt
          clear hs hno hnx
          go_wp2_with fail
          go_region
          go_wp2
          go_ret
          exact ⟨by rw [hfin.out, e1.out]; simp, hor.drew⟩
      · have g2 : ¬ ((j : Int) < (l.length : Int)) := by omega
        obtain rfl : j = l.length := by omega
        have e1 : Hid (decide (l = m) = true) := by
          rw [List.take_of_length_le (Nat.le_refl _), List.take_of_length_le (by rw [hlm.out]; exact Nat.le_refl _)] at hpre
          simp [Hid, hpre]
        clear hpre
        go_wp2
        go_ret
        exact ⟨by rw [hfin.out, e1.out]; simp, hor⟩
  · have e0 : Hid (sameR (l, v, (d0, n0)) (m, u, (d1, n1)) = false) := by
      unfold Hid
      rw [hfin.out]
      by_cases h1 : v = u
      · by_cases h2 : b = true
        · have h3 : l ≠ m := fun e => hno ⟨h1, h2, by rw [e]⟩
          simp [h3]
        · simp [h2]
      · simp [h1]
    rw [e0.out]
    by_cases h1 : v = u
    · subst h1
      by_cases h2 : b = true
      · subst h2
        have h3 : ¬ ((l.length : Int) = (m.length : Int)) := fun e => hno ⟨rfl, rfl, by omega⟩
        have g3 : ((l.length : Int) == (m.length : Int)) = false := by simpa using h3
        simp only [Bool.not_true] at hq
        clear hno h3
        go_enter Tryz.func145, Tryz.ntmps145
        go_wp2
        go_ret
        exact ⟨rfl, o1⟩
      · have h3 : b = false := by simpa using h2
        subst h3
        simp only [Bool.not_false] at hq
        clear hno h2
        go_enter Tryz.func145, Tryz.ntmps145
        go_wp2
        go_ret
        exact ⟨rfl, o1⟩
    · have h3 : (v == u) = false := by simpa using h1
      clear hno
      cases v <;> cases u
      all_goals first
        | exact absurd rfl h1
        | (clear h1 h3
           go_enter Tryz.func145, Tryz.ntmps145
           go_wp2
           go_ret
           exact ⟨rfl, o1⟩)

end Go.Proofs.YtildemmkhndhjaaGreatDoor
