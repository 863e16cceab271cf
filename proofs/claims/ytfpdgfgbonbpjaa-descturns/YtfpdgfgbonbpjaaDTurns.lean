/-
  The walk of DescTurns: it answers true of whatever signature, numbers and text, and writes nothing that was there. No conditions.
-/
import Derived.Test.YtfpdgfgbonbpjaaDSigs
import Derived.Test.YtfpdgfgbonbpjaaDTypes
import Derived.Test.YtfpdgfgbonbpjaaDWithin
import Derived.Lib.ConvBytes
import Derived.Laws.BitsLemmas
namespace Go.Proofs.Ytfpdgfgbonbpjaa
open Go.RowKit

/-- Bytes in a block. -/
def BY (w : World) (g : Nat) (bs : List UInt8) : Prop := ∀ j (h : j < bs.length), w.cell? ⟨g, j, none⟩ = some (.int .u8 (bs[j].toNat : Int))

theorem BY.only {w w' : World} {S : List Nat} {g : Nat} {bs : List UInt8} (h : BY w g bs) (ho : Only S w w') (hg : g ∉ S) : BY w' g bs := fun j hj => by
  rw [ho.cell (World.block_lt_of_cell? w _ (h j hj)) hg]
  exact h j hj

theorem by_conv {w : World} {g : Nat} {bs : List UInt8} (h : BY w g bs) (cap : Nat) : (convert 61 9 (.slice (some ⟨g, 0, none⟩) bs.length cap)).run Try.prog w = .ok (.string (str bs)) w :=
  run_convert_bytes_back w 61 9 5 ⟨g, 0, none⟩ cap bs Try.underlying61 Try.underlying5 Try.underlying9 (fun j hj => by rw [Addr.add_lit, Nat.zero_add]; exact h j hj)

theorem by_new (w : World) (l : List UInt8) : Only [] w (Lib.bytesWorld w 5 (str l)) ∧ BY (Lib.bytesWorld w 5 (str l)) w.heap.size l := by
  refine ⟨⟨rfl, rfl, rfl, by rw [Lib.bytesWorld_size]; omega, fun k hk _ => Lib.bytesWorld_at_old w _ _ k hk⟩, fun j hj => ?_⟩
  rw [Lib.bytesWorld_cell w _ _ j (by rw [str_size]; exact hj)]
  simp [str, List.getD, hj]

theorem by_free (w : World) (l : List UInt8) (j : Nat) (hj : j < l.length) : (Lib.bytesWorld w 5 (str l)).frozen? ⟨w.heap.size, j, none⟩ = false := by
  have hs : j < (Lib.bytesCells w 5 (str l)).size := by
    simp [Lib.bytesCells, str]
    omega
  simp [World.frozen?, Lib.bytesWorld_at_new]
  omega

theorem BY.put {w : World} {g : Nat} {bs : List UInt8} (h : BY w g bs) (i : Nat) (hi : i < bs.length) (c : UInt8) : BY (w.setCell ⟨g, i, none⟩ (.int .u8 (c.toNat : Int))) g (bs.set i c) := by
  intro j hj
  simp at hj
  by_cases e : i = j
  · subst e
    rw [cell_setCell_same _ _ (h i hi)]
    simp
  · rw [cell_setCell_ne _ _ (by simp), h j hj, List.getElem_set_ne e]

theorem run_to (l : List UInt8) (j : Nat) (h : j ≤ l.length) (w : World) : (Instr.slice 9 (.string (str l)) none (some (.int .i64 (j : Int))) none).run Try.prog w = .ok (.string (str (l.take j))) w := by
  have := str_size l
  have e : (str l).extract 0 j = str (l.take j) := by rw [str_extract]; simp
  simp [Instr.slice, run_underlying Try.underlying9, Instr.sliceBounds, run_sliceBound, this, h, e]

theorem add_byte (a b : UInt8) (w : World) : (binOp .add 5 (.int .u8 (a.toNat : Int)) (.int .u8 (b.toNat : Int))).run Try.prog w = .ok (.int .u8 ((a + b).toNat : Int)) w := by
  have h1 := a.toNat_lt
  have h2 := b.toNat_lt
  have e : ((a + b).toNat : Int) = ((a.toNat : Int) + (b.toNat : Int)) % 256 := by
    rw [UInt8.toNat_add]
    omega
  rw [e]
  go_simp
  rfl

theorem keep_turn {a b z : World} {p q g n cap : Nat} {x0 x1 x2 x3 y0 y1 : Value} {bs : List UInt8} (ho : Only [] a b)
    (h : a.cell? ⟨p, 0, none⟩ = some x0 ∧ a.cell? ⟨p, 1, none⟩ = some x1 ∧ a.cell? ⟨p, 2, none⟩ = some x2 ∧ a.cell? ⟨p, 3, none⟩ = some x3 ∧ a.cell? ⟨q, 0, none⟩ = some y0 ∧ a.cell? ⟨q, 1, none⟩ = some y1 ∧ (convert 61 9 (.slice (some ⟨g, 0, none⟩) n cap)).run Try.prog a = .ok (.string (str bs)) a ∧ Hid (BY a g bs ∧ bs.length = n) ∧ Only [] z a) :
    b.cell? ⟨p, 0, none⟩ = some x0 ∧ b.cell? ⟨p, 1, none⟩ = some x1 ∧ b.cell? ⟨p, 2, none⟩ = some x2 ∧ b.cell? ⟨p, 3, none⟩ = some x3 ∧ b.cell? ⟨q, 0, none⟩ = some y0 ∧ b.cell? ⟨q, 1, none⟩ = some y1 ∧ (convert 61 9 (.slice (some ⟨g, 0, none⟩) n cap)).run Try.prog b = .ok (.string (str bs)) b ∧ Hid (BY b g bs ∧ bs.length = n) ∧ Only [] z b := by
  obtain ⟨h0, h1, h2, h3, g0, g1, _, hB, hz⟩ := h
  have hl := World.block_lt_of_cell? _ _ h0
  have gl := World.block_lt_of_cell? _ _ g0
  obtain ⟨hB1, rfl⟩ := hB.out
  have hB2 := hB1.only ho (by simp)
  exact ⟨(ho.cell (p := ⟨p, 0, none⟩) hl (by simp)).trans h0, (ho.cell (p := ⟨p, 1, none⟩) hl (by simp)).trans h1, (ho.cell (p := ⟨p, 2, none⟩) hl (by simp)).trans h2, (ho.cell (p := ⟨p, 3, none⟩) hl (by simp)).trans h3,
    (ho.cell (p := ⟨q, 0, none⟩) gl (by simp)).trans g0, (ho.cell (p := ⟨q, 1, none⟩) gl (by simp)).trans g1, by_conv hB2 cap, ⟨hB2, rfl⟩, hz.next ho (by simp)⟩

set_option maxHeartbeats 1000000 in
set_option maxRecDepth 100000 in
theorem turns_walk {w : World} {ao : Option Addr} {cap : Nat} {l : List Ty} {k : Nat} (hT : TS w ao l k) (hz : l.length ≤ 9223372036854775807) (hn : ao = none → cap = 0) (hA : ∀ t ∈ l, t.2.length ≤ 9223372036854775807) (v : Bool) {s : Ty} (hs : s.2.length ≤ 9223372036854775807)
    (x : Int) (y : Int) (hy : (Lit.int .u8 y).wf = true) (c : Int) (mo : List UInt8) (hmo : mo.length ≤ 9223372036854775807) :
    Calls Try.prog 7 #[sigV (.slice ao l.length cap) v s, .int .i64 x, .int .u8 y, .int .i64 c, .string (str mo)] w fun e w' => e = .returned (.bool true) ∧ Below w.heap.size w w' := by
  obtain ⟨sd, sn⟩ := s
  obtain ⟨yb, rfl⟩ : ∃ yb : UInt8, y = (yb.toNat : Int) := by
    simp only [Lit.wf, Bool.and_eq_true, decide_eq_true_eq] at hy
    refine ⟨UInt8.ofNat y.toNat, ?_⟩
    have h1 : IntKind.u8.min = 0 := rfl
    have h2 : IntKind.u8.max = 255 := rfl
    rw [h1, h2] at hy
    rw [UInt8.toNat_ofNat']
    omega
  clear hy
  have hms := str_size mo
  have o0 := (Only.refl [] w).alloc (.cells #[.slice ao l.length cap, .bool v, .int .i64 sd, .string (str sn)] 43)
  have SG := hid (sig_new w (.slice ao l.length cap) v sd sn)
  simp only [sigV]
  go_enter Try.func7, Try.ntmps7
  go_wp2_with fail
  refine (known_any _).mono ?_
  rintro e w1 ⟨rfl, ho1⟩
  replace SG := hid (SG.out.only ho1 (by simp))
  have o1 := o0.next ho1 (by simp)
  obtain ⟨c0, c1, c2, c3, _, _, _, _⟩ := SG.out
  have H1 := rsigText_any (cap := cap) (hT.only o1 (by simp)) hz hA v (sd, sn) hs
  simp only [sigV] at H1
  by_cases he : sigCheck l v (sd, sn) = 0
  · have e1 : stR l v (sd, sn) = sigText l v (sd, sn) := by simp [stR, he]
    have hlen : 2 ≤ (sigText l v (sd, sn)).length ∧ (sigText l v (sd, sn)).length ≤ 800 := by
      obtain ⟨h1, h2, h3, _⟩ := sigCheck_ok he
      have hl := fits_len l fun x hx => check_fit (h2 x hx)
      have ht := fit_len (check_fit h3)
      unfold sigText
      split
      · simp
        omega
      · simp
        omega
    rw [e1, he] at H1
    clear e1 he
    generalize sigText l v (sd, sn) = tx at *
    have hts := str_size tx
    replace H1 := hid H1
    go_wp2_with fail
    refine H1.out.mono ?_
    rintro e w2 ⟨rfl, ho2⟩
    clear c0 c1 c2 c3
    replace SG := hid (SG.out.only ho2 (by simp))
    have o2 := o1.next ho2 (by simp)
    by_cases h100 : 100 < mo.length
    · have g1 : (100 < (mo.length : Int)) := by omega
      go_wp2
      go_ret
      exact ⟨by simp, o2.below (Nat.le_refl _) (by simp)⟩
    · have g1 : ¬ (100 < (mo.length : Int)) := by omega
      obtain ⟨I, hI, hIl⟩ : ∃ I : Nat, x % (tx.length : Int) = (I : Int) ∧ I < tx.length := by
        have h1 := Int.emod_nonneg x (by omega : (tx.length : Int) ≠ 0)
        have h2 := Int.emod_lt_of_pos x (by omega : (0 : Int) < (tx.length : Int))
        exact ⟨(x % (tx.length : Int)).toNat, by omega, by omega⟩
      obtain ⟨C, hC, hCl⟩ : ∃ C : Nat, c % ((tx.length : Int) + 1) = (C : Int) ∧ C ≤ tx.length := by
        have h1 := Int.emod_nonneg c (by omega : (tx.length : Int) + 1 ≠ 0)
        have h2 := Int.emod_lt_of_pos c (by omega : (0 : Int) < (tx.length : Int) + 1)
        exact ⟨(c % ((tx.length : Int) + 1)).toNat, by omega, by omega⟩
      have HI := fun W => within_any x (tx.length : Int) (by omega) W
      have HC := fun W => within_any c ((tx.length : Int) + 1) (by omega) W
      rw [hI] at HI
      rw [hC] at HC
      have hwr : IntKind.i64.wrap ((tx.length : Int) + 1) = (tx.length : Int) + 1 := by
        rw [IntKind.wrap_i64]
        omega
      rw [← hwr] at HC
      clear hwr
      replace HI := hid HI
      replace HC := hid HC
      clear hI hC
      go_wp2_with fail
      refine (HI.out _).mono ?_
      rintro e w3 ⟨rfl, rfl⟩
      have kc := fun w => Lib.run_convert_string_bytes (P := Try.prog) w 9 61 5 (str tx) Try.underlying9 Try.underlying61 Try.underlying5
      obtain ⟨ho4, hB4⟩ := by_new w3 tx
      have y0 := hB4 I hIl
      have f0 := by_free w3 tx I hIl
      have hput := fun a0 (h : tx[I] = a0) => hB4.put I hIl (a0 + yb)
      generalize tx[I] = a0 at *
      have e256 : ((a0 + yb).toNat : Int) = ((a0.toNat : Int) + (yb.toNat : Int)) % 256 := by
        rw [UInt8.toNat_add]
        omega
      have hB5 := hput a0 rfl
      clear hput
      rw [e256] at hB5
      have hl5 : (tx.set I (a0 + yb)).length = tx.length := by simp
      generalize tx.set I (a0 + yb) = bs2 at *
      have ho5 : Only [] w3 (((Lib.bytesWorld w3 5 (str tx)).setCell ⟨w3.heap.size, I, none⟩ (.int .u8 (((a0.toNat : Int) + (yb.toNat : Int)) % 256))).alloc (.cells #[.int .i64 0, .string ⟨#[]⟩] 23)) := (ho4.setCell (.inr (by simp)) _).alloc _
      have oz : Only [] ((Lib.bytesWorld w3 5 (str tx)).setCell ⟨w3.heap.size, I, none⟩ (.int .u8 (((a0.toNat : Int) + (yb.toNat : Int)) % 256))) (((Lib.bytesWorld w3 5 (str tx)).setCell ⟨w3.heap.size, I, none⟩ (.int .u8 (((a0.toNat : Int) + (yb.toNat : Int)) % 256))).alloc (.cells #[.int .i64 0, .string ⟨#[]⟩] 23)) := (Only.refl [] _).alloc _
      have hB6 := hB5.only oz (by simp)
      have SG5 := hid (SG.out.only ho5 (by simp))
      have o5 := hid (o2.next ho5 (by simp))
      have zz : (((Lib.bytesWorld w3 5 (str tx)).setCell ⟨w3.heap.size, I, none⟩ (.int .u8 (((a0.toNat : Int) + (yb.toNat : Int)) % 256))).alloc (.cells #[.int .i64 0, .string ⟨#[]⟩] 23)).cell? ⟨(Lib.bytesWorld w3 5 (str tx)).heap.size, 0, none⟩ = some (.int .i64 0) ∧ (((Lib.bytesWorld w3 5 (str tx)).setCell ⟨w3.heap.size, I, none⟩ (.int .u8 (((a0.toNat : Int) + (yb.toNat : Int)) % 256))).alloc (.cells #[.int .i64 0, .string ⟨#[]⟩] 23)).cell? ⟨(Lib.bytesWorld w3 5 (str tx)).heap.size, 1, none⟩ = some (.string ⟨#[]⟩) := by
        have hsz : (((Lib.bytesWorld w3 5 (str tx)).setCell ⟨w3.heap.size, I, none⟩ (.int .u8 (((a0.toNat : Int) + (yb.toNat : Int)) % 256)))).heap.size = (Lib.bytesWorld w3 5 (str tx)).heap.size := by simp
        refine ⟨?_, ?_⟩
        · rw [← hsz, cell_new]; rfl
        · rw [← hsz, cell_new]; rfl
      have cv := by_conv hB6 (grownCap w3 tx.length 0 5)
      rw [hl5] at cv
      have hBL : Hid (BY (((Lib.bytesWorld w3 5 (str tx)).setCell ⟨w3.heap.size, I, none⟩ (.int .u8 (((a0.toNat : Int) + (yb.toNat : Int)) % 256))).alloc (.cells #[.int .i64 0, .string ⟨#[]⟩] 23)) w3.heap.size bs2 ∧ bs2.length = tx.length) := ⟨hB6, hl5⟩
      replace zz := hid zz
      replace cv := hid cv
      have r1 := run_to tx C hCl
      have r2 := run_to tx I (by omega)
      have r3 := run_from tx I (by omega)
      have r4 := run_cat (tx.take I) mo (by simp; omega)
      have r5 := run_cat (tx.take I ++ mo) (tx.drop I) (by simp; omega)
      have h1l : (tx.take C).length ≤ 1099511627776 := by simp; omega
      have h2l : (tx.take I ++ mo ++ tx.drop I).length ≤ 1099511627776 := by simp; omega
      have HS := fun (u : List UInt8) (hu : u.length ≤ 1099511627776) W (hW : Only [] w W) => sigs_any u hu (cap := cap) (bap := cap) (hT.only hW (by simp)) hz hn hA v (s := (sd, sn)) hs (hT.only hW (by simp)) v (t := (sd, sn))
      have HS1 := HS bs2 (by omega)
      have HS2 := HS (tx.take C) h1l
      have HS3 := HS (tx.take I ++ mo ++ tx.drop I) h2l
      have HT1 := fun W => types_any bs2 (by omega) (0, []) (by simp) W
      simp only [sigV] at HS1 HS2 HS3
      rw [ty_zero] at HT1
      clear HS hB4 hB5 hB6 ho4 ho5 oz e256 h1l h2l hl5
      replace HS1 := hid HS1
      replace HS2 := hid HS2
      replace HS3 := hid HS3
      replace HT1 := hid HT1
      generalize tx.take C = u1 at *
      generalize tx.take I ++ mo ++ tx.drop I = u2 at *
      generalize tx.take I ++ mo = u3 at *
      generalize tx.take I = u4 at *
      generalize tx.drop I = u5 at *
      go_wp2_with fail
      obtain ⟨z0, z1⟩ := zz.out
      obtain ⟨c0, c1, c2, c3, _, _, _, _⟩ := SG5.out
      have cv := cv.out
      have o5 := o5.out
      clear kc y0 f0
      go_region_held3 (fun w' => w'.cell? ⟨w.heap.size, 0, none⟩ = some (.slice ao l.length cap) ∧ w'.cell? ⟨w.heap.size, 1, none⟩ = some (.bool v) ∧ w'.cell? ⟨w.heap.size, 2, none⟩ = some (.int .i64 sd) ∧ w'.cell? ⟨w.heap.size, 3, none⟩ = some (.string (str sn)) ∧ w'.cell? ⟨(Lib.bytesWorld w3 5 (str tx)).heap.size, 0, none⟩ = some (.int .i64 0) ∧ w'.cell? ⟨(Lib.bytesWorld w3 5 (str tx)).heap.size, 1, none⟩ = some (.string ⟨#[]⟩) ∧ (convert 61 9 (.slice (some ⟨w3.heap.size, 0, none⟩) tx.length (grownCap w3 tx.length 0 5))).run Try.prog w' = .ok (.string (str bs2)) w' ∧ Hid (BY w' w3.heap.size bs2 ∧ bs2.length = tx.length) ∧ Only [] w w') (first | assumption | exact keep_turn (by assumption) (by assumption) | exact keep_turn ((Only.refl [] _).drew) ⟨c0, c1, c2, c3, z0, z1, cv, hBL, o5⟩)
        (first
          | (go_at_call 38; with_reducible refine (HC.out _).mono ?_; rintro e w6 ⟨rfl, rfl⟩)
          | (go_at_call 5; with_reducible refine (HS1.out _ ?_).mono ?_; (simp [*]); rintro e w7 ⟨rfl, ho7⟩)
          | (go_at_call 5; with_reducible refine (HS2.out _ ?_).mono ?_; (simp [*]); rintro e w8 ⟨rfl, ho8⟩)
          | (go_at_call 5; with_reducible refine (HS3.out _ ?_).mono ?_; (simp [*]); rintro e w9 ⟨rfl, ho9⟩)
          | (go_at_call 4; with_reducible refine (HT1.out _).mono ?_; rintro e w10 ⟨rfl, ho10⟩))
      rename_i hS
      have oS := hS.2.2.2.2.2.2.2.2
      clear hS
      go_wp2
      go_ret
      exact ⟨by simp, oS.below (Nat.le_refl _) (by simp)⟩
  · have e1 : stR l v (sd, sn) = [] := by simp [stR, he]
    rw [e1] at H1
    generalize sigCheck l v (sd, sn) = q at *
    replace H1 := hid H1
    clear e1
    go_wp2_with fail
    refine H1.out.mono ?_
    rintro e w2 ⟨rfl, ho2⟩
    go_wp2
    go_ret
    exact ⟨by simp, (o1.next ho2 (by simp)).below (Nat.le_refl _) (by simp)⟩

end Go.Proofs.Ytfpdgfgbonbpjaa
