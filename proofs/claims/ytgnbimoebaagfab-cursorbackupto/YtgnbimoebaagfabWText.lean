/-
  The contract of a writer's Text. All that is written is at most 1.5 times 2 to the power of 47 bytes.
-/
import Derived.Test.YtgnbimoebaagfabWRest
import Derived.Lib.ConvBytes
namespace Go.Proofs.Ytgnbimoebaagfab
open Go.RowKit

/-- Where the texts of a slice lie that is read. -/
def SS (w : World) (ao : Option Addr) (ss : List ByteArray) (d : Nat) : Prop :=
  ss = [] ∨ ∃ off, ao = some ⟨d, off, none⟩ ∧ ∀ j (h : j < ss.length), w.cell? ⟨d, off + j, none⟩ = some (.string ss[j])

theorem SS.only {w w' : World} {S : List Nat} {ao : Option Addr} {ns : List ByteArray} {d : Nat} (h : SS w ao ns d) (ho : Only S w w') (hn : ns ≠ [] → d ∉ S) : SS w' ao ns d := by
  rcases h with h | ⟨off, ha, hc⟩
  · exact .inl h
  · by_cases hb : ns = []
    · exact .inl hb
    have hd := hn hb
    exact .inr ⟨off, ha, fun j hj => by rw [ho.cell (World.block_lt_of_cell? w _ (hc j hj)) hd]; exact hc j hj⟩

theorem SS.lt {w : World} {ao : Option Addr} {ns : List ByteArray} {d : Nat} (h : SS w ao ns d) (hn : ns ≠ []) : d < w.heap.size := by
  rcases h with h | ⟨off, _, hc⟩
  · exact absurd h hn
  · have h0 : 0 < ns.length := List.length_pos_iff.2 hn
    exact World.block_lt_of_cell? w _ (hc 0 h0)

/-- What Text does with one text. -/
def wText1 (s : List UInt8 × Int) (b : ByteArray) : List UInt8 × Int := if s.2 = 0 then (if 255 < b.size then (s.1, 5) else (s.1 ++ (UInt8.ofNat b.size :: b.data.toList), 0)) else s
def wText (s : List UInt8 × Int) (l : List ByteArray) : List UInt8 × Int := l.foldl wText1 s

theorem wText_err (s : List UInt8 × Int) (h : s.2 ≠ 0) (l : List ByteArray) : wText s l = s := by
  induction l with
  | nil => rfl
  | cons n l ih =>
    have : wText1 s n = s := by simp [wText1, h]
    simp only [wText, List.foldl_cons, this]
    exact ih

theorem wText_take_succ (s : List UInt8 × Int) (l : List ByteArray) (k : Nat) (h : k < l.length) : wText s (l.take (k + 1)) = wText1 (wText s (l.take k)) l[k] := by
  rw [List.take_succ_eq_append_getElem h]
  simp only [wText, List.foldl_append, List.foldl_cons, List.foldl_nil]

theorem wText_split (s : List UInt8 × Int) (l : List ByteArray) (k : Nat) : wText s l = wText (wText s (l.take k)) (l.drop k) := by
  conv => lhs; rw [← List.take_append_drop k l]
  simp only [wText, List.foldl_append]

theorem wText1_len (s : List UInt8 × Int) (b : ByteArray) : (wText1 s b).1.length ≤ s.1.length + 256 := by
  unfold wText1
  split
  · split
    · simp
    · have : b.data.toList.length = b.size := rfl
      rw [List.length_append, List.length_cons, this]
      omega
  · simp

theorem wText_len (s : List UInt8 × Int) (l : List ByteArray) : (wText s l).1.length ≤ s.1.length + 256 * l.length := by
  induction l generalizing s with
  | nil => simp [wText]
  | cons n l ih =>
    have h1 := ih (wText1 s n)
    have h2 := wText1_len s n
    simp only [wText, List.foldl_cons, List.length_cons] at h1 ⊢
    omega

theorem wText1_ok (s : List UInt8 × Int) (b : ByteArray) (h : ¬ 255 < b.size) : wText1 s b = wPut (wPut s [UInt8.ofNat b.size]) b.data.toList := by
  rw [wPut_wPut]
  unfold wText1 wPut
  rw [if_neg h]
  rfl

/-- A text turned into bytes. -/
theorem bytes_world (w : World) (b : ByteArray) : Only [] w (Lib.bytesWorld w 5 b) ∧ BS (Lib.bytesWorld w 5 b) (some ⟨w.heap.size, 0, none⟩) b.data.toList w.heap.size := by
  refine ⟨⟨rfl, rfl, rfl, by rw [Lib.bytesWorld_size]; omega, fun k hk _ => Lib.bytesWorld_at_old w _ b k hk⟩, .inr ⟨0, rfl, fun j hj => ?_⟩⟩
  have e : b.data.toList.getD j 0 = b.data.toList[j] := by rw [List.getD, List.getElem?_eq_getElem hj]; rfl
  rw [Nat.zero_add, Lib.bytesWorld_cell w _ b j hj, e]

set_option maxHeartbeats 800000 in
set_option maxRecDepth 100000 in
theorem wtext_any {w : World} {B p g : Nat} {s : List UInt8 × Int} (h : WrE w B p g s) {lao : Option Addr} {lcap d : Nat} {ns : List ByteArray} (hb : SS w lao ns d) (hd : ns ≠ [] → d ∉ [p, g]) (hsz : s.1.length + 256 * ns.length ≤ 211106232532992) (hlen : ∀ b ∈ ns, b.size ≤ 9223372036854775807) :
    Calls Try.prog 13 #[.pointer (some ⟨p, 0, none⟩), .slice lao ns.length lcap] w fun e w' => e = .returned (.tuple #[]) ∧ WTo w B p g w' (wText s ns) := by
  go_enter Try.func13, Try.ntmps13
  go_wp2
  go_loopw [8] (fun i wr => ∃ k : Nat, k ≤ ns.length ∧ i = .int .i64 (k : Int) ∧ WTo w B p g wr (wText s (ns.take k))) (fun i _ => ns.length - (intOf i).toNat)
  case atStart => exact ⟨0, by omega, rfl, by simpa [wText] using WTo.refl h⟩
  case round =>
    obtain ⟨k, hk, rfl, g', hw, hg', ho⟩ := hrel
    by_cases hlt : k < ns.length
    · have hne : ns ≠ [] := by intro e; simp [e] at hlt
      have hb' := hb.only ho hd
      rcases hb' with hb' | ⟨off, rfl, hc⟩
      · exact absurd hb' hne
      have hck := hc k hlt
      have hsucc := wText_take_succ s ns k hlt
      have hll := wText_len s (ns.take k)
      have hll2 : (ns.take k).length ≤ k := List.length_take_le _ _
      have hsplit := wText_split s ns (k + 1)
      have hbl := hlen ns[k] (List.getElem_mem hlt)
      rw [hsucc] at hsplit
      generalize ns[k] = n at *
      generalize wText s (ns.take k) = t at *
      have Hsucc := hid hsucc
      have Hsplit := hid hsplit
      clear hc hsucc hsplit hb hd hne hlen
      by_cases hbad : 255 < n.size
      · have hone : wText1 t n = (t.1, if t.2 = 0 then 5 else t.2) := by
          unfold wText1
          by_cases ht : t.2 = 0
          · rw [if_pos ht, if_pos hbad, if_pos ht]
          · rw [if_neg ht, if_neg ht]
        have hend : wText s ns = (t.1, if t.2 = 0 then 5 else t.2) := by
          rw [Hsplit.out, hone]
          apply wText_err
          simp only
          split
          · decide
          · assumption
        have HE := hid hend
        have HF := hid (wfail_any hw 5)
        clear Hsucc Hsplit hone hend
        have hbig : (255 : Int) < (n.size : Int) := by omega
        go_wp2_with (go_at_call 28; refine HF.out.mono ?_; rintro e w2 ⟨rfl, hto⟩)
        refine bodyPost_ret (results_none rfl _ _ _) rfl ?_
        exact ⟨rfl, by rw [HE.out]; exact wto_trans ho hg' hto⟩
      · have hone := wText1_ok t n hbad
        rw [hone] at Hsucc
        clear Hsplit hone
        have hsm : ¬ (255 : Int) < (n.size : Int) := by omega
        have hw' := hid (hw.only ((Only.refl [] wr).alloc (.cells #[.int .u8 (n.size : Int)] 5)) (by simp) (by simp))
        have HB := hid (bs_one wr (UInt8.ofNat n.size) (n.size : Int) (by rw [UInt8.toNat_ofNat']; omega))
        have HP := hid (put_any hw'.out HB.out (lcap := 1) (by simp) (by simp only [List.length_singleton]; omega))
        have kc := fun w => Lib.run_convert_string_bytes (P := Try.prog) w 9 27 5 n Try.underlying9 Try.underlying27 Try.underlying5
        go_wp2_with fail
        refine HP.out.mono ?_
        rintro e w2 ⟨rfl, g2, hw2, hg2, ho2⟩
        obtain ⟨ob, hbs⟩ := bytes_world w2 n
        have hl3 := wPut_len t [UInt8.ofNat n.size]
        have hl4 : n.data.toList.length = n.size := rfl
        have HP2 := hid (put_any (hw2.only ob (by simp) (by simp)) hbs (lcap := grownCap w2 n.size 0 5) (by simp) (by rw [hl4]; simp only [List.length_singleton] at hl3; omega))
        rw [hl4] at HP2
        clear hl4
        go_wp2_with fail
        refine HP2.out.mono ?_
        rintro e w3 ⟨rfl, hto⟩
        go_wp2
        refine ⟨⟨k + 1, by omega, by go_num, ?_⟩, by simp [intOf]; omega⟩
        rw [Hsucc.out]
        refine wto_trans ((ho.alloc _).trans (ho2.trans ob (by simp)) (fun x hx => ?_)) ?_ hto
        · simp at hx ⊢
          omega
        · have := (ho.alloc (.cells #[.int .u8 (n.size : Int)] 5)).size
          omega
    · go_wp2
      go_end0
      refine ⟨rfl, g', ?_, hg', ho⟩
      rw [List.take_of_length_le (by omega)] at hw
      exact hw

end Go.Proofs.Ytgnbimoebaagfab
