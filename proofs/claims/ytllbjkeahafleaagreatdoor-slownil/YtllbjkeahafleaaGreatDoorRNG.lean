/-
  Memory that begins with a package-level variable's row (slow's exceptions), and numbers that are handed in; what known() answers, by a contract over that row.
-/
import Derived.Test.YtllbjkeahafleaaGreatDoorRN31
import Derived.Test.YtllbjkeahafleaaGreatDoorRNKP
set_option linter.unusedSimpArgs false
namespace Go.Proofs.YtllbjkeahafleaaGreatDoor
namespace Rn
open Go.RowKit

/-- The texts that the variable holds. -/
def excB : List (List UInt8) := [[78, 105, 108, 69, 114, 114, 111, 114], [66, 111, 117, 110, 100, 115, 69, 114, 114, 111, 114], [67, 97, 115, 116, 69, 114, 114, 111, 114], [68, 105, 118, 69, 114, 114, 111, 114], [68, 101, 112, 116, 104, 69, 114, 114, 111, 114], [72, 101, 97, 112, 69, 114, 114, 111, 114]]
def excV : List Value := excB.map fun b => .string ⟨⟨b⟩⟩
def excRow : Obj := .cells ⟨[.string ⟨⟨[78, 105, 108, 69, 114, 114, 111, 114]⟩⟩, .string ⟨⟨[66, 111, 117, 110, 100, 115, 69, 114, 114, 111, 114]⟩⟩, .string ⟨⟨[67, 97, 115, 116, 69, 114, 114, 111, 114]⟩⟩, .string ⟨⟨[68, 105, 118, 69, 114, 114, 111, 114]⟩⟩, .string ⟨⟨[68, 101, 112, 116, 104, 69, 114, 114, 111, 114]⟩⟩, .string ⟨⟨[72, 101, 97, 112, 69, 114, 114, 111, 114]⟩⟩]⟩ 9 (7, 7)
/-- Memory that holds the variable alone. -/
def hpG : Hp := ⟨some ⟨some excRow, none, none⟩, 1030, 1030⟩
theorem excRow_eq : excRow = .cells ⟨excV⟩ 9 (7, 7) := rfl
/-- Where all lies: the variable at its own place, numbers from 1010 on. -/
def placeG (zs : List Int) : Fi := fun r => if r = 0 then some ⟨0, 0, 6, 1⟩ else if r < 1010 then none else if r < 1015 then (zs[r - 1010]?).map encZ else none
/-- The variable holds its texts. -/
structure Gl (w : World) : Prop where
  cells : ∀ (j : Nat) (v : Value), excV[j]? = some v → w.cell? ⟨0, j, none⟩ = some v
theorem Gl.lt {w : World} (h : Gl w) : 0 < w.heap.size := World.block_lt_of_cell? w _ (h.cells 0 _ rfl)
theorem Gl.below {w w' : World} {n : Nat} (h : Gl w) (hn : 0 < n) (b : Below n w w') : Gl w' := ⟨fun j v hv => by
  rw [cell_of_heap (w := w) (a := ⟨0, j, none⟩) (b.block 0 hn)]
  exact h.cells j v hv⟩
theorem excV_str : ∀ v ∈ excV, ∃ b, v = .string b := fun v hv => by
  obtain ⟨b, _, rfl⟩ := List.mem_map.1 hv
  exact ⟨_, rfl⟩
theorem hpG_get (r : Nat) : tget W hpG.rows r = if r = 0 then some excRow else none := by
  rw [show hpG.rows = tput W none 0 (some excRow) from by kernel_rfl, tget_tput _ _ _ _ _ (by decide), get_none]
theorem str9 : ∀ i, tget W tb 9 = some i → i.size = 1 := fun i hi => by
  have h : (tget W tb 9).map (·.size) = some 1 := by kernel_rfl
  rw [hi] at h
  simpa using h
theorem wr_G {w : World} (zs : List Int) (h : Gl w) : WR tb (placeG zs) hpG w := by
  refine ⟨fun r o ho => ?_, fun r r' o o' s hl ho ho' _ _ => ?_, fun r hr => ?_, fun r o ho => ?_, by show 1030 ≤ MOST + 1; simp only [MOST]; omega, by show GL ≤ 1030; simp only [GL]; omega, fun r s hr hs => ?_⟩
  · rw [hpG_get] at ho
    split at ho
    · rename_i e
      cases ho
      subst e
      refine ⟨⟨0, 0, 6, 1⟩, rfl, h.lt, fun i hi => (str9 i hi).symm, Nat.le_refl 6, (fun e => by cases e), fun j hj => ?_, (fun e => by cases e), fun j v hv => ?_⟩
      · have hj' : j < excV.length := hj
        rw [Nat.zero_add, h.cells j excV[j] (by simp [hj'])]
        rfl
      · have hv0 : (⟨excV⟩ : Array Value)[j]? = some v := hv
        have hv' : excV[j]? = some v := by simpa using hv0
        obtain ⟨b, rfl⟩ := excV_str v (List.mem_of_getElem? hv')
        exact ⟨_, by rw [Nat.zero_add]; exact h.cells j _ hv', str_vr, trivial⟩
    · cases ho
  · rw [hpG_get] at ho'
    split at ho'
    · rename_i e
      subst e
      exact absurd hl (by decide)
    · cases ho'
  · have hr' : 1030 ≤ r := hr
    have h1 : ¬ r = 0 := by omega
    have h2 : ¬ r < 1010 := by omega
    have h3 : ¬ r < 1015 := by omega
    simp only [placeG, h1, h2, h3, if_false]
  · rw [hpG_get] at ho
    split at ho
    · rename_i e
      subst e
      exact ⟨by decide, by decide⟩
    · cases ho
  · simp only [GL] at hr
    by_cases e : r = 0
    · subst e
      have : s = ⟨0, 0, 6, 1⟩ := by simpa [placeG] using hs.symm
      rw [this]
      exact ⟨rfl, rfl⟩
    · have h2 : r < 1010 := by omega
      simp only [placeG, e, h2, if_true, if_false] at hs
      cases hs
theorem shut_G : ∀ r o, tget W hpG.rows r = some o → r < hpG.low := fun r o ho => by
  rw [hpG_get] at ho
  split at ho
  · rename_i e
    subst e
    decide
  · cases ho

/-- A call that the runner has followed from there. -/
theorem ranG {O : Ov} {f g : Nat} {args args' : List Value} {w : World} {zs : List Int} (hO : OvOK Tryz.prog tb O) (hg : Gl w) (hargs : All2 (VR (placeG zs)) args args') {T : Prop} (hk0 : evCall Tryz.prog tb O pl f g args hpG yes = T) (hT : T) :
    Calls Tryz.prog g args'.toArray w fun e w' => e = .returned (.bool true) ∧ Below w.heap.size w w' :=
  ranH tok pok hO (wr_G zs hg) shut_G hargs hk0 hT

/-- Is a cell just this text? -/
def strAt (s : List UInt8) (v : Value) (K : Prop) : Prop := match v with
  | .string b => bytesEqK b.data.toList s fun c => match c with
    | true => K
    | false => False
  | _ => False
def strsAt : List (List UInt8) → List Value → Prop → Prop
  | [], _, K => K
  | s :: l, vs, K => match vs with
    | v :: vs => strAt s v (strsAt l vs K)
    | [] => False
/-- known(), where the variable is as it was laid. -/
def knownK : ExF := fun args h K _ => match args with
  | [] => rowK h 0 fun o => match o with
    | .cells cs _ _ => strsAt excB cs.toList (K (.bool true) h)
    | _ => False
  | _ => False
theorem strAt_spec {s : List UInt8} {v : Value} {K : Prop} (h : strAt s v K) : v = .string ⟨⟨s⟩⟩ ∧ K := by
  unfold strAt at h
  split at h
  · rename_i b
    obtain ⟨⟨l⟩⟩ := b
    rw [bytesEqK_eq] at h
    split at h
    · rename_i hb
      have e := eq_of_beq hb
      subst e
      exact ⟨rfl, h⟩
    · exact h.elim
  · exact h.elim
theorem strsAt_spec : ∀ {l : List (List UInt8)} {vs : List Value} {K : Prop}, strsAt l vs K → (∀ (j : Nat) (v : Value), (l.map fun b => (.string ⟨⟨b⟩⟩ : Value))[j]? = some v → vs[j]? = some v) ∧ K
  | [], _, _, h => ⟨fun j v hv => by simp at hv, h⟩
  | s :: l, [], _, h => h.elim
  | s :: l, v :: vs, K, h => by
    obtain ⟨rfl, h2⟩ := strAt_spec (K := strsAt l vs K) h
    obtain ⟨h3, h4⟩ := strsAt_spec h2
    refine ⟨fun j u hu => ?_, h4⟩
    cases j with
    | zero => simpa using hu
    | succ j => simpa using h3 j u (by simpa using hu)
/-- Where the runner's memory holds the variable, the world does. -/
theorem gl_of {φ : Fi} {h : Hp} {w : World} {cs : Array Value} {e : Nat} {fz : Nat × Nat} (hw : WR tb φ h w) (hr : tget W h.rows 0 = some (.cells cs e fz)) (hc : ∀ (j : Nat) (v : Value), excV[j]? = some v → cs.toList[j]? = some v) : Gl w := ⟨fun j v hv => by
  obtain ⟨s, h1, h2⟩ := hw.rows 0 _ hr
  obtain ⟨e1, e2⟩ := hw.low.2 0 s (by decide) h1
  obtain ⟨_, _, _, _, _, _, h3⟩ := h2
  obtain ⟨v', h4, h5⟩ := h3 j v (by simpa using hc j v hv)
  obtain ⟨b, rfl⟩ := excV_str v (List.mem_of_getElem? hv)
  have h6 : v' = .string b := h5.1.inv
  rw [e1, e2, Nat.zero_add, h6] at h4
  exact h4⟩
theorem knownK_ok {g : Nat} (hb : ∃ fn c, Tryz.prog.funcs[g]? = some fn ∧ fn.body = some c)
    (hI : ∀ w, Gl w → Calls Tryz.prog g #[] w fun e w' => e = .returned (.bool true) ∧ Below w.heap.size w w') : ExOK Tryz.prog tb g knownK := {
  body := hb
  run := fun {args args' h K N φ w} hw hargs hk => .inr (by
    unfold knownK at hk
    split at hk
    · obtain ⟨o, h1, h2⟩ := rowK_spec hk
      split at h2
      · obtain ⟨h3, h4⟩ := strsAt_spec h2
        have hg := gl_of hw h1 h3
        have e : args' = [] := hargs
        subst e
        refine (hI w hg).mono ?_
        rintro e w' ⟨rfl, hB⟩
        exact ⟨φ, h, .bool true, .bool true, rfl, bool_vr, hw.behind hB.size hB.block, St.behind hB.size hB.block ⟨hB.os, hB.tape, hB.output⟩, h4⟩
      · exact h2.elim
    · exact hk.elim) }

end Rn
end Go.Proofs.YtllbjkeahafleaaGreatDoor
