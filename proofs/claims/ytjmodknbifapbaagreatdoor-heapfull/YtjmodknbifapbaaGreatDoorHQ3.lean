/-
  The contracts of heap's add and Array at numbers' types. No conditions beyond the bounds of a law's own.
-/
import Derived.Test.YtjmodknbifapbaaGreatDoorHQ2
namespace Go.Proofs.YtjmodknbifapbaaGreatDoor
open Go.RowKit

theorem ownThing : ElT 75 .nilIface 1 16 := ⟨by kernel_rfl, by kernel_rfl, by decide, by decide⟩

theorem method_at {P : Program} {t : TypeId} {v : Value} {name : String} {w : World} {r : Result (FuncId × Value)} (h : ∀ n, (method (n + 1) t v name).run P w = r) : (method (P.types.size + Made.depth) t v name).run P w = r := h (P.types.size + 99)
/-- An array's size is its body's. -/
theorem method_size {w : World} {a : Nat} {s : Option Addr} {k c : Nat} (n : Nat) (c0 : w.cell? ⟨a, 0, none⟩ = some (.slice s k c)) :
    (method (n + 1) 67 (.pointer (some ⟨a, 0, none⟩)) "keystone/heap.size").run Tryz.prog w = .ok (257, .slice s k c) w := by
  have hm : (Tryz.prog.info? 67).bind (fun ti => (ti.methods.find? fun x => x.name == "keystone/heap.size").map fun m => (m.path.toList, m.func)) = some ([⟨73, 0, true⟩], some (257, false)) := by kernel_rfl
  cases hi : Tryz.prog.info? 67 with
  | none => rw [hi] at hm; cases hm
  | some ti =>
    rw [hi] at hm
    simp only [Option.bind_some] at hm
    cases hf : ti.methods.find? fun x => x.name == "keystone/heap.size" with
    | none => rw [hf] at hm; cases hm
    | some m =>
      rw [hf] at hm
      simp only [Option.map_some, Option.some.injEq, Prod.mk.injEq] at hm
      obtain ⟨h1, h2⟩ := hm
      unfold method
      simp only [Sem.run_bind, typeInfo, run_program, Result.andThen_ok, hi, Sem.run_pure, hf, h1, h2]
      have hu : (underlying 73).run Tryz.prog w = .ok _ w := run_underlying Tryz.underlying73 w
      have hb : (underlying 69).run Tryz.prog w = .ok _ w := run_underlying Tryz.underlying69 w
      have ht : Rn.TiOK Tryz.prog 69 Rn.ty69 := Rn.tok.ok 69 _ rfl
      have hz := ht.size (w := w)
      have ha := ht.isAgg (w := w)
      have hfp : (fieldPlace ⟨a, 0, none⟩ { name := "body", type := 69, offset := 0, embedded := true, tag := "", pkgPath := "keystone/heap", byteOffset := 0 }).run Tryz.prog w = .ok ⟨a, 0, none⟩ w := by
        simp only [fieldPlace, Sem.run_bind, hz, Result.andThen_ok]
        rfl
      have hld : (load ⟨a, 0, none⟩).run Tryz.prog w = .ok (.slice s k c) w := by simp [c0]
      simp only [follow, Sem.run_bind, hu, Result.andThen_ok, List.getElem?_toArray, List.getElem?_cons_zero, if_true, Place.get, asAddr, Sem.run_pure, hfp, receiverAt, hb, loadVar, ha]
      rw [show Rn.isAgg Rn.ty69.kind = false from rfl]
      simp only [Bool.false_eq_true, if_false, hld, Result.andThen_ok]

theorem HeapAt.cells {w w' : World} {S : List Nat} {B g : Nat} {p : Value} {n : Nat} {most given : Int} {v : Value} {xs : List Value} (h : HeapAt w B g p n most given v xs) (ho : Only S w w') (hg : g ∉ S) :
    w'.cell? ⟨g, 0, none⟩ = some p ∧ w'.cell? ⟨g, 2, none⟩ = some v ∧ w'.cell? ⟨g, 3, none⟩ = some (.int .i64 most) ∧ w'.cell? ⟨g, 4, none⟩ = some (.int .i64 given) ∧ w'.frozen? ⟨g, 2, none⟩ = false ∧ w'.frozen? ⟨g, 4, none⟩ = false := by
  have hl := h.lt
  exact ⟨(ho.cell (p := ⟨g, 0, none⟩) hl hg).trans h.c0, (ho.cell (p := ⟨g, 2, none⟩) hl hg).trans h.c2, (ho.cell (p := ⟨g, 3, none⟩) hl hg).trans h.c3, (ho.cell (p := ⟨g, 4, none⟩) hl hg).trans h.c4, (ho.frozen (p := ⟨g, 2, none⟩) hl hg).trans h.f2, (ho.frozen (p := ⟨g, 4, none⟩) hl hg).trans h.f4⟩

/-- What add leaves. -/
theorem add_end {w w1 : World} {B g n cap cap1 : Nat} {p : Value} {most given gv : Int} {ao ao1 : Option Addr} {xs ys : List Value} {o : Obj} (h : HeapAt w B g p n most given (.slice ao n cap) xs) (hA : Appd (w.alloc o) w1 B 75 1 ao ao1 n (n + 1) cap1 ys)
    (ho : Only (Value.ownBlock (.slice ao n cap)).toList w w1) (hgo : g ∉ (Value.ownBlock (.slice ao n cap)).toList) :
    HeapAt ((w1.setCell ⟨g, 2, none⟩ (.slice ao1 (n + 1) cap1)).setCell ⟨g, 4, none⟩ (.int .i64 gv)).drew B g p (n + 1) most gv (.slice ao1 (n + 1) cap1) ys ∧ Only (g :: (Value.ownBlock (.slice ao n cap)).toList) w ((w1.setCell ⟨g, 2, none⟩ (.slice ao1 (n + 1) cap1)).setCell ⟨g, 4, none⟩ (.int .i64 gv)).drew := by
  obtain ⟨d0, d2, d3, d4, e2, e4⟩ := h.cells ho hgo
  have hl := h.lt
  have o2 : Only [g] w1 ((w1.setCell ⟨g, 2, none⟩ (.slice ao1 (n + 1) cap1)).setCell ⟨g, 4, none⟩ (.int .i64 gv)).drew := (((Only.refl [g] w1).setCell (.inl (by simp)) _).setCell (.inl (by simp)) _).drew
  have hoth : ∀ b, Value.ownBlock (.slice ao1 (n + 1) cap1) = some b → b ≠ g := fun b hb => by
    cases ao1 with
    | none => cases hb
    | some q =>
      have hq : q.block = b := by simpa [Value.ownBlock] using hb
      subst hq
      rcases hA.place q rfl with ⟨a', e, e'⟩ | hge
      · rw [← e']
        exact h.other a'.block (by rw [e]; rfl)
      · rw [World.size_alloc] at hge
        omega
  refine ⟨⟨?_, ?_, ?_, ?_, ?_, ?_, rows_only hA.own o2 (fun b hb => by simpa using hoth b hb), hoth, h.base⟩, (ho.mono (S' := g :: (Value.ownBlock (.slice ao n cap)).toList) (fun x hx => .inl (by simp [hx]))).trans o2 (fun x hx => .inl (by simp at hx; simp [hx]))⟩
  · show ((w1.setCell ⟨g, 2, none⟩ (.slice ao1 (n + 1) cap1)).setCell ⟨g, 4, none⟩ (.int .i64 gv)).cell? ⟨g, 0, none⟩ = _
    rw [cell_setCell_ne _ _ (by simp), cell_setCell_ne _ _ (by simp)]
    exact d0
  · show ((w1.setCell ⟨g, 2, none⟩ (.slice ao1 (n + 1) cap1)).setCell ⟨g, 4, none⟩ (.int .i64 gv)).cell? ⟨g, 2, none⟩ = _
    rw [cell_setCell_ne _ _ (by simp)]
    exact cell_setCell_same _ _ d2
  · show ((w1.setCell ⟨g, 2, none⟩ (.slice ao1 (n + 1) cap1)).setCell ⟨g, 4, none⟩ (.int .i64 gv)).cell? ⟨g, 3, none⟩ = _
    rw [cell_setCell_ne _ _ (by simp), cell_setCell_ne _ _ (by simp)]
    exact d3
  · show ((w1.setCell ⟨g, 2, none⟩ (.slice ao1 (n + 1) cap1)).setCell ⟨g, 4, none⟩ (.int .i64 gv)).cell? ⟨g, 4, none⟩ = _
    exact cell_setCell_same _ _ ((cell_setCell_ne _ _ (by simp)).trans d4)
  · show ((w1.setCell ⟨g, 2, none⟩ (.slice ao1 (n + 1) cap1)).setCell ⟨g, 4, none⟩ (.int .i64 gv)).frozen? ⟨g, 2, none⟩ = _
    rw [frozen_setCell, frozen_setCell]
    exact e2
  · show ((w1.setCell ⟨g, 2, none⟩ (.slice ao1 (n + 1) cap1)).setCell ⟨g, 4, none⟩ (.int .i64 gv)).frozen? ⟨g, 4, none⟩ = _
    rw [frozen_setCell, frozen_setCell]
    exact e4

set_option maxRecDepth 100000 in
set_option maxHeartbeats 1000000 in
theorem add_any {w : World} {B g a : Nat} {p : Value} {n k c : Nat} {s : Option Addr} {most given : Int} {v : Value} {xs : List Value} (h : HeapAt w B g p n most given v xs) (ca : w.cell? ⟨a, 0, none⟩ = some (.slice s k c)) (hav : ∀ b, v.ownBlock = some b → b ≠ a)
    (hn : n ≤ 100) (hk : k ≤ 65536) (h3 : 0 ≤ given) (h4 : given ≤ 10000) :
    Calls Tryz.prog 23 #[.pointer (some ⟨g, 0, none⟩), .iface 67 (.pointer (some ⟨a, 0, none⟩))] w fun e w' => ∃ v' xs', e = .returned (.int .i64 ((n : Int) + 1)) ∧ HeapAt w' B g p (n + 1) most (given + (16 + 8 * (k : Int))) v' xs' ∧ Only (g :: v.ownBlock.toList) w w' := by
  obtain ⟨ao, cap, rfl⟩ := rows_slice h.own
  have c2 := h.c2
  have H := hid h
  have hl := h.lt
  have hal := World.block_lt_of_cell? w _ ca
  have hown := h.own.alloc (.cells #[.iface 67 (.pointer (some ⟨a, 0, none⟩))] 75)
  have hR := RS.fresh w #[.iface 67 (.pointer (some ⟨a, 0, none⟩))] 75
  have hgo : g ∉ (Value.ownBlock (.slice ao n cap)).toList := fun hx => by
    cases ao with
    | none => simp [Value.ownBlock] at hx
    | some q => simp [Value.ownBlock] at hx; exact h.other q.block rfl hx.symm
  have hao : a ∉ (Value.ownBlock (.slice ao n cap)).toList := fun hx => by
    cases ao with
    | none => simp [Value.ownBlock] at hx
    | some q => simp [Value.ownBlock] at hx; exact hav q.block rfl hx.symm
  have hbase := h.base
  have HOWN := hid hown
  have HRR := hid hR
  have CA := hid ca
  have HGO := hid hgo
  have HAO := hid hao
  clear h hown hR ca hgo hao hav
  go_enter Tryz.func23, Tryz.ntmps23
  have key : ∀ {w1 : World} {ao1 : Option Addr} {cap1 : Nat}, Appd (w.alloc (.cells #[.iface 67 (.pointer (some ⟨a, 0, none⟩))] 75)) w1 B 75 1 ao ao1 n (n + 1) cap1 (xs ++ [.iface 67 (.pointer (some ⟨a, 0, none⟩))]) → Only (Value.ownBlock (.slice ao n cap)).toList w w1 := fun hA =>
    ((Only.refl (Value.ownBlock (.slice ao n cap)).toList w).alloc _).trans hA.only fun x hx => .inl (by
      cases ao with
      | none => simp [Value.ownBlock] at hx
      | some q => simpa [Value.ownBlock] using hx)
  go_wp2_with (first | (at_builtin; refine wpList_append_any (ys := [.iface 67 (.pointer (some ⟨a, 0, none⟩))]) rfl (.tmp 9) (.tmp 11) ownThing Tryz.underlying61 rfl rfl rfl HOWN.out HRR.out rfl (by simp [Value.oneCell']) (by simp) (by omega) (by simp; omega) ?_; intro ao1 cap1 w1 hA; have O1 := hid (key hA); obtain ⟨d0, d2, d3, d4, e2, e4⟩ := H.out.cells O1.out HGO.out; replace hA := hid hA) | fail)
  have CA1 : w1.cell? ⟨a, 0, none⟩ = some (.slice s k c) := (O1.out.cell (p := ⟨a, 0, none⟩) hal HAO.out).trans CA.out
  have CA2 : (w1.setCell ⟨g, 2, none⟩ (.slice ao1 (n + 1) cap1)).cell? ⟨a, 0, none⟩ = some (.slice s k c) := by
    rw [cell_setCell_ne _ _ (by simp)]
    exact CA1
  have hM1 : (method 491 67 (.pointer (some ⟨a, 0, none⟩)) "keystone/heap.size").run Tryz.prog (w1.setCell ⟨g, 2, none⟩ (.slice ao1 (n + 1) cap1)).drew = .ok (257, .slice s k c) (w1.setCell ⟨g, 2, none⟩ (.slice ao1 (n + 1) cap1)).drew := method_size _ CA2
  have HSZ : Hid (∀ W : World, Calls Tryz.prog 257 #[.slice s k c] W fun e w' => e = .returned (.int .i64 (16 + 8 * (k : Int))) ∧ w' = W) := hid fun _ => size_any hk
  go_region_with (go_at_call 257; with_reducible refine (HSZ.out _).mono ?_; rintro e w5 ⟨rfl, rfl⟩)
  all_goals
    have hwr : IntKind.i64.wrap (given + (16 + 8 * (k : Int))) = given + (16 + 8 * (k : Int)) := Rn.wrap_fits (by omega)
    rw [hwr]
    obtain ⟨q1, q2⟩ := add_end (gv := given + (16 + 8 * (k : Int))) H.out hA.out O1.out HGO.out
    have q3 := q1.c2
    go_wp2
    go_ret
    exact ⟨_, _, rfl, q1, q2⟩

end Go.Proofs.YtjmodknbifapbaaGreatDoor
