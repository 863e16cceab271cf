/-
  What the proof leans on, part 38 of 48. The conditions stand in each theorem.
-/
import Derived.Test.YtildemmkhndhjaaGreatDoorB32
namespace Go.Proofs.YtildemmkhndhjaaGreatDoor
open Go.RowKit

theorem OX.open_ {w : World} {Z : Nat→Prop} {N : Nat} {e : TypeId} {k : Nat} {v : Value} (h : OX w Z N e k v) : ∃ ao n cap xs,v = .slice ao n cap∧OwR w 0 Z e k (.slice ao n cap) n xs∧n≤N:=by
 obtain ⟨n,xs,h1,h2⟩:=h
 obtain ⟨ao,cap,rfl⟩:=rows_slice h1.1
 exact ⟨ao,n,cap,xs,rfl,h1,h2⟩

theorem OX.at_ {w : World} {Z : Nat→Prop} {N : Nat} {e : TypeId} {k n cap : Nat} {ao : Option Addr} (h : OX w Z N e k (.slice ao n cap)) : ∃ xs,OwR w 0 Z e k (.slice ao n cap) n xs∧n≤N:=by
 obtain ⟨ao',n',cap',xs,hv,h1,h2⟩:=h.open_
 simp only [Value.slice.injEq] at hv
 obtain ⟨rfl,rfl,rfl⟩:=hv
 exact ⟨xs,h1,h2⟩

/-- Where the i-th element of a row lies. -/
theorem own_spot {w : World} {Z : Nat→Prop} {e : TypeId} {k n cap : Nat} {ao : Option Addr} {xs : List Value} (h : OwR w 0 Z e k (.slice ao n cap) n xs) {i : Nat} (hi : i < n) :
  ∃ g,ao = some ⟨g,0,none⟩∧Z g∧g < w.heap.size∧∀ r,r < k→∃ u,xs[i * k + r]? = some u∧w.cell? ⟨g,i * k + r,none⟩ = some u∧w.frozen? ⟨g,i * k + r,none⟩ = false:=by
 obtain ⟨h,hz⟩:=h
 cases ao with
 | none=>
  rcases h.2 with ⟨_,h0⟩ | ⟨b,c,cur,hv,_⟩
  ·omega
  ·simp at hv
 | some a=>
  obtain ⟨_,_,_,_,r5⟩:=RS.of_owns h
  obtain ⟨_,r7,r8⟩:=r5 a rfl
  rw [r8] at h
  refine ⟨a.block,by rw [r8],hz _ rfl,r7,fun r hr=>?_⟩
  have h3 : (i + 1) * k≤n * k:=Nat.mul_le_mul_right k hi
  rw [Nat.add_mul,Nat.one_mul] at h3
  have hl : i * k + r < xs.length:=by rw [h.1]; omega
  refine ⟨xs[i * k + r],by simp [hl],?_,h.frozenAt _⟩
  have:=h.cells (g:=a.block) rfl (i * k + r) xs[i * k + r] (by simp [hl])
  rw [Addr.add_lit] at this
  simpa using this

/-- What stands all along. -/
structure SpI (W : World) (Z : Nat→Prop) (b : Nat) (vp vc : Value) (N : Nat) (wr : World) : Prop where
 lo : ∃ S,Only S W wr∧∀ x,x∈S→Z x
 pool : OX wr Z N 90 6 vp
 cls : RowC wr Z N vc
 box : Mo2 wr b vp vc

theorem SpI.step {W wr w' : World} {Z : Nat→Prop} {b : Nat} {vp vc : Value} {N M : Nat} (h : SpI W Z b vp vc N wr) (hb : ¬ Z b) (t : TP Z M wr w') (hM : M≤N) : SpI W Z b vp vc N w':=by
 obtain ⟨S,h1,h2⟩:=h.lo
 obtain ⟨T,k1,k2⟩:=t.lo
 refine ⟨⟨S ++ T,(h1.mono (fun x hx=>.inl (List.mem_append_left _ hx))).trans k1 (fun x hx=>.inl (List.mem_append_right _ hx)),fun x hx=>?_⟩,t.ox N hM _ _ _ h.pool,t.rc N hM _ h.cls,h.box.only k1 fun hx=>hb (k2 b hx)⟩
 rcases List.mem_append.1 hx with hx | hx
 ·exact h2 x hx
 ·exact k2 x hx

theorem RowC.le {w : World} {Z : Nat→Prop} {N N' : Nat} {v : Value} (h : RowC w Z N v) (hN : N≤N') : RowC w Z N' v:=by
 obtain ⟨n,xs,h1,h2,h3⟩:=h
 exact ⟨n,xs,h1,Nat.le_trans h2 hN,fun q u hq=>(h3 q u hq).mono (fun _ _ _ h=>h.le hN) fun _ h=>h.le hN⟩

theorem SpI.le {W wr : World} {Z : Nat→Prop} {b : Nat} {vp vc : Value} {N N' : Nat} (h : SpI W Z b vp vc N wr) (hN : N≤N') : SpI W Z b vp vc N' wr:=⟨h.lo,h.pool.le hN,h.cls.le hN,h.box⟩

theorem SpI.size {W wr : World} {Z : Nat→Prop} {b : Nat} {vp vc : Value} {N : Nat} (h : SpI W Z b vp vc N wr) : W.heap.size≤wr.heap.size:=h.lo.choose_spec.1.size

/-- Whatever is no method and no class may hold anything. -/
theorem kd_free {w : World} {Z : Nat→Prop} {M j : Nat} {e : TypeId} {u : Value} (h1 : e≠41) (h2 : e≠28) : Kd w Z M e j u:=⟨fun h=>absurd h h1,fun h=>absurd h h2⟩

theorem kd_me {w : World} {Z : Nat→Prop} {M j : Nat} {u : Value} (h : MeF w Z M (j % 10) u) : Kd w Z M 41 j u:=⟨fun _=>h,fun h=>absurd h (by decide)⟩
theorem kd_cl {w : World} {Z : Nat→Prop} {M j : Nat} {u : Value} (h : ClF w Z M (j % 6) u) : Kd w Z M 28 j u:=⟨fun h=>absurd h (by decide),fun _=>h⟩

theorem ox_nil (w : World) (Z : Nat→Prop) (N : Nat) (e : TypeId) (k : Nat) : OX w Z N e k (.slice none 0 0):=⟨0,[],⟨World.ownsRow_nil _ _ _ _,fun g hg=>by simp [Value.ownBlock] at hg⟩,Nat.zero_le _⟩
theorem rowM_nil (w : World) (Z : Nat→Prop) (N : Nat) : RowM w Z N (.slice none 0 0):=⟨0,[],⟨World.ownsRow_nil _ _ _ _,fun g hg=>by simp [Value.ownBlock] at hg⟩,Nat.zero_le _,fun q u hq=>by simp at hq⟩

/-- The cells of a method of nothing but a number. -/
def meZ (i : Int) : List Value:=[.int .i64 i,.string ⟨#[]⟩,.slice none 0 0,.bool false,.int .i64 0,.string ⟨#[]⟩,.int .i64 0,.int .i64 0,.slice none 0 0,.slice none 0 0]
def clZ (i : Int) : List Value:=[.int .i64 i,.string ⟨#[]⟩,.string ⟨#[]⟩,.slice none 0 0,.slice none 0 0,.slice none 0 0]

theorem meZ_f (w : World) (Z : Nat→Prop) (M : Nat) (i : Int) (r : Nat) (u : Value) (h : (meZ i)[r]? = some u) : MeF w Z M r u:=by
 have hr : r < 10:=(List.getElem?_eq_some_iff.1 h).1
 have a1:=ox_nil w Z M 35 2
 have a2:=ox_nil w Z M 5 1
 have a3:=ox_nil w Z M 46 4
 have hc : r = 0∨r = 1∨r = 2∨r = 3∨r = 4∨r = 5∨r = 6∨r = 7∨r = 8∨r = 9:=by omega
 rcases hc with rfl | rfl | rfl | rfl | rfl | rfl | rfl | rfl | rfl | rfl <;> simp [meZ] at h <;> subst h <;> simp [MeF,a1,a2,a3]

theorem clZ_f (w : World) (Z : Nat→Prop) (M : Nat) (i : Int) (r : Nat) (u : Value) (h : (clZ i)[r]? = some u) : ClF w Z M r u:=by
 have hr : r < 6:=(List.getElem?_eq_some_iff.1 h).1
 have a1:=ox_nil w Z M 9 1
 have a2:=ox_nil w Z M 44 4
 have a3:=rowM_nil w Z M
 have hc : r = 0∨r = 1∨r = 2∨r = 3∨r = 4∨r = 5:=by omega
 rcases hc with rfl | rfl | rfl | rfl | rfl | rfl <;> simp [clZ] at h <;> subst h <;> simp [ClF,a1,a2,a3]

/-- A whole method, a whole class is written over. -/
theorem tp_meZ {w : World} {Z : Nat→Prop} {M n cap g : Nat} {xs : List Value} (h : OwR w 0 Z 41 10 (.slice (some ⟨g,0,none⟩) n cap) n xs) (i : Nat) (x : Int) : TP Z M w (w.setCells g (i * 10) (meZ x)):=
 tp_cells (v:=.slice (some ⟨g,0,none⟩) n cap) rfl (h.2 g rfl) _ _ _ ⟨xs,h.1⟩ fun r u hr=>kd_me (by
  have hl : r < 10:=(List.getElem?_eq_some_iff.1 hr).1
  rw [show (i * 10 + r) % 10 = r by omega]
  exact meZ_f w Z M x r u hr)

theorem tp_clZ {w : World} {Z : Nat→Prop} {M n cap g : Nat} {xs : List Value} (h : OwR w 0 Z 28 6 (.slice (some ⟨g,0,none⟩) n cap) n xs) (i : Nat) (x : Int) : TP Z M w (w.setCells g (i * 6) (clZ x)):=
 tp_cells (v:=.slice (some ⟨g,0,none⟩) n cap) rfl (h.2 g rfl) _ _ _ ⟨xs,h.1⟩ fun r u hr=>kd_cl (by
  have hl : r < 6:=(List.getElem?_eq_some_iff.1 hr).1
  rw [show (i * 6 + r) % 6 = r by omega]
  exact clZ_f w Z M x r u hr)

/-- Elements of other rows are written over. -/
theorem tp_free {w : World} {Z : Nat→Prop} {M n cap g o : Nat} {e : TypeId} {k : Nat} {xs ys : List Value} (h : OwR w 0 Z e k (.slice (some ⟨g,0,none⟩) n cap) n xs) (h1 : e≠41) (h2 : e≠28) : TP Z M w (w.setCells g o ys):=
 tp_cells (v:=.slice (some ⟨g,0,none⟩) n cap) rfl (h.2 g rfl) _ _ _ ⟨xs,h.1⟩ fun _ _ _=>kd_free h1 h2

/-- The slices of a class, of a method, of a row that keeps to the kinds. -/
theorem RowC.at_ {w : World} {Z : Nat→Prop} {N n cap : Nat} {ao : Option Addr} (h : RowC w Z N (.slice ao n cap)) : ∃ xs,OwR w 0 Z 28 6 (.slice ao n cap) n xs∧n≤N∧∀ q u,xs[q]? = some u→ClF w Z N (q % 6) u:=by
 obtain ⟨n',xs,h1,h2,h3⟩:=h
 obtain ⟨ao',cap',hv⟩:=rows_slice h1.1
 simp only [Value.slice.injEq] at hv
 obtain ⟨rfl,rfl,rfl⟩:=hv
 exact ⟨xs,h1,h2,h3⟩

theorem RowM.open_ {w : World} {Z : Nat→Prop} {N : Nat} {v : Value} (h : RowM w Z N v) : ∃ ao n cap,v = .slice ao n cap:=by
 obtain ⟨n',xs,h1,h2,h3⟩:=h
 obtain ⟨ao',cap',rfl⟩:=rows_slice h1.1
 exact ⟨_,_,_,rfl⟩

theorem RowM.at_ {w : World} {Z : Nat→Prop} {N n cap : Nat} {ao : Option Addr} (h : RowM w Z N (.slice ao n cap)) : ∃ xs,OwR w 0 Z 41 10 (.slice ao n cap) n xs∧n≤64 + N / 3000∧∀ q u,xs[q]? = some u→MeF w Z N (q % 10) u:=by
 obtain ⟨n',xs,h1,h2,h3⟩:=h
 obtain ⟨ao',cap',hv⟩:=rows_slice h1.1
 simp only [Value.slice.injEq] at hv
 obtain ⟨rfl,rfl,rfl⟩:=hv
 exact ⟨xs,h1,h2,h3⟩


theorem Q3.only {w w' : World} {S : List Nat} {g i j l : Nat} {a b c : Value} (h : Q3 w g i j l a b c) (ho : Only S w w') (hg : g ∉ S) : Q3 w' g i j l a b c:=by
 have hl:=World.block_lt_of_cell? w _ h.a
 exact ⟨(ho.cell (p:=⟨g,i,none⟩) hl hg).trans h.a,(ho.cell (p:=⟨g,j,none⟩) hl hg).trans h.b,(ho.cell (p:=⟨g,l,none⟩) hl hg).trans h.c,(ho.frozen (p:=⟨g,i,none⟩) hl hg).trans h.fa,(ho.frozen (p:=⟨g,j,none⟩) hl hg).trans h.fb,(ho.frozen (p:=⟨g,l,none⟩) hl hg).trans h.fc⟩

theorem cells_only (g : Nat) : ∀ (ys : List Value) (o : Nat) (w : World),Only [g] w (w.setCells g o ys):=by
 intro ys
 induction ys with
 | nil=>intro o w; exact Only.refl _ _
 | cons y ys ih=>intro o w; exact ((Only.refl [g] w).setCell (p:=⟨g,o,none⟩) (.inl (by simp)) y).trans (ih (o + 1) _) (by simp)

theorem Q3.put_a {w : World} {g i j l : Nat} {a b c : Value} (h : Q3 w g i j l a b c) (hj : i≠j) (hl : i≠l) (u : Value) : Q3 (w.setCell ⟨g,i,none⟩ u) g i j l u b c:=
 ⟨cell_setCell_same _ _ h.a,(cell_setCell_ne _ _ (by simp <;> omega)).trans h.b,(cell_setCell_ne _ _ (by simp <;> omega)).trans h.c,(frozen_setCell _ _ _ _).trans h.fa,(frozen_setCell _ _ _ _).trans h.fb,(frozen_setCell _ _ _ _).trans h.fc⟩
theorem Q3.put_b {w : World} {g i j l : Nat} {a b c : Value} (h : Q3 w g i j l a b c) (hi : i≠j) (hl : j≠l) (u : Value) : Q3 (w.setCell ⟨g,j,none⟩ u) g i j l a u c:=
 ⟨(cell_setCell_ne _ _ (by simp <;> omega)).trans h.a,cell_setCell_same _ _ h.b,(cell_setCell_ne _ _ (by simp <;> omega)).trans h.c,(frozen_setCell _ _ _ _).trans h.fa,(frozen_setCell _ _ _ _).trans h.fb,(frozen_setCell _ _ _ _).trans h.fc⟩
theorem Q3.put_c {w : World} {g i j l : Nat} {a b c : Value} (h : Q3 w g i j l a b c) (hi : i≠l) (hj : j≠l) (u : Value) : Q3 (w.setCell ⟨g,l,none⟩ u) g i j l a b u:=
 ⟨(cell_setCell_ne _ _ (by simp <;> omega)).trans h.a,(cell_setCell_ne _ _ (by simp <;> omega)).trans h.b,cell_setCell_same _ _ h.c,(frozen_setCell _ _ _ _).trans h.fa,(frozen_setCell _ _ _ _).trans h.fb,(frozen_setCell _ _ _ _).trans h.fc⟩

/-- The slices of the class at hand. -/
structure CI (Z : Nat→Prop) (gC i : Nat) (vf vd vm : Value) (N : Nat) (wr : World) : Prop where
 q : Q3 wr gC (i * 6 + 3) (i * 6 + 4) (i * 6 + 5) vf vd vm
 f : OX wr Z N 9 1 vf
 d : OX wr Z N 44 4 vd
 m : RowM wr Z N vm

theorem CI.step {Z : Nat→Prop} {gC i : Nat} {vf vd vm : Value} {N M : Nat} {wr w' : World} {S : List Nat} (h : CI Z gC i vf vd vm N wr) (t : TP Z M wr w') (hM : M≤N) (ho : Only S wr w') (hg : gC ∉ S) : CI Z gC i vf vd vm N w':=
 ⟨h.q.only ho hg,t.ox N hM _ _ _ h.f,t.ox N hM _ _ _ h.d,t.rm N hM _ h.m⟩
theorem CI.le {Z : Nat→Prop} {gC i : Nat} {vf vd vm : Value} {N N' : Nat} {wr : World} (h : CI Z gC i vf vd vm N wr) (hN : N≤N') : CI Z gC i vf vd vm N' wr:=⟨h.q,h.f.le hN,h.d.le hN,h.m.le hN⟩

/-- The slices of the method at hand. -/
structure MI (Z : Nat→Prop) (gm k : Nat) (sp sc sh : Value) (N : Nat) (wr : World) : Prop where
 q : Q3 wr gm (k * 10 + 2) (k * 10 + 8) (k * 10 + 9) sp sc sh
 p : OX wr Z N 35 2 sp
 c : OX wr Z N 5 1 sc
 h : OX wr Z N 46 4 sh

theorem MI.step {Z : Nat→Prop} {gm k : Nat} {sp sc sh : Value} {N M : Nat} {wr w' : World} {S : List Nat} (h : MI Z gm k sp sc sh N wr) (t : TP Z M wr w') (hM : M≤N) (ho : Only S wr w') (hg : gm ∉ S) : MI Z gm k sp sc sh N w':=
 ⟨h.q.only ho hg,t.ox N hM _ _ _ h.p,t.ox N hM _ _ _ h.c,t.ox N hM _ _ _ h.h⟩
theorem MI.le {Z : Nat→Prop} {gm k : Nat} {sp sc sh : Value} {N N' : Nat} {wr : World} (h : MI Z gm k sp sc sh N wr) (hN : N≤N') : MI Z gm k sp sc sh N' wr:=⟨h.q,h.p.le hN,h.c.le hN,h.h.le hN⟩

/-- All that stands inside a class. -/
structure AC (W : World) (Z : Nat→Prop) (bb : Nat) (vp : Value) (gC nC cc i : Nat) (vf vd vm : Value) (N : Nat) (wr : World) : Prop where
 I : SpI W Z bb vp (.slice (some ⟨gC,0,none⟩) nC cc) N wr
 C : CI Z gC i vf vd vm N wr

/-- A step inside blocks of a row of other elements. -/
theorem AC.free {W : World} {Z : Nat→Prop} {bb : Nat} {vp : Value} {gC nC cc i : Nat} {vf vd vm : Value} {N M : Nat} {wr w' : World} (h : AC W Z bb vp gC nC cc i vf vd vm N wr) (hb : ¬ Z bb) {e : TypeId} {k n : Nat} {v : Value} {xs : List Value} (hr : wr.ownsRow 0 e k v n xs) (h2 : e≠28) (t : TP Z M wr w') (hM : M≤N) (ho : Only v.ownBlock.toList wr w') : AC W Z bb vp gC nC cc i vf vd vm N w':=by
 obtain ⟨ys,hc,_⟩:=h.I.cls.at_
 have hu:=rows_unlike hr hc.1 h2 (g:=gC) rfl
 exact ⟨h.I.step hb t hM,h.C.step t hM ho (by simpa [Option.mem_toList] using hu)⟩

theorem AC.zero {W : World} {Z : Nat→Prop} {bb : Nat} {vp : Value} {gC nC cc i : Nat} {vf vd vm : Value} {N : Nat} {wr w' : World} (h : AC W Z bb vp gC nC cc i vf vd vm N wr) (hb : ¬ Z bb) (ho : Only [] wr w') : AC W Z bb vp gC nC cc i vf vd vm N w':=
 ⟨h.I.step hb (tp_only0 (M:=N) ho) (Nat.le_refl _),h.C.step (tp_only0 (M:=N) ho) (Nat.le_refl _) ho (by simp)⟩

theorem AC.le {W : World} {Z : Nat→Prop} {bb : Nat} {vp : Value} {gC nC cc i : Nat} {vf vd vm : Value} {N N' : Nat} {wr : World} (h : AC W Z bb vp gC nC cc i vf vd vm N wr) (hN : N≤N') : AC W Z bb vp gC nC cc i vf vd vm N' wr:=⟨h.I.le hN,h.C.le hN⟩

/-- All that stands inside a method. -/
structure AM (W : World) (Z : Nat→Prop) (bb : Nat) (vp : Value) (gC nC cc i : Nat) (vf vd : Value) (gm nm mc k : Nat) (sp sc sh : Value) (N : Nat) (wr : World) : Prop where
 A : AC W Z bb vp gC nC cc i vf vd (.slice (some ⟨gm,0,none⟩) nm mc) N wr
 M : MI Z gm k sp sc sh N wr

theorem AM.free {W : World} {Z : Nat→Prop} {bb : Nat} {vp : Value} {gC nC cc i : Nat} {vf vd : Value} {gm nm mc k : Nat} {sp sc sh : Value} {N M : Nat} {wr w' : World} (h : AM W Z bb vp gC nC cc i vf vd gm nm mc k sp sc sh N wr) (hb : ¬ Z bb) {e : TypeId} {j n : Nat} {v : Value} {xs : List Value} (hr : wr.ownsRow 0 e j v n xs) (h1 : e≠41) (h2 : e≠28) (t : TP Z M wr w') (hM : M≤N) (ho : Only v.ownBlock.toList wr w') : AM W Z bb vp gC nC cc i vf vd gm nm mc k sp sc sh N w':=by
 obtain ⟨ys,hc,_⟩:=h.A.C.m.at_
 have hu:=rows_unlike hr hc.1 h1 (g:=gm) rfl
 exact ⟨h.A.free hb hr h2 t hM ho,h.M.step t hM ho (by simpa [Option.mem_toList] using hu)⟩

theorem AM.zero {W : World} {Z : Nat→Prop} {bb : Nat} {vp : Value} {gC nC cc i : Nat} {vf vd : Value} {gm nm mc k : Nat} {sp sc sh : Value} {N : Nat} {wr w' : World} (h : AM W Z bb vp gC nC cc i vf vd gm nm mc k sp sc sh N wr) (hb : ¬ Z bb) (ho : Only [] wr w') : AM W Z bb vp gC nC cc i vf vd gm nm mc k sp sc sh N w':=
 ⟨h.A.zero hb ho,h.M.step (tp_only0 (M:=N) ho) (Nat.le_refl _) ho (by simp)⟩

theorem AM.le {W : World} {Z : Nat→Prop} {bb : Nat} {vp : Value} {gC nC cc i : Nat} {vf vd : Value} {gm nm mc k : Nat} {sp sc sh : Value} {N N' : Nat} {wr : World} (h : AM W Z bb vp gC nC cc i vf vd gm nm mc k sp sc sh N wr) (hN : N≤N') : AM W Z bb vp gC nC cc i vf vd gm nm mc k sp sc sh N' wr:=⟨h.A.le hN,h.M.le hN⟩

/-- A store into the row of methods that keeps to the kinds: what stands inside the class still stands. -/
theorem AM.put {W : World} {Z : Nat→Prop} {bb : Nat} {vp : Value} {gC nC cc i : Nat} {vf vd : Value} {gm nm mc k : Nat} {sp sc sh : Value} {N : Nat} {wr : World} (h : AM W Z bb vp gC nC cc i vf vd gm nm mc k sp sc sh N wr) (hb : ¬ Z bb) (r : Nat) (u : Value) (hr : r < 10) (hu : MeF wr Z N r u) :
  AC W Z bb vp gC nC cc i vf vd (.slice (some ⟨gm,0,none⟩) nm mc) N (wr.setCell ⟨gm,k * 10 + r,none⟩ u)∧TP Z N wr (wr.setCell ⟨gm,k * 10 + r,none⟩ u):=by
 obtain ⟨ys,hc,_⟩:=h.A.C.m.at_
 have t : TP Z N wr (wr.setCell ⟨gm,k * 10 + r,none⟩ u):=tp_row hc.1 rfl (hc.2 gm rfl) (kd_me (by rw [show (k * 10 + r) % 10 = r by omega]; exact hu))
 exact ⟨h.A.free hb hc.1 (by decide) t (Nat.le_refl _) ((Only.refl [gm] wr).setCell (p:=⟨gm,k * 10 + r,none⟩) (.inl (by simp)) u),t⟩

theorem AM.putp {W : World} {Z : Nat→Prop} {bb : Nat} {vp : Value} {gC nC cc i : Nat} {vf vd : Value} {gm nm mc k : Nat} {sp sc sh : Value} {N : Nat} {wr : World} (h : AM W Z bb vp gC nC cc i vf vd gm nm mc k sp sc sh N wr) (hb : ¬ Z bb) (u : Value) (hu : OX wr Z N 35 2 u) : AM W Z bb vp gC nC cc i vf vd gm nm mc k u sc sh N (wr.setCell ⟨gm,k * 10 + 2,none⟩ u):=by
 obtain ⟨a,t⟩:=h.put hb 2 u (by decide) (by simpa [MeF] using hu)
 exact ⟨a,h.M.q.put_a (by omega) (by omega) u,t.ox N (Nat.le_refl _) _ _ _ hu,t.ox N (Nat.le_refl _) _ _ _ h.M.c,t.ox N (Nat.le_refl _) _ _ _ h.M.h⟩
theorem AM.putc {W : World} {Z : Nat→Prop} {bb : Nat} {vp : Value} {gC nC cc i : Nat} {vf vd : Value} {gm nm mc k : Nat} {sp sc sh : Value} {N : Nat} {wr : World} (h : AM W Z bb vp gC nC cc i vf vd gm nm mc k sp sc sh N wr) (hb : ¬ Z bb) (u : Value) (hu : OX wr Z N 5 1 u) : AM W Z bb vp gC nC cc i vf vd gm nm mc k sp u sh N (wr.setCell ⟨gm,k * 10 + 8,none⟩ u):=by
 obtain ⟨a,t⟩:=h.put hb 8 u (by decide) (by simpa [MeF] using hu)
 exact ⟨a,h.M.q.put_b (by omega) (by omega) u,t.ox N (Nat.le_refl _) _ _ _ h.M.p,t.ox N (Nat.le_refl _) _ _ _ hu,t.ox N (Nat.le_refl _) _ _ _ h.M.h⟩
theorem AM.puth {W : World} {Z : Nat→Prop} {bb : Nat} {vp : Value} {gC nC cc i : Nat} {vf vd : Value} {gm nm mc k : Nat} {sp sc sh : Value} {N : Nat} {wr : World} (h : AM W Z bb vp gC nC cc i vf vd gm nm mc k sp sc sh N wr) (hb : ¬ Z bb) (u : Value) (hu : OX wr Z N 46 4 u) : AM W Z bb vp gC nC cc i vf vd gm nm mc k sp sc u N (wr.setCell ⟨gm,k * 10 + 9,none⟩ u):=by
 obtain ⟨a,t⟩:=h.put hb 9 u (by decide) (by simpa [MeF] using hu)
 exact ⟨a,h.M.q.put_c (by omega) (by omega) u,t.ox N (Nat.le_refl _) _ _ _ h.M.p,t.ox N (Nat.le_refl _) _ _ _ h.M.c,t.ox N (Nat.le_refl _) _ _ _ hu⟩


theorem AC.putf {W : World} {Z : Nat→Prop} {bb : Nat} {vp : Value} {gC nC cc i : Nat} {vf vd vm : Value} {N : Nat} {wr : World} (h : AC W Z bb vp gC nC cc i vf vd vm N wr) (hb : ¬ Z bb) (u : Value) (hu : OX wr Z N 9 1 u) : AC W Z bb vp gC nC cc i u vd vm N (wr.setCell ⟨gC,i * 6 + 3,none⟩ u):=by
 obtain ⟨ys,hc,_⟩:=h.I.cls.at_
 have t : TP Z N wr (wr.setCell ⟨gC,i * 6 + 3,none⟩ u):=tp_row hc.1 rfl (hc.2 gC rfl) (kd_cl (by rw [show (i * 6 + 3) % 6 = 3 by omega]; simpa [ClF] using hu))
 exact ⟨h.I.step hb t (Nat.le_refl _),h.C.q.put_a (by omega) (by omega) u,t.ox N (Nat.le_refl _) _ _ _ hu,t.ox N (Nat.le_refl _) _ _ _ h.C.d,t.rm N (Nat.le_refl _) _ h.C.m⟩
theorem AC.putd {W : World} {Z : Nat→Prop} {bb : Nat} {vp : Value} {gC nC cc i : Nat} {vf vd vm : Value} {N : Nat} {wr : World} (h : AC W Z bb vp gC nC cc i vf vd vm N wr) (hb : ¬ Z bb) (u : Value) (hu : OX wr Z N 44 4 u) : AC W Z bb vp gC nC cc i vf u vm N (wr.setCell ⟨gC,i * 6 + 4,none⟩ u):=by
 obtain ⟨ys,hc,_⟩:=h.I.cls.at_
 have t : TP Z N wr (wr.setCell ⟨gC,i * 6 + 4,none⟩ u):=tp_row hc.1 rfl (hc.2 gC rfl) (kd_cl (by rw [show (i * 6 + 4) % 6 = 4 by omega]; simpa [ClF] using hu))
 exact ⟨h.I.step hb t (Nat.le_refl _),h.C.q.put_b (by omega) (by omega) u,t.ox N (Nat.le_refl _) _ _ _ h.C.f,t.ox N (Nat.le_refl _) _ _ _ hu,t.rm N (Nat.le_refl _) _ h.C.m⟩
theorem AC.putm {W : World} {Z : Nat→Prop} {bb : Nat} {vp : Value} {gC nC cc i : Nat} {vf vd vm : Value} {N : Nat} {wr : World} (h : AC W Z bb vp gC nC cc i vf vd vm N wr) (hb : ¬ Z bb) (u : Value) (hu : RowM wr Z N u) : AC W Z bb vp gC nC cc i vf vd u N (wr.setCell ⟨gC,i * 6 + 5,none⟩ u):=by
 obtain ⟨ys,hc,_⟩:=h.I.cls.at_
 have t : TP Z N wr (wr.setCell ⟨gC,i * 6 + 5,none⟩ u):=tp_row hc.1 rfl (hc.2 gC rfl) (kd_cl (by rw [show (i * 6 + 5) % 6 = 5 by omega]; simpa [ClF] using hu))
 exact ⟨h.I.step hb t (Nat.le_refl _),h.C.q.put_c (by omega) (by omega) u,t.ox N (Nat.le_refl _) _ _ _ h.C.f,t.ox N (Nat.le_refl _) _ _ _ h.C.d,t.rm N (Nat.le_refl _) _ hu⟩

theorem rowM_push {w w' : World} {Z : Nat→Prop} {N n : Nat} {v' : Value} {xs : List Value} (hl : xs.length = n * 10) (hf : ∀ q u,xs[q]? = some u→MeF w Z N (q % 10) u) (hn : n≤64 + N / 3000) (t : TP Z N w w') (h' : OwR w' 0 Z 41 10 v' (n + 1) (xs ++ meZ 0)) : RowM w' Z (N + 3000) v':=by
 refine ⟨n + 1,_,h',by omega,fun q u hq=>?_⟩
 rw [List.getElem?_append] at hq
 split at hq
 ·exact (hf q u hq).mono fun e k v hv=>(t.ox N (Nat.le_refl _) e k v hv).le (by omega)
 ·have h1 : q - xs.length < 10:=(List.getElem?_eq_some_iff.1 hq).1
  have:=meZ_f w' Z (N + 3000) 0 (q - xs.length) u hq
  rwa [show q - xs.length = q % 10 by omega] at this

end Go.Proofs.YtildemmkhndhjaaGreatDoor
