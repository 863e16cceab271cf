/-
  What the proof leans on, part 42 of 48. The conditions stand in each theorem.
-/
import Derived.Test.YtildemmkhndhjaaGreatDoorB41
import Derived.Test.YtildemmkhndhjaaGreatDoorB33
import Derived.Test.YtildemmkhndhjaaGreatDoorB32
import Derived.Test.YtildemmkhndhjaaGreatDoorB20
namespace Go.Proofs.YtildemmkhndhjaaGreatDoor
open Go.RowKit

theorem rows_str16 {w : World} {sb r d : Nat} {t : St} (h : Sc w sb r d t) :
  Calls Tryz.prog 140 #[.pointer (some ⟨sb,0,none⟩),.func (.func 80) #[.pointer (some ⟨r,0,none⟩)] #[],.int .i64 16,.func (.func 138) #[.pointer (some ⟨r,0,none⟩)] #[]] w
   fun e w'=>∃ (xs : List (List UInt8)) (t' : St) (ao : Option Addr) (cap : Nat),e = .returned (.slice ao xs.length cap)∧w'.ownsRow w.heap.size 9 1 (.slice ao xs.length cap) xs.length (scs xs)∧Hid (∀ x∈xs,x.length≤262144)∧xs.length≤65536∧Sc w' sb r d t'∧Out (pRows 1 16 pText) t xs t'∧Only [sb,r] w w':=rows_str h 16 (by decide)

theorem rows_fd64 {w : World} {sb r d : Nat} {t : St} (h : Sc w sb r d t) :
  Calls Tryz.prog 141 #[.pointer (some ⟨sb,0,none⟩),.func (.func 80) #[.pointer (some ⟨r,0,none⟩)] #[],.int .i64 64,.func (.func 142) #[.pointer (some ⟨sb,0,none⟩)] #[]] w
   fun e w'=>∃ (xs : List Fd) (t' : St) (ao : Option Addr) (cap : Nat),e = .returned (.slice ao xs.length cap)∧w'.ownsRow w.heap.size 44 4 (.slice ao xs.length cap) xs.length (fcs xs)∧Hid (∀ x∈xs,(x.2.1.length≤262144∧x.2.2.2.length≤262144))∧xs.length≤65536∧Sc w' sb r d t'∧Out (pRows 1 64 pField) t xs t'∧Only [sb,r] w w':=rows_fd h 64 (by decide)

theorem rows_me64 {w : World} {sb r d : Nat} {t : St} (h : Sc w sb r d t) :
  Calls Tryz.prog 143 #[.pointer (some ⟨sb,0,none⟩),.func (.func 80) #[.pointer (some ⟨r,0,none⟩)] #[],.int .i64 64,.func (.func 144) #[.pointer (some ⟨sb,0,none⟩)] #[]] w
   fun e w'=>∃ (xs : List Me) (t' : St) (ao : Option Addr) (cap : Nat),e = .returned (.slice ao xs.length cap)∧∃ mcs : List Value,w'.ownsRow w.heap.size 41 10 (.slice ao xs.length cap) xs.length mcs∧Els 10 (MeC (OwR w' w.heap.size (OffB ao))) mcs xs∧AllFit MeFit xs∧xs.length≤65536∧Sc w' sb r d t'∧Out (pRows 1 64 pMethod) t xs t'∧Only [sb,r] w w':=rows_me h 64 (by decide)

theorem kputB {W z : World} {sb r b : Nat} (hn : b≠sb) (i : Nat) (u : Value) (h : z.cell? ⟨sb,0,none⟩ = some (.pointer (some ⟨r,0,none⟩))∧Only [sb,r,b] W z) : (z.setCell ⟨b,i,none⟩ u).cell? ⟨sb,0,none⟩ = some (.pointer (some ⟨r,0,none⟩))∧Only [sb,r,b] W (z.setCell ⟨b,i,none⟩ u):=⟨(cell_setCell_ne _ _ (by simp)).trans h.1,h.2.setCell (.inl (by simp)) _⟩
theorem kcallB {W z z' : World} {sb r d b : Nat} {t : St} {X : List Nat} (h : z.cell? ⟨sb,0,none⟩ = some (.pointer (some ⟨r,0,none⟩))∧Only [sb,r,b] W z) (hs : Sc z' sb r d t) (hX : Only X z z') (hx : ∀ x∈X,x = sb∨x = r) : z'.cell? ⟨sb,0,none⟩ = some (.pointer (some ⟨r,0,none⟩))∧Only [sb,r,b] W z':=
 ⟨hs.c0,h.2.trans hX (fun x hm=>by rcases hx x hm with h | h <;> simp [h])⟩
theorem kdrewB {W z : World} {sb r b : Nat} (h : z.cell? ⟨sb,0,none⟩ = some (.pointer (some ⟨r,0,none⟩))∧Only [sb,r,b] W z) : z.drew.cell? ⟨sb,0,none⟩ = some (.pointer (some ⟨r,0,none⟩))∧Only [sb,r,b] W z.drew:=⟨h.1,h.2.drew⟩

theorem own_carry {w1 w2 w3 : World} {B C sb r rv : Nat} {e : TypeId} {k n : Nat} {v : Value} {cs : List Value} (h : w1.ownsRow B e k v n cs) (o : Only [sb,r] w1 w2) (q : Only [rv] w2 w3) (hB : C≤B) (hn : sb < C∧r < C∧rv < C) : OwR w3 C (fun _=>True) e k v n cs:=by
 refine ⟨rows_mono (rows_only (rows_only h o fun g hg=>?_) q fun g hg=>?_) hB,fun _ _=>trivial⟩
 ·have:=(h.lt g hg).1
  simp
  omega
 ·have:=(h.lt g hg).1
  simp
  omega

theorem rclass_end {w3 w4 w5 w6 wF : World} {C sb r rv : Nat} {c : Cl} {ao4 ao5 ao6 : Option Addr} {n4 n5 n6 cap4 cap5 cap6 : Nat} {mcs : List Value} (h4 : w4.ownsRow w3.heap.size 9 1 (.slice ao4 n4 cap4) n4 (scs c.faces)) (h5 : w5.ownsRow w4.heap.size 44 4 (.slice ao5 n5 cap5) n5 (fcs c.fields)) (h6 : w6.ownsRow w5.heap.size 41 10 (.slice ao6 n6 cap6) n6 mcs) (hE : Els 10 (MeC (OwR w6 w5.heap.size (OffB ao6))) mcs c.methods)
  (o5 : Only [sb,r] w4 w5) (o6 : Only [sb,r] w5 w6) (q : Only [rv] w6 wF) (s3 : C≤w3.heap.size) (s4 : C≤w4.heap.size) (s5 : C≤w5.heap.size) (hn : sb < C∧r < C∧rv < C) (e4 : n4 = c.faces.length) (e5 : n5 = c.fields.length) (e6 : n6 = c.methods.length) : ClAt (OwR wF C fun _=>True) (.slice ao4 n4 cap4) (.slice ao5 n5 cap5) (.slice ao6 n6 cap6) c:=by
 subst e4 e5 e6
 exact ⟨own_carry h4 (o5.trans o6 (by simp)) q s3 hn,own_carry h5 o6 q s4 hn,mcs,own_carry h6 (Only.refl _ _) q s5 hn,hE.imp fun _ _ _ h=>h.imp fun _ _ _ _ _ g=>own_carry g.1 (Only.refl _ _) q s5 hn⟩

set_option maxHeartbeats 16000000 in
theorem rclass_any {w : World} {sb r d : Nat} {t : St} (h : Sc w sb r d t) :
  Calls Tryz.prog 81 #[.pointer (some ⟨sb,0,none⟩)] w fun e w'=>∃ (c : Cl) (t' : St) (vf vd vm : Value),e = .returned (clV vf vd vm c)∧ClFit c∧ClAt (OwR w' (w.heap.size + 1) fun _=>True) vf vd vm c∧Sc w' sb r d t'∧Out pClass t c t'∧Only [sb,r] w w':=by
 have o0:=hid ((Only.refl [sb,r] w).alloc (.cells #[.int .i64 0,.string ⟨#[]⟩,.string ⟨#[]⟩,.slice none 0 0,.slice none 0 0,.slice none 0 0] 28))
 have h0:=h.only0 ((Only.refl [] w).alloc (.cells #[.int .i64 0,.string ⟨#[]⟩,.string ⟨#[]⟩,.slice none 0 0,.slice none 0 0,.slice none 0 0] 28))
 have hl:=h.lt
 clear h
 have R0:=hid (cl6_new w (.int .i64 0) (.string ⟨#[]⟩) (.string ⟨#[]⟩) (.slice none 0 0) (.slice none 0 0) (.slice none 0 0) 28)
 obtain ⟨W,hW⟩ : ∃ W,W = (w.alloc (.cells #[.int .i64 0,.string ⟨#[]⟩,.string ⟨#[]⟩,.slice none 0 0,.slice none 0 0,.slice none 0 0] 28)):=⟨_,rfl⟩
 have hWs : W.heap.size = w.heap.size + 1:=by rw [hW]; simp
 rw [← hW] at R0 h0 o0
 replace hW:=hid hW
 replace hWs:=hid hWs
 obtain ⟨rv,hrv⟩ : ∃ rv,rv = w.heap.size:=⟨_,rfl⟩
 rw [← hrv] at R0
 have hr : rv≠sb∧rv≠r:=by omega
 replace hrv:=hid hrv
 have hk : Hid (W.cell? ⟨sb,0,none⟩ = some (.pointer (some ⟨r,0,none⟩))∧Only [sb,r,rv] W W):=⟨h0.c0,Only.refl _ _⟩
 have hKW : Hid (Only [sb,r] W W.drew):=(Only.refl _ _).drew
 have mk1 : True:=trivial
 go_enter Tryz.func81,Tryz.ntmps81
 go_upto_region 1 with fail
 rw [← hW.out,← hrv.out]
 refine wp_region_held_drew (S:=(fun w'=>w'.cell? ⟨sb,0,none⟩ = some (.pointer (some ⟨r,0,none⟩))∧Only [sb,r,rv] W w')) (by kernel_rfl) ?hSb (fun hHeld=>?restb)
 case hSb=>exact kdrewB hk.out
 refine wpAnyH_take (i:=0) (v:=?v0) rfl (by kernel_rfl) (by kernel_rfl) (by kernel_rfl) (fun _ _ _ h=>h) (Or.inl ⟨by kernel_rfl,?hy0⟩) (by assumption) ?rest0
 case hy0=>
  intro w hSw
  try dsimp only at hSw
  go_simp
  try with_reducible rfl
 refine wpAnyH_take (i:=1) (v:=?v1) rfl (by kernel_rfl) (by kernel_rfl) (by kernel_rfl) (fun _ _ _ h=>h) (Or.inl ⟨by kernel_rfl,?hy1⟩) (by assumption) ?rest1
 case hy1=>
  intro w hSw
  try dsimp only at hSw
  go_simp
  try with_reducible rfl
 refine wpAnyH_take (i:=2) (v:=?v2) rfl (by kernel_rfl) (by kernel_rfl) (by kernel_rfl) (fun _ _ _ h=>h) (Or.inl ⟨by kernel_rfl,?hy2⟩) (by assumption) ?rest2
 case hy2=>
  intro w hSw
  try dsimp only at hSw
  go_simp
  try with_reducible rfl
 refine wpAnyH_take (i:=3) (v:=?v3) rfl (by kernel_rfl) (by kernel_rfl) (by kernel_rfl) (fun _ _ _ h=>h) (Or.inl ⟨by kernel_rfl,?hy3⟩) (by assumption) ?rest3
 case hy3=>
  intro w hSw
  try dsimp only at hSw
  go_simp
  try with_reducible rfl
 refine wpAnyH_take (i:=5) (v:=?v5) rfl (by kernel_rfl) (by kernel_rfl) (by kernel_rfl) (fun _ _ _ h=>h) (Or.inl ⟨by kernel_rfl,?hy5⟩) (by assumption) ?rest5
 case hy5=>
  intro w hSw
  try dsimp only at hSw
  go_simp
  try with_reducible rfl
 refine wpAnyH_take (i:=6) (v:=?v6) rfl (by kernel_rfl) (by kernel_rfl) (by kernel_rfl) (fun _ _ _ h=>h) (Or.inl ⟨by kernel_rfl,?hy6⟩) (by assumption) ?rest6
 case hy6=>
  intro w hSw
  try dsimp only at hSw
  go_simp
  try with_reducible rfl
 refine wpAnyH_take (i:=7) (v:=?v7) rfl (by kernel_rfl) (by kernel_rfl) (by kernel_rfl) (fun _ _ _ h=>h) (Or.inl ⟨by kernel_rfl,?hy7⟩) (by assumption) ?rest7
 case hy7=>
  intro w hSw
  try dsimp only at hSw
  go_simp
  try with_reducible rfl
 refine wpAnyH_take (i:=8) (v:=?v8) rfl (by kernel_rfl) (by kernel_rfl) (by kernel_rfl) (fun _ _ _ h=>h) (Or.inl ⟨by kernel_rfl,?hy8⟩) (by assumption) ?rest8
 case hy8=>
  intro w hSw
  try dsimp only at hSw
  go_simp
  try with_reducible rfl
 refine wpAnyH_take (i:=10) (v:=?v10) rfl (by kernel_rfl) (by kernel_rfl) (by kernel_rfl) (fun _ _ _ h=>h) (Or.inl ⟨by kernel_rfl,?hy10⟩) (by assumption) ?rest10
 case hy10=>
  intro w hSw
  try dsimp only at hSw
  go_simp
  try with_reducible rfl
 refine wpAnyH_take (i:=11) (v:=?v11) rfl (by kernel_rfl) (by kernel_rfl) (by kernel_rfl) (fun _ _ _ h=>h) (Or.inl ⟨by kernel_rfl,?hy11⟩) (by assumption) ?rest11
 case hy11=>
  intro w hSw
  try dsimp only at hSw
  go_simp
  try with_reducible rfl
 refine wpAnyH_take (i:=12) (v:=?v12) rfl (by kernel_rfl) (by kernel_rfl) (by kernel_rfl) (fun _ _ _ h=>h) (Or.inl ⟨by kernel_rfl,?hy12⟩) (by assumption) ?rest12
 case hy12=>
  intro w hSw
  try dsimp only at hSw
  go_simp
  try with_reducible rfl
 refine wpAnyH_take (i:=13) (v:=?v13) rfl (by kernel_rfl) (by kernel_rfl) (by kernel_rfl) (fun _ _ _ h=>h) (Or.inl ⟨by kernel_rfl,?hy13⟩) (by assumption) ?rest13
 case hy13=>
  intro w hSw
  try dsimp only at hSw
  go_simp
  try with_reducible rfl
 refine wpAnyH_take (i:=15) (v:=?v15) rfl (by kernel_rfl) (by kernel_rfl) (by kernel_rfl) (fun _ _ _ h=>h) (Or.inl ⟨by kernel_rfl,?hy15⟩) (by assumption) ?rest15
 case hy15=>
  intro w hSw
  try dsimp only at hSw
  go_simp
  try with_reducible rfl
 refine wpAnyH_take (i:=16) (v:=?v16) rfl (by kernel_rfl) (by kernel_rfl) (by kernel_rfl) (fun _ _ _ h=>h) (Or.inl ⟨by kernel_rfl,?hy16⟩) (by assumption) ?rest16
 case hy16=>
  intro w hSw
  try dsimp only at hSw
  go_simp
  try with_reducible rfl
 refine wpAnyH_take (i:=17) (v:=?v17) rfl (by kernel_rfl) (by kernel_rfl) (by kernel_rfl) (fun _ _ _ h=>h) (Or.inl ⟨by kernel_rfl,?hy17⟩) (by assumption) ?rest17
 case hy17=>
  intro w hSw
  try dsimp only at hSw
  go_simp
  try with_reducible rfl
 refine wpAnyH_take (i:=18) (v:=?v18) rfl (by kernel_rfl) (by kernel_rfl) (by kernel_rfl) (fun _ _ _ h=>h) (Or.inl ⟨by kernel_rfl,?hy18⟩) (by assumption) ?rest18
 case hy18=>
  intro w hSw
  try dsimp only at hSw
  go_simp
  try with_reducible rfl
 refine wpAnyH_take (i:=19) (v:=?v19) rfl (by kernel_rfl) (by kernel_rfl) (by kernel_rfl) (fun _ _ _ h=>h) (Or.inl ⟨by kernel_rfl,?hy19⟩) (by assumption) ?rest19
 case hy19=>
  intro w hSw
  try dsimp only at hSw
  go_simp
  try with_reducible rfl
 refine wpAnyH_take (i:=20) (v:=?v20) rfl (by kernel_rfl) (by kernel_rfl) (by kernel_rfl) (fun _ _ _ h=>h) (Or.inl ⟨by kernel_rfl,?hy20⟩) (by assumption) ?rest20
 case hy20=>
  intro w hSw
  try dsimp only at hSw
  go_simp
  try with_reducible rfl
 refine wpAnyH_take (i:=21) (v:=?v21) rfl (by kernel_rfl) (by kernel_rfl) (by kernel_rfl) (fun _ _ _ h=>h) (Or.inl ⟨by kernel_rfl,?hy21⟩) (by assumption) ?rest21
 case hy21=>
  intro w hSw
  try dsimp only at hSw
  go_simp
  try with_reducible rfl
 refine wpAnyH_take (i:=22) (v:=?v22) rfl (by kernel_rfl) (by kernel_rfl) (by kernel_rfl) (fun _ _ _ h=>h) (Or.inl ⟨by kernel_rfl,?hy22⟩) (by assumption) ?rest22
 case hy22=>
  intro w hSw
  try dsimp only at hSw
  go_simp
  try with_reducible rfl
 refine wpAnyH_take (i:=23) (v:=?v23) rfl (by kernel_rfl) (by kernel_rfl) (by kernel_rfl) (fun _ _ _ h=>h) (Or.inl ⟨by kernel_rfl,?hy23⟩) (by assumption) ?rest23
 case hy23=>
  intro w hSw
  try dsimp only at hSw
  go_simp
  try with_reducible rfl
 refine wpAnyH_take (i:=24) (v:=?v24) rfl (by kernel_rfl) (by kernel_rfl) (by kernel_rfl) (fun _ _ _ h=>h) (Or.inl ⟨by kernel_rfl,?hy24⟩) (by assumption) ?rest24
 case hy24=>
  intro w hSw
  try dsimp only at hSw
  go_simp
  try with_reducible rfl
 refine wpAnyH_take (i:=25) (v:=?v25) rfl (by kernel_rfl) (by kernel_rfl) (by kernel_rfl) (fun _ _ _ h=>h) (Or.inl ⟨by kernel_rfl,?hy25⟩) (by assumption) ?rest25
 case hy25=>
  intro w hSw
  try dsimp only at hSw
  go_simp
  try with_reducible rfl
 refine wpAnyH_take (i:=27) (v:=?v27) rfl (by kernel_rfl) (by kernel_rfl) (by kernel_rfl) (fun _ _ _ h=>h) (Or.inl ⟨by kernel_rfl,?hy27⟩) (by assumption) ?rest27
 case hy27=>
  intro w hSw
  try dsimp only at hSw
  go_simp
  try with_reducible rfl
 refine wpAnyH_take (i:=28) (v:=?v28) rfl (by kernel_rfl) (by kernel_rfl) (by kernel_rfl) (fun _ _ _ h=>h) (Or.inl ⟨by kernel_rfl,?hy28⟩) (by assumption) ?rest28
 case hy28=>
  intro w hSw
  try dsimp only at hSw
  go_simp
  try with_reducible rfl
 refine wpAnyH_take (i:=29) (v:=?v29) rfl (by kernel_rfl) (by kernel_rfl) (by kernel_rfl) (fun _ _ _ h=>h) (Or.inl ⟨by kernel_rfl,?hy29⟩) (by assumption) ?rest29
 case hy29=>
  intro w hSw
  try dsimp only at hSw
  go_simp
  try with_reducible rfl
 refine wpAnyH_take (i:=30) (v:=?v30) rfl (by kernel_rfl) (by kernel_rfl) (by kernel_rfl) (fun _ _ _ h=>h) (Or.inl ⟨by kernel_rfl,?hy30⟩) (by assumption) ?rest30
 case hy30=>
  intro w hSw
  try dsimp only at hSw
  go_simp
  try with_reducible rfl
 refine wpAnyH_take (i:=31) (v:=?v31) rfl (by kernel_rfl) (by kernel_rfl) (by kernel_rfl) (fun _ _ _ h=>h) (Or.inl ⟨by kernel_rfl,?hy31⟩) (by assumption) ?rest31
 case hy31=>
  intro w hSw
  try dsimp only at hSw
  go_simp
  try with_reducible rfl
 refine wpAnyH_take (i:=32) (v:=?v32) rfl (by kernel_rfl) (by kernel_rfl) (by kernel_rfl) (fun _ _ _ h=>h) (Or.inl ⟨by kernel_rfl,?hy32⟩) (by assumption) ?rest32
 case hy32=>
  intro w hSw
  try dsimp only at hSw
  go_simp
  try with_reducible rfl
 refine wpAnyH_take (i:=33) (v:=?v33) rfl (by kernel_rfl) (by kernel_rfl) (by kernel_rfl) (fun _ _ _ h=>h) (Or.inl ⟨by kernel_rfl,?hy33⟩) (by assumption) ?rest33
 case hy33=>
  intro w hSw
  try dsimp only at hSw
  go_simp
  try with_reducible rfl
 refine wpAnyH_take (i:=34) (v:=?v34) rfl (by kernel_rfl) (by kernel_rfl) (by kernel_rfl) (fun _ _ _ h=>h) (Or.inl ⟨by kernel_rfl,?hy34⟩) (by assumption) ?rest34
 case hy34=>
  intro w hSw
  try dsimp only at hSw
  go_simp
  try with_reducible rfl
 refine wpAnyH_take (i:=36) (v:=?v36) rfl (by kernel_rfl) (by kernel_rfl) (by kernel_rfl) (fun _ _ _ h=>h) (Or.inl ⟨by kernel_rfl,?hy36⟩) (by assumption) ?rest36
 case hy36=>
  intro w hSw
  try dsimp only at hSw
  go_simp
  try with_reducible rfl
 refine wpAnyH_take (i:=37) (v:=?v37) rfl (by kernel_rfl) (by kernel_rfl) (by kernel_rfl) (fun _ _ _ h=>h) (Or.inl ⟨by kernel_rfl,?hy37⟩) (by assumption) ?rest37
 case hy37=>
  intro w hSw
  try dsimp only at hSw
  go_simp
  try with_reducible rfl
 refine wpAnyH_take (i:=38) (v:=?v38) rfl (by kernel_rfl) (by kernel_rfl) (by kernel_rfl) (fun _ _ _ h=>h) (Or.inl ⟨by kernel_rfl,?hy38⟩) (by assumption) ?rest38
 case hy38=>
  intro w hSw
  try dsimp only at hSw
  go_simp
  try with_reducible rfl
 refine wpAnyH_take (i:=39) (v:=?v39) rfl (by kernel_rfl) (by kernel_rfl) (by kernel_rfl) (fun _ _ _ h=>h) (Or.inl ⟨by kernel_rfl,?hy39⟩) (by assumption) ?rest39
 case hy39=>
  intro w hSw
  try dsimp only at hSw
  go_simp
  try with_reducible rfl
 refine wpAnyH_take (i:=40) (v:=?v40) rfl (by kernel_rfl) (by kernel_rfl) (by kernel_rfl) (fun _ _ _ h=>h) (Or.inl ⟨by kernel_rfl,?hy40⟩) (by assumption) ?rest40
 case hy40=>
  intro w hSw
  try dsimp only at hSw
  go_simp
  try with_reducible rfl
 refine wpAnyH_take (i:=41) (v:=?v41) rfl (by kernel_rfl) (by kernel_rfl) (by kernel_rfl) (fun _ _ _ h=>h) (Or.inl ⟨by kernel_rfl,?hy41⟩) (by assumption) ?rest41
 case hy41=>
  intro w hSw
  try dsimp only at hSw
  go_simp
  try with_reducible rfl
 refine wpAnyH_take (i:=42) (v:=?v42) rfl (by kernel_rfl) (by kernel_rfl) (by kernel_rfl) (fun _ _ _ h=>h) (Or.inl ⟨by kernel_rfl,?hy42⟩) (by assumption) ?rest42
 case hy42=>
  intro w hSw
  try dsimp only at hSw
  go_simp
  try with_reducible rfl
 refine wpAnyH_take (i:=43) (v:=?v43) rfl (by kernel_rfl) (by kernel_rfl) (by kernel_rfl) (fun _ _ _ h=>h) (Or.inl ⟨by kernel_rfl,?hy43⟩) (by assumption) ?rest43
 case hy43=>
  intro w hSw
  try dsimp only at hSw
  go_simp
  try with_reducible rfl
 refine wpAnyH_ready (rs:=[4]) (by kernel_rfl) (by simp) ?_
 refine AllReadyH.cons rfl (fun K hK=>?_) AllReadyH.nil
 go_simp
 go_at_call 80; refine (sc_u1 h0.drew).mono ?_; rintro e w1 ⟨n,t1,rfl,hn,hs1,hO1,ho1⟩; have hKW:=hid (hKW.out.trans ho1 (by simp))
 go_wp2_with fail
 refine hK.out _ _ ?hS4 (fun hHeld=>?rest4)
 case hS4=>
  exact kcallB hHeld hs1 ho1 (by simp)
 clear hK K
 refine wpAnyH_ready (rs:=[9]) (by kernel_rfl) (by simp) ?_
 refine AllReadyH.cons rfl (fun K hK=>?_) AllReadyH.nil
 go_simp
 go_at_call 138; refine (sc_text hs1).mono ?_; rintro e w2 ⟨x,t2,rfl,hx,hs2,hO2,ho2⟩; have hKW:=hid (hKW.out.trans ho2 (by simp))
 go_wp2_with fail
 refine hK.out _ _ ?hS9 (fun hHeld=>?rest9)
 case hS9=>
  exact kcallB hHeld hs2 ho2 (by simp)
 clear hK K
 refine wpAnyH_ready (rs:=[14]) (by kernel_rfl) (by simp) ?_
 refine AllReadyH.cons rfl (fun K hK=>?_) AllReadyH.nil
 go_simp
 go_at_call 138; refine (sc_text hs2).mono ?_; rintro e w3 ⟨y,t3,rfl,hy,hs3,hO3,ho3⟩; have hKW:=hid (hKW.out.trans ho3 (by simp))
 go_wp2_with fail
 refine hK.out _ _ ?hS14 (fun hHeld=>?rest14)
 case hS14=>
  exact kcallB hHeld hs3 ho3 (by simp)
 clear hK K
 refine wpAnyH_ready (rs:=[26]) (by kernel_rfl) (by simp) ?_
 refine AllReadyH.cons rfl (fun K hK=>?_) AllReadyH.nil
 go_simp
 go_at_call 140; refine (rows_str16 hs3).mono ?_; rintro e w4 ⟨fs,t4,ao4,cap4,rfl,hown4,hf4,hl4,hs4,hO4,ho4⟩; have hKW:=hid (hKW.out.trans ho4 (by simp))
 go_wp2_with fail
 refine hK.out _ _ ?hS26 (fun hHeld=>?rest26)
 case hS26=>
  exact kcallB hHeld hs4 ho4 (by simp)
 clear hK K
 refine wpAnyH_ready (rs:=[35]) (by kernel_rfl) (by simp) ?_
 refine AllReadyH.cons rfl (fun K hK=>?_) AllReadyH.nil
 go_simp
 go_at_call 141; refine (rows_fd64 hs4).mono ?_; rintro e w5 ⟨ds,t5,ao5,cap5,rfl,hown5,hf5,hl5,hs5,hO5,ho5⟩; have hKW:=hid (hKW.out.trans ho5 (by simp))
 go_wp2_with fail
 refine hK.out _ _ ?hS35 (fun hHeld=>?rest35)
 case hS35=>
  exact kcallB hHeld hs5 ho5 (by simp)
 clear hK K
 refine wpAnyH_ready (rs:=[44]) (by kernel_rfl) (by simp) ?_
 refine AllReadyH.cons rfl (fun K hK=>?_) AllReadyH.nil
 go_simp
 go_at_call 143; refine (rows_me64 hs5).mono ?_; rintro e w6 ⟨ms,t6,ao6,cap6,rfl,mcs,hown6,hE6,hf6,hl6,hs6,hO6,ho6⟩; have hKW:=hid (hKW.out.trans ho6 (by simp))
 go_wp2_with fail
 refine hK.out _ _ ?hS44 (fun hHeld=>?rest44)
 case hS44=>
  exact kcallB hHeld hs6 ho6 (by simp)
 clear hK K
 obtain ⟨k0,k1,k2,k3,k4,k5,z0,z1,z2,z3,z4,z5⟩:=R0.out.only hKW.out (by simp [hr])
 refine wpAnyH_take (i:=45) (v:=?v45) rfl (by kernel_rfl) (by kernel_rfl) (by kernel_rfl) (fun _ _ _ h=>h) (Or.inl ⟨by kernel_rfl,?hy45⟩) (by assumption) ?rest45
 case hy45=>
  intro w hSw
  try dsimp only at hSw
  go_simp
  try with_reducible rfl
 refine wpAnyH_ready (rs:=[46]) (by kernel_rfl) (by simp) ?_
 refine AllReadyH.cons rfl (fun K hK=>?_) AllReadyH.nil
 go_simp
 refine hK.out _ _ ?hS46 (fun hHeld=>?rest46)
 case hS46=>
  exact kputB hr.1 _ _ (kputB hr.1 _ _ (kputB hr.1 _ _ (kputB hr.1 _ _ (kputB hr.1 _ _ (kputB hr.1 _ _ (hHeld))))))
 clear hK K
 refine wpAnyH_done (by kernel_rfl) ?_ _
 obtain ⟨pp,qq⟩:=(R0.out.only hKW.out (by simp [hr])).put (.int .i64 (n : Int)) (.string (str x)) (.string (str y)) (.slice ao4 fs.length cap4) (.slice ao5 ds.length cap5) (.slice ao6 ms.length cap6)
 have hKW0 : W.heap.size≤w3.heap.size:=by
  have g1:=ho1.size
  have g2:=ho2.size
  have g3:=ho3.size
  have g0 : W.drew.heap.size = W.heap.size:=rfl
  omega
 have hfit : Hid (ClFit ⟨(n : Int),x,y,fs,ds,ms⟩):=⟨Nat.le_trans hx (by decide),Nat.le_trans hy (by decide),fun s hs=>Nat.le_trans (hf4.out s hs) (by decide),fun f hf=>⟨Nat.le_trans (hf5.out f hf).1 (by decide),Nat.le_trans (hf5.out f hf).2 (by decide)⟩,hf6⟩
 have hend:=hid (rclass_end (C:=w.heap.size + 1) hown4 hown5 hown6 hE6 ho5 ho6 qq (by have:=hWs.out; have:=(hKW0 : W.heap.size≤w3.heap.size); omega) (by have:=ho4.size; have:=hWs.out; have:=(hKW0 : W.heap.size≤w3.heap.size); omega) (by have:=ho4.size; have:=ho5.size; have:=hWs.out; have:=(hKW0 : W.heap.size≤w3.heap.size); omega) (by have:=hrv.out; omega) (c:=⟨(n : Int),x,y,fs,ds,ms⟩) rfl rfl rfl)
 have hout : Hid (Out pClass t ⟨(n : Int),x,y,fs,ds,ms⟩ t6):=out_bind hO1 (out_bind hO2 (out_bind hO3 (out_bind hO4 (out_bind hO5 (out_bind hO6 (out_done _ _))))))
 have hS6:=hid (hs6.other (by simp) (.inr (.inl k1)) (by have:=hrv.out; omega) qq)
 have hon:=hid ((o0.out.trans hKW.out (by simp)).next qq (by have:=hrv.out; simp; omega))
 clear hown4 hown5 hown6 hE6 hO1 hO2 hO3 hO4 hO5 hO6 hs1 hs2 hs3 hs4 hs5 hs6 ho1 ho2 ho3 ho4 ho5 ho6 hf4 hf5 hf6 pp qq hKW hk
 go_wp2_with fail
 refine bodyPost_ret (v:=clV (.slice ao4 fs.length cap4) (.slice ao5 ds.length cap5) (.slice ao6 ms.length cap6) ⟨(n : Int),x,y,fs,ds,ms⟩) (by simp [results,Tryz.results81,go_sem,k0,k1,k2,k3,k4,k5,clV]) rfl ?_
 exact ⟨_,t6,_,_,_,rfl,hfit.out,hend.out,hS6.out,hout.out,hon.out⟩

end Go.Proofs.YtildemmkhndhjaaGreatDoor
