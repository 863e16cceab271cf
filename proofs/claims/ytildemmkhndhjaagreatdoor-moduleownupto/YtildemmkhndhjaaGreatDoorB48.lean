/-
  ModuleOwn answers true for any module whose bulk is at most 1048576: modules that are told are the caller's own: written over and grown they change nothing that is told later. errors.errorType holds what the program's text lays there (the tie is given).
-/
import Derived.Test.YtildemmkhndhjaaGreatDoorCards
import Derived.Test.YtildemmkhndhjaaGreatDoorTie
import Derived.Test.YtildemmkhndhjaaGreatDoorB11
import Derived.Test.YtildemmkhndhjaaGreatDoorB47
namespace Go.Proofs.YtildemmkhndhjaaGreatDoor
open Go.ChangeShapes Go.WideShapes Go.ChangeAt Go.RowKit

set_option maxRecDepth 100000 in
theorem own_contract (H : Type) (enc : TypeId × Value→H) (W : World) (base : Nat) (args : Array Value) (ds gs : List (DataW H)) (before : List MemPlace)
  (hval : ∀ (j : Nat) t v,Tryz.f5.params[j]? = some t→args[j]? = some v→Value.okWide Tryz.prog W .any base t v)
  (hW : DataW.Whole enc Tryz.prog Tryz.f5.params.toList Rows.moduleOwnSpec.vars false W args.toList ds gs before) (hL : laidMetH Tryz.prog Rows.moduleOwnUptoRow.laid W) (hk : Rows.uptoSmall H (ds ++ gs) = true) :
  Calls Tryz.prog 5 args W fun e W'=>∃ v,e = .returned v∧Rows.moduleOwnSpec.post enc Tryz.prog Tryz.f5 false true false false W args v W':=by
 have hT : Ety W:=ety_of hL
 have hW':=hW
 obtain ⟨p,q,hA0,hV,rfl,hfz,hnd⟩:=hW
 have hA : DataW.TrodAll enc Tryz.prog W 0 (fun _=>true) true Tryz.f5.params.toList args.toList ds p:=hA0
 rw [Tryz.params5] at hA hval
 obtain ⟨v0,vs0,d0,ds0,p0,q0,hargs,rfl,rfl,h0,r0⟩:=trodAll_cons hA
 obtain ⟨rfl,rfl,rfl⟩:=trodAll_nil r0
 obtain rfl : args = #[v0]:=by cases args; simp_all
 obtain ⟨rfl,rfl⟩:=trodVars_none hV
 have hk0 : Rows.uptoBulkAll ([d0] ++ [])≤1048576:=of_decide_eq_true hk
 simp only [List.append_nil,Rows.uptoBulkAll] at hk0
 have k0:=h0
 have lt0 : ∀ x∈p0,x.block < W.heap.size:=by obtain ⟨m,hm⟩:=k0; exact DataW.trod_lt m _ _ _ hm
 obtain ⟨m0,vp0,vc0,rfl,hM0,hS0⟩:=arg_module (hval 0 32 v0 rfl rfl) h0
 clear hA0
 have hw:=own_walk hT hM0 (hS0.mono (by omega))
 refine hw.mono fun e W' ⟨he,bel⟩=>?_
 subst he
 exact ⟨_,rfl,_,_,_,[],_,[],hW',trodAll_mk1 (shut_bool Tryz.underlying4 _),(trodAll_cons_mk (Below.trod laidOut (by kernel_rfl) (of_decide_eq_true (by kernel_rfl)) k0 bel lt0) trodAll_mk0),rfl,bel.frame _,fun h=>by cases h⟩

theorem own_met (os : Os) : laidMetH Tryz.prog Rows.moduleOwnUptoRow.laid (({ World.holding Tryz.prog os ⟨#[],#[],[]⟩ with heap:=(World.holding Tryz.prog os ⟨#[],#[],[]⟩).heap.modify 0 fun o=>match o with | .cells _ t frozen=>.cells #[.iface 172 (.agg #[.pointer (some ⟨5,48,none⟩)])] t frozen | o=>o } : World).forCall (fun _ _=>0) ⟨#[],#[.agg #[.slice none 0 0,.slice none 0 0]],[]⟩).memory:=
 laidMetH_of_parts (laidMet_nil _ _) (by kernel_rfl)
theorem own_reads (os : Os) {H : Type} (enc : TypeId × Value→H) : ∃ places,DataW.whole enc Tryz.prog (({ World.holding Tryz.prog os ⟨#[],#[],[]⟩ with heap:=(World.holding Tryz.prog os ⟨#[],#[],[]⟩).heap.modify 0 fun o=>match o with | .cells _ t frozen=>.cells #[.iface 172 (.agg #[.pointer (some ⟨5,48,none⟩)])] t frozen | o=>o } : World).forCall (fun _ _=>0) ⟨#[],#[.agg #[.slice none 0 0,.slice none 0 0]],[]⟩).memory Tryz.f5.params.toList Rows.moduleOwnSpec.vars false (#[.agg #[.slice none 0 0,.slice none 0 0]] : Array Value).toList 8 = some ([.agg [.nil,.nil]],[],places):=
 ⟨[],by kernel_rfl⟩

set_option maxRecDepth 100000 in
theorem own_lifted (os : Os) (started : os.Started) (H : Type) (enc : TypeId × Value→H) (F : Stop.Interp) :
  ReturnsInHanded {} Tryz.checked os 5 .any ((Rows.OpenSpec.upto Rows.moduleOwnSpec).preRow enc Tryz.prog Tryz.f5 Rows.moduleOwnUptoRow.domain false Rows.moduleOwnUptoRow.laid) (((Rows.OpenSpec.upto Rows.moduleOwnSpec).at F).post enc Tryz.prog Tryz.f5 false true false false):=by
 obtain ⟨places,hx⟩:=own_reads os enc
 refine returnsInHanded_of_row (C:=Tryz.checked) (s:=Rows.OpenSpec.upto Rows.moduleOwnSpec) own started (by kernel_rfl) Tryz.func5
  (witness_row_at (enc:=enc) (C:=Tryz.checked) false ({ World.holding Tryz.prog os ⟨#[],#[],[]⟩ with heap:=(World.holding Tryz.prog os ⟨#[],#[],[]⟩).heap.modify 0 fun o=>match o with | .cells _ t frozen=>.cells #[.iface 172 (.agg #[.pointer (some ⟨5,48,none⟩)])] t frozen | o=>o } : World) #[.agg #[.slice none 0 0,.slice none 0 0]] rfl (by kernel_rfl) (by kernel_rfl) (by kernel_rfl)
   (OpenSpec.preRow_of_cond 8 hx (by kernel_rfl) (fun k hk=>by cases hk; kernel_rfl) (by kernel_rfl) (own_met os))) ?_
 intro W base args ds gs before hval hW _ hcond _ hL _ _
 exact own_contract H enc W base args ds gs before hval hW hL (hcond _ rfl)

theorem own_said : Rows.ModuleOwnUptoSaid:=
 OpenClaim.holds_of_cond 5 Tryz.f5 rfl rfl rfl rfl rfl rfl rfl ⟨rfl,rfl,rfl,rfl,rfl⟩ rfl rfl rfl rfl rfl (by kernel_rfl) Tryz.func5 (by kernel_rfl)
  (of_decide_eq_true (by kernel_rfl)) (by unfold Func.isWrapper; first | (rw [if_pos (by decide +kernel)]; kernel_rfl) | (rw [if_neg (by decide +kernel)]; exact ⟨rfl,rfl⟩))
  (fun os started H enc _ F=>by rw [OpenClaim.pre_eq_preRow]; exact own_lifted os started H enc F)

theorem own_plain (f : FuncId) (fn : Func) (hf : Tryz.pinned.checked.prog.funcNamed "keystone/keystonelaw5.ModuleOwn" = some f) (hfn : Tryz.pinned.checked.prog.funcs[f]? = some fn) :
  true = Tryz.pinned.checked.prog.looks []∧∀ (j : Nat) t,fn.params[j]? = some t→Tryz.pinned.checked.prog.wantsStandIn t = false:=by
 obtain rfl : f = 5 := Option.some.inj ((show Tryz.prog.funcNamed "keystone/keystonelaw5.ModuleOwn" = some 5 by kernel_rfl).symm.trans hf) |>.symm
 obtain rfl : fn = Tryz.f5:=(Option.some.inj (Tryz.func5.symm.trans hfn)).symm
 refine ⟨by kernel_rfl,fun j t ht=>?_⟩
 rw [Tryz.params5] at ht
 have hm : t∈[32]:=by simpa using Array.mem_of_getElem? ht
 have hall : ([32].all fun u=>!Tryz.prog.wantsStandIn u) = true:=by kernel_rfl
 exact (show Tryz.prog.wantsStandIn t = false by simpa using List.all_eq_true.1 hall t hm)

/-- The statement. -/
theorem own_proved : Rows.ModuleOwnUptoCardSaid:=
 Claim7.holds_tied_plain_at .later [] _ _ _ _ own_said (fun _ h=>by cases h) (by kernel_rfl) (fun _ h=>by cases h) moduleOwnUpto_row_tie rfl ⟨rfl,rfl⟩ (by kernel_rfl) rfl own_plain (by kernel_rfl)
#print axioms own_proved
end Go.Proofs.YtildemmkhndhjaaGreatDoor
