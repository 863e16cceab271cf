/-
  What the proof leans on, part 27 of 48. The conditions stand in each theorem.
-/
import Derived.Test.YtildemmkhndhjaaGreatDoorB11
import Derived.Deep.RegionLaw
import Derived.Test.YtildemmkhndhjaaGreatDoorB12
import Derived.Test.YtildemmkhndhjaaGreatDoorB10
import Derived.Test.YtildemmkhndhjaaGreatDoorB20
import Derived.Test.YtildemmkhndhjaaGreatDoorB13
import Derived.Test.YtildemmkhndhjaaGreatDoorB22
namespace Go.Proofs.YtildemmkhndhjaaGreatDoor
open Go.RowKit

/-- The second writer in block y. -/
structure XW (w : World) (B y : Nat) (ao : Option Addr) (cap : Nat) (out : List UInt8) (err : Int) : Prop where
  c0 : w.cell? ⟨y,0,none⟩ = some (.slice ao out.length cap)
  c1 : w.cell? ⟨y,1,none⟩ = some (.int .i64 err)
  f0 : w.frozen? ⟨y,0,none⟩ = false
  f1 : w.frozen? ⟨y,1,none⟩ = false
  own : w.ownsRow B 5 1 (.slice ao out.length cap) out.length (bcs out)
  ne : ∀ a,ao = some a→a.block≠y
  ge : B≤y

/-- The second writer, its bytes in block g (y, if it has none). -/
def XWE (w : World) (B y g : Nat) (s : List UInt8 × Int) : Prop:=∃ ao cap,XW w B y ao cap s.1 s.2∧dataOf ao y = g

theorem XW.lt {w : World} {B y : Nat} {ao : Option Addr} {cap : Nat} {out : List UInt8} {err : Int} (h : XW w B y ao cap out err) : y < w.heap.size:=World.block_lt_of_cell? w _ h.c0

theorem XWE.lt {w : World} {B y g : Nat} {s : List UInt8 × Int} (h : XWE w B y g s) : y < w.heap.size∧g < w.heap.size∧B≤y∧B≤g:=by
  obtain ⟨ao,cap,h,rfl⟩:=h
  have hp:=h.lt
  refine ⟨hp,?_,h.ge,?_⟩
  · cases ao with
    | none=>exact hp
    | some a=>exact (h.own.lt a.block rfl).2
  · cases ao with
    | none=>exact h.ge
    | some a=>exact (h.own.lt a.block rfl).1

theorem XWE.only {w w' : World} {S : List Nat} {B y g : Nat} {s : List UInt8 × Int} (h : XWE w B y g s) (ho : Only S w w') (hp : y ∉ S) (hg : g ∉ S) : XWE w' B y g s:=by
  obtain ⟨ao,cap,h,rfl⟩:=h
  have hl:=h.lt
  refine ⟨ao,cap,{ c0:=(ho.cell (p:=⟨y,0,none⟩) hl hp).trans h.c0,c1:=(ho.cell (p:=⟨y,1,none⟩) hl hp).trans h.c1,f0:=(ho.frozen (p:=⟨y,0,none⟩) hl hp).trans h.f0,f1:=(ho.frozen (p:=⟨y,1,none⟩) hl hp).trans h.f1,
                     own:=ownb_only h.own ho (fun k hk=>?_),ne:=h.ne,ge:=h.ge },rfl⟩
  cases ao with
  | none=>simp [Value.ownBlock] at hk
  | some a=>simp [Value.ownBlock] at hk; subst hk; exact hg

def XTo (w : World) (B y g : Nat) (w' : World) (s' : List UInt8 × Int) : Prop:=∃ g',XWE w' B y g' s'∧(g' = g∨w.heap.size≤g')∧Only [y,g] w w'

theorem XTo.refl {w : World} {B y g : Nat} {s : List UInt8 × Int} (h : XWE w B y g s) : XTo w B y g w s:=⟨g,h,.inl rfl,Only.refl _ _⟩

theorem xto_trans {w w1 w2 : World} {B y g g1 : Nat} {s2 : List UInt8 × Int} (ho : Only [y,g] w w1) (hg : g1 = g∨w.heap.size≤g1) (h : XTo w1 B y g1 w2 s2) : XTo w B y g w2 s2:=by
  obtain ⟨g2,h2,h3,h4⟩:=h
  refine ⟨g2,h2,?_,ho.trans h4 (fun x hx=>?_)⟩
  · have:=ho.size
    omega
  · simp at hx ⊢
    omega

/-- What the second writer is when l was appended. -/
theorem XW.appended {w w1 : World} {B y : Nat} {ao ao' : Option Addr} {cap cap' : Nat} {out l : List UInt8} {err : Int} (h : XW w B y ao cap out err) (hown : w1.ownsRow B 5 1 (.slice ao' (out.length + l.length) cap') (out.length + l.length) (bcs out ++ bcs l))
    (hg : w.grownBy w1 (Value.ownBlock (.slice ao out.length cap))) (hao : ∀ a,ao' = some a→(∃ a',ao = some a'∧a'.block = a.block)∨w.heap.size≤a.block) (hnn : ao' = none→ao = none) {w' : World}
    (hw : w1.setCell ⟨y,0,none⟩ (.slice ao' (out.length + l.length) cap') = w') : XTo w B y (dataOf ao y) w' (out ++ l,err):=by
  have hl:=h.lt
  have o1 : Only [dataOf ao y] w w1:=(Only.of_grown hg).mono (fun x hx=>by
    cases ao with
    | none=>simp [Value.ownBlock] at hx
    | some a=>simp [Value.ownBlock] at hx; subst hx; exact .inl (by simp [dataOf]))
  have hblk : w1.heap[y]? = w.heap[y]?:=by
    apply hg.block y hl
    cases ao with
    | none=>simp [Value.ownBlock]
    | some a=>simp [Value.ownBlock]; exact fun e=>h.ne a rfl e.symm
  have k0 : w1.cell? ⟨y,0,none⟩ = some (.slice ao out.length cap):=(World.cell?_of_block hblk).trans h.c0
  have k1 : w1.cell? ⟨y,1,none⟩ = some (.int .i64 err):=(World.cell?_of_block hblk).trans h.c1
  have kf : ∀ j,w'.frozen? ⟨y,j,none⟩ = w.frozen? ⟨y,j,none⟩:=fun j=>by rw [← hw,frozen_setCell]; exact World.frozen?_of_block hblk
  have o2 : Only [y] w1 w':=by
    rw [← hw]
    exact (Only.refl [y] w1).setCell (.inl (by simp)) _
  have hne : ∀ a,ao' = some a→a.block≠y:=by
    intro a ha e
    rcases hao a ha with ⟨a',h1,h2⟩ | h1
    · exact h.ne a' h1 (by omega)
    · omega
  have hlen : (out ++ l).length = out.length + l.length:=List.length_append
  refine ⟨dataOf ao' y,⟨ao',cap',{ c0:=?_,c1:=?_,f0:=(kf 0).trans h.f0,f1:=(kf 1).trans h.f1,own:=?_,ne:=hne,ge:=h.ge },rfl⟩,?_,?_⟩
  · rw [← hw,hlen]
    exact cell_setCell_same _ _ k0
  · rw [← hw,cell_setCell_ne _ _ (by simp)]; exact k1
  · rw [hlen,bcs_append]
    exact ownb_only hown o2 (fun k hk=>by
      cases ao' with
      | none=>simp [Value.ownBlock] at hk
      | some a=>simp [Value.ownBlock] at hk; subst hk; simpa using hne a rfl)
  · cases ao' with
    | none=>
      cases ao with
      | none=>exact .inl rfl
      | some a=>cases hnn rfl
    | some a=>
      rcases hao a rfl with ⟨a',rfl,h2⟩ | h1
      · exact .inl (by simp [dataOf,h2])
      · exact .inr h1
  · exact (o1.mono (fun x hx=>.inl (by simp at hx; simp [hx]))).trans o2 (fun x hx=>.inl (by simp at hx; simp [hx]))

/-- What the second writer is when its error was set. -/
theorem XWE.failed {w : World} {B y g : Nat} {s : List UInt8 × Int} (h : XWE w B y g s) (e : Int) : XTo w B y g (w.setCell ⟨y,1,none⟩ (.int .i64 e)) (s.1,e):=by
  obtain ⟨ao,cap,h,rfl⟩:=h
  have ho : Only [y] w (w.setCell ⟨y,1,none⟩ (.int .i64 e)):=(Only.refl [y] w).setCell (.inl (by simp)) _
  refine ⟨dataOf ao y,⟨ao,cap,{ c0:=by rw [cell_setCell_ne _ _ (by simp)]; exact h.c0,c1:=cell_setCell_same _ _ h.c1,f0:=(frozen_setCell _ _ _ _).trans h.f0,f1:=(frozen_setCell _ _ _ _).trans h.f1,own:=ownb_only h.own ho (fun k hk=>?_),ne:=h.ne,ge:=h.ge },rfl⟩,.inl rfl,ho.mono (fun x hx=>.inl (by simp at hx; simp [hx]))⟩
  cases ao with
  | none=>simp [Value.ownBlock] at hk
  | some a=>simp [Value.ownBlock] at hk; subst hk; simpa using h.ne a rfl

/-- append, as a step of a region that draws its order. -/
theorem step_append_bytes {w : World} {ops : Array Oper} {o : Oper} {a : Act} {K : Act→World→Prop} {Q : Exit→Act→World→Prop} {E : Prop} (hg : o.guard = none) (s x : Operand)
    (hop : o.op = .call { callee:=.builtin .append,args:=#[s,x],argTypes:=#[38,38] })
    {B : Nat} {ao lao : Option Addr} {n cap lcap d : Nat} {xs : List Value} {ls : List UInt8} (hs : a.eval s = .slice ao n cap) (hx : a.eval x = .slice lao ls.length lcap) (hown : w.ownsRow B 5 1 (.slice ao n cap) n xs) (hb : BS w lao ls d) (hl : lao = none→lcap = 0)
    (hsz : n + ls.length≤211106232532992) (hB : B≤w.heap.size)
    (h : ∀ ao' cap' w',w'.ownsRow B 5 1 (.slice ao' (n + ls.length) cap') (n + ls.length) (xs ++ bcs ls)→w.grownBy w' (Value.ownBlock (.slice ao n cap))→(∀ a,ao' = some a→(∃ a',ao = some a'∧a'.block = a.block)∨w.heap.size≤a.block)→(ao' = none→ao = none) →
      K (a.put o.dst (.slice ao' (n + ls.length) cap')) w') : if Region.wanted o (yielded ops a.tmps) = true then Oper.wp Tryz.prog o a w K Q else E:=by
  have hw : Region.wanted o (yielded ops a.tmps) = true:=by simp [Region.wanted,hg]
  rw [if_pos hw]
  obtain ⟨ao',cap',w',hr,h1,h2,h3,h4⟩:=append_runC o.type hown hb hl hsz hB
  unfold Oper.wp execOp
  simp only [hop,resolve,invoke,builtin,Sem.run_bind,Sem.run_pure,Result.andThen_ok,List.map_toArray,List.map_cons,List.map_nil,hs,hx,hr]
  exact h ao' cap' w' h1 h2 h3 h4

theorem kept_cell {w w1 : World} {B y : Nat} {ao : Option Addr} {cap : Nat} {out : List UInt8} {err : Int} (h : XW w B y ao cap out err) (hg : w.grownBy w1 (Value.ownBlock (.slice ao out.length cap))) : w1.cell? ⟨y,0,none⟩ = some (.slice ao out.length cap)∧w1.frozen? ⟨y,0,none⟩ = false:=by
  have hblk : w1.heap[y]? = w.heap[y]?:=by
    apply hg.block y h.lt
    cases ao with
    | none=>simp [Value.ownBlock]
    | some a=>simp [Value.ownBlock]; exact fun e=>h.ne a rfl e.symm
  exact ⟨(World.cell?_of_block hblk).trans h.c0,(World.frozen?_of_block hblk).trans h.f0⟩

theorem shr_at (x k : Nat) (h : 0 < k) (h8 : k≤8) (w : World) : (Op.shift .shr .u64 (x : Int) .i64 (IntKind.i64.wrap (8 * ((k : Int) - 1)))).run Tryz.prog w = .ok (.int .u64 ((x / 256 ^ (k - 1) : Nat) : Int)) w:=by
  have e : IntKind.i64.wrap (8 * ((k : Int) - 1)) = ((8 * (k - 1) : Nat) : Int):=by rw [IntKind.wrap_i64]; omega
  have e2 : min (8 * (k - 1)) IntKind.u64.bits = 8 * (k - 1):=by
    have : IntKind.u64.bits = 64:=rfl
    omega
  have e3 : (2 : Nat) ^ (8 * (k - 1)) = 256 ^ (k - 1):=by
    rw [show (256 : Nat) = 2 ^ 8 by decide,← Nat.pow_mul]
  have e4 : Int.fdiv (x : Int) (2 ^ (8 * (k - 1))) = ((x / 256 ^ (k - 1) : Nat) : Int):=by
    rw [← e3,Int.fdiv_eq_ediv_of_nonneg _ (Int.le_of_lt (Int.pow_pos (by decide)))]
    simp
  rw [e]
  unfold Op.shift
  rw [if_neg (by omega)]
  simp only [Int.toNat_natCast,e2,e4,Sem.run_pure]

set_option maxHeartbeats 1000000 in
theorem xput_ok {w : World} {B y g : Nat} {out : List UInt8} (h : XWE w B y g (out,0)) (x : Nat) (_hx : x < 18446744073709551616) (m : Nat) (hm : m≤8) (mi : Int) (hmi : mi = (m : Int)) (hsz : out.length + m≤211106232532992) :
    Calls Tryz.prog 148 #[.pointer (some ⟨y,0,none⟩),.int .u64 (x : Int),.int .i64 mi] w fun e w'=>e = .returned (.tuple #[])∧XTo w B y g w' (out ++ toBE x m,0):=by
  subst hmi
  have h':=h
  obtain ⟨ao0,cap0,q0,_⟩:=h'
  have q1:=q0.c1
  go_enter Tryz.func148,Tryz.ntmps148
  go_wp2
  go_loopw [6] (fun i wr=>∃ k : Nat,k≤m∧i = .int .i64 ((k : Int) - 1)∧XTo w B y g wr (out ++ (toBE x m).take (m - k),0)) (fun i _=>(intOf i + 1).toNat)
  case atStart=>exact ⟨m,by omega,by go_num,by simpa using XTo.refl h⟩
  case round=>
    obtain ⟨k,hk,rfl,g',hw,hg',ho⟩:=hrel
    by_cases hlt : 0 < k
    · have hl2 : ((toBE x m).take (m - k)).length≤m - k:=List.length_take_le _ _
      have HTK:=hid (toBE_take x m k hlt hk)
      have hlen : (out ++ (toBE x m).take (m - k)).length≤out.length + (m - k):=by rw [List.length_append]; omega
      have hwl:=hw.lt
      obtain ⟨ao,cap,hw,hgd⟩:=hw
      simp only at hw
      generalize hC : out ++ (toBE x m).take (m - k) = C at *
      have HC:=hid hC
      clear hC
      have c0:=hw.c0
      have f0:=hw.f0
      have g1 : (0 : Int)≤(k : Int) - 1:=by omega
      go_wp2
      have hsh:=shr_at x k hlt (by omega)
      have hV : IntKind.u8.wrap ((x : Int) / 256 ^ (k - 1)) = ((UInt8.ofNat (x / 256 ^ (k - 1))).toNat : Int):=by
        have e : ((x : Int) / 256 ^ (k - 1)) = ((x / 256 ^ (k - 1) : Nat) : Int):=by simp
        rw [e,IntKind.wrap_u8,UInt8.toNat_ofNat']
        omega
      have oa:=((Only.refl [] wr).alloc (.cells #[.int .u8 (IntKind.u8.wrap ((x : Int) / 256 ^ (k - 1)))] 5)).drew
      have hb:=(bs_one wr (UInt8.ofNat (x / 256 ^ (k - 1))) _ hV).only ((Only.refl [] _).drew) (by simp)
      obtain ⟨ao',cap',hwd,hgd'⟩ : XWE _ B y g' (C,0):=(show XWE wr B y g' (C,0) from ⟨ao,cap,hw,hgd⟩).only oa (by simp) (by simp)
      simp only at hwd
      have hsame : Value.slice ao C.length cap = Value.slice ao' C.length cap':=by
        have q:=(oa.cell (p:=⟨y,0,none⟩) (by simpa using hw.lt) (by simp)).trans c0
        have q2:=hwd.c0
        rw [q] at q2
        exact Option.some.inj q2
      obtain ⟨rfl,_,rfl⟩:=Value.slice.inj hsame
      have HWD:=hid hwd
      have HV:=hid hV
      have OA:=hid oa
      have HBB:=hid hb
      clear hV oa hb hwd hsame hgd'
      go_region_law (refine step_append_bytes rfl (.tmp 22) (.tmp 28) rfl rfl rfl HWD.out.own HBB.out (by simp) (by simp; omega) (by simp; omega) ?_; intro ao3 cap3 w3 hown3 hgr3 hao3 hnn3; obtain ⟨hc3,hf3⟩:=kept_cell HWD.out hgr3)
      all_goals
        have hto:=HWD.out.appended hown3 hgr3 hao3 hnn3 rfl
        have ee : C ++ [UInt8.ofNat (x / 256 ^ (k - 1))] = out ++ (toBE x m).take (m - (k - 1)):=by rw [← HC.out,List.append_assoc,HTK.out]
        rw [hgd,ee] at hto
        clear ee
        go_wp2
        exact ⟨⟨k - 1,by omega,by congr 1; omega,xto_trans (ho.next OA.out (by simp)) hg' hto⟩,by simp [intOf]; omega⟩
    · have : k = 0:=by omega
      subst this
      go_wp2
      go_end0
      refine ⟨rfl,g',?_,hg',ho⟩
      rw [List.take_of_length_le (by rw [toBE_length]; omega)] at hw
      exact hw

theorem xput_err {w : World} {B y g : Nat} {s : List UInt8 × Int} (h : XWE w B y g s) (he : (s.2 != 0) = true) (x : Nat) (mi : Int) :
    Calls Tryz.prog 148 #[.pointer (some ⟨y,0,none⟩),.int .u64 (x : Int),.int .i64 mi] w fun e w'=>e = .returned (.tuple #[])∧w = w':=by
  obtain ⟨ao,cap,⟨c0,c1,f0,f1,own,ne,ge⟩,_⟩:=h
  go_enter Tryz.func148,Tryz.ntmps148
  go_wp2
  refine bodyPost_ret (results_none rfl _ _ _) rfl ?_
  exact ⟨rfl,rfl⟩

/-- Whatever the second writer: put. -/
theorem xput_any {w : World} {B y g : Nat} {s : List UInt8 × Int} (h : XWE w B y g s) (x : Nat) (hx : x < 18446744073709551616) (m : Nat) (hm : m≤8) (mi : Int) (hmi : mi = (m : Int)) (hsz : s.1.length + m≤211106232532992) :
    Calls Tryz.prog 148 #[.pointer (some ⟨y,0,none⟩),.int .u64 (x : Int),.int .i64 mi] w fun e w'=>e = .returned (.tuple #[])∧XTo w B y g w' (wPut s (toBE x m)):=by
  obtain ⟨out,err⟩:=s
  by_cases he : err = 0
  · subst he
    have e : wPut (out,0) (toBE x m) = (out ++ toBE x m,0):=by simp [wPut]
    rw [e]
    exact xput_ok h x hx m hm mi hmi hsz
  · have e : wPut (out,err) (toBE x m) = (out,err):=by simp [wPut,he]
    rw [e]
    refine (xput_err h (by simpa using he) x mi).mono ?_
    rintro e w' ⟨rfl,rfl⟩
    exact ⟨rfl,XTo.refl h⟩

set_option maxHeartbeats 400000 in
theorem xbytesw_any {w : World} {B y g : Nat} {s : List UInt8 × Int} (h : XWE w B y g s) {lao : Option Addr} {lcap d : Nat} {ls : List UInt8} (hb : BS w lao ls d) (hl : lao = none→lcap = 0) (hsz : s.1.length + ls.length≤211106232532992) :
    Calls Tryz.prog 87 #[.pointer (some ⟨y,0,none⟩),.slice lao ls.length lcap] w fun e w'=>e = .returned (.tuple #[])∧XTo w B y g w' (wPut s ls):=by
  have HL:=hid hl
  clear hl
  obtain ⟨out,err⟩:=s
  simp only at hsz
  by_cases he : err = 0
  · subst he
    have e : wPut (out,0) ls = (out ++ ls,0):=by simp [wPut]
    rw [e]
    clear e
    obtain ⟨ao,cap,h,rfl⟩:=h
    simp only at h
    have H:=hid h
    have hyl:=h.lt
    obtain ⟨c0,c1,f0,f1,own,ne,ge⟩:=h
    go_enter Tryz.func87,Tryz.ntmps87
    go_wp2_with (at_builtin; refine wpList_append_bytes rfl (.tmp 13) (.tmp 14) rfl rfl rfl own hb HL.out (by omega) (by omega) ?_)
    intro ao' cap' w1 hown hgr hao hnn
    obtain ⟨hc3,hf3⟩:=kept_cell H.out hgr
    go_wp2
    go_end0
    exact ⟨rfl,H.out.appended hown hgr hao hnn rfl⟩
  · have e : wPut (out,err) ls = (out,err):=by simp [wPut,he]
    rw [e]
    have he' : (err == 0) = false:=by simpa using he
    clear he e
    have h':=h
    obtain ⟨ao,cap,⟨c0,c1,f0,f1,own,ne,ge⟩,_⟩:=h'
    go_enter Tryz.func87,Tryz.ntmps87
    go_wp2
    go_end0
    exact ⟨rfl,XTo.refl h⟩

theorem xbytesw_err {w : World} {B y g : Nat} {s : List UInt8 × Int} (h : XWE w B y g s) (he : s.2≠0) {lao : Option Addr} {n lcap : Nat} :
    Calls Tryz.prog 87 #[.pointer (some ⟨y,0,none⟩),.slice lao n lcap] w fun e w'=>e = .returned (.tuple #[])∧w = w':=by
  have he' : (s.2 == 0) = false:=by simpa using he
  clear he
  obtain ⟨ao,cap,⟨c0,c1,f0,f1,own,ne,ge⟩,_⟩:=h
  go_enter Tryz.func87,Tryz.ntmps87
  go_wp2
  go_end0
  exact ⟨rfl,rfl⟩

theorem xn8w_any {w : World} {B y g : Nat} {s : List UInt8 × Int} (h : XWE w B y g s) (n : Int) (hsz : s.1.length + 8≤211106232532992) :
    Calls Tryz.prog 147 #[.pointer (some ⟨y,0,none⟩),.int .i64 n] w fun e w'=>e = .returned (.tuple #[])∧XTo w B y g w' (wN8 s [n]):=by
  have hu : IntKind.u64.wrap n = (toU64 n : Int):=by rw [IntKind.wrap_u64]; unfold toU64; omega
  have HN:=xput_any h (toU64 n) (by unfold toU64; omega) 8 (by decide) 8 rfl hsz
  have e : wN8 s [n] = wPut s (toBE (toU64 n) 8):=by simp [wN8]
  rw [e]
  have HN:=hid HN
  clear e
  go_enter Tryz.func147,Tryz.ntmps147
  go_wp2_with fail
  refine HN.out.mono ?_
  rintro e w' ⟨rfl,hto⟩
  go_wp2
  go_end0
  exact ⟨rfl,hto⟩


set_option maxHeartbeats 4000000 in
theorem rhead_any (c : Cl) {fo dd : Option Addr} {fc dc : Nat} (vm : Value) (h1 : c.name.length≤9223372036854775807) (h2 : c.super.length≤9223372036854775807) (h3 : c.faces.length≤9223372036854775807) (h4 : c.fields.length≤9223372036854775807) (w : World) :
  Calls Tryz.prog 152 #[clV (.slice fo c.faces.length fc) (.slice dd c.fields.length dc) vm c] w fun e w'=>e = .returned (.int .i64 (headE c))∧Only [] w w':=by
 have N1:=fun W=>rname_any c.name h1 W
 have N2:=fun W=>rname_any c.super h2 W
 obtain ⟨fl,nm,su,fa,fi,me⟩:=c
 unfold clV headE
 simp only at N1 N2 h1 h2 h3 h4 ⊢
 generalize fa.length = nf at *
 generalize fi.length = nd at *
 have o0:=(Only.refl [] w).alloc (.cells #[.int .i64 fl,.string (str nm),.string (str su),.slice fo nf fc,.slice dd nd dc,vm] 28)
 by_cases hfl : fl≠0∧fl≠1∧fl≠2
 ·rw [if_pos hfl]
  obtain ⟨g0,g1,g2⟩:=hfl
  have g0' : (fl == 0) = false:=by simpa using g0
  have g1' : (fl == 1) = false:=by simpa using g1
  have g2' : (fl == 2) = false:=by simpa using g2
  have n0 : (fl != 0) = true:=by simpa using g0
  have n1 : (fl != 1) = true:=by simpa using g1
  have n2 : (fl != 2) = true:=by simpa using g2
  clear N1 N2
  go_enter Tryz.func152,Tryz.ntmps152
  go_wp2
  go_ret
  exact ⟨rfl,o0⟩
 ·rw [if_neg hfl]
  have hfl' : fl = 0∨fl = 1∨fl = 2:=by omega
  clear hfl
  generalize nameOK nm = b1 at *
  generalize nameOK su = b2 at *
  replace N1:=hid N1
  replace N2:=hid N2
  rcases hfl' with rfl | rfl | rfl
  ·cases b1 with
   | false=>
    rw [if_pos (Or.inl rfl)]
    go_enter Tryz.func152,Tryz.ntmps152
    go_wp2_with fail
    refine (N1.out _).mono ?_
    rintro e w' ⟨rfl,rfl⟩
    go_wp2_with fail
    go_ret
    exact ⟨rfl,o0⟩
   | true=>
    cases b2 with
    | false=>
     rw [if_pos (Or.inr rfl)]
     go_enter Tryz.func152,Tryz.ntmps152
     go_wp2_with fail
     refine (N1.out _).mono ?_
     rintro e w' ⟨rfl,rfl⟩
     go_wp2_with fail
     refine (N2.out _).mono ?_
     rintro e w' ⟨rfl,rfl⟩
     go_wp2_with fail
     go_ret
     exact ⟨rfl,o0⟩
    | true=>
     rw [if_neg (by simp)]
     by_cases hm : 16 < nf
     ·rw [if_pos hm]
      have gm : (16 : Int) < (nf : Int):=by omega
      go_enter Tryz.func152,Tryz.ntmps152
      go_wp2_with fail
      refine (N1.out _).mono ?_
      rintro e w' ⟨rfl,rfl⟩
      go_wp2_with fail
      refine (N2.out _).mono ?_
      rintro e w' ⟨rfl,rfl⟩
      go_wp2_with fail
      go_ret
      exact ⟨rfl,o0⟩
     ·rw [if_neg hm]
      have gm : ¬ (16 : Int) < (nf : Int):=by omega
      rw [if_neg (by omega),if_neg (by omega)]
      go_enter Tryz.func152,Tryz.ntmps152
      go_wp2_with fail
      refine (N1.out _).mono ?_
      rintro e w' ⟨rfl,rfl⟩
      go_wp2_with fail
      refine (N2.out _).mono ?_
      rintro e w' ⟨rfl,rfl⟩
      go_wp2_with fail
      go_ret
      exact ⟨rfl,o0⟩

  ·cases b1 with
   | false=>
    rw [if_pos (Or.inl rfl)]
    go_enter Tryz.func152,Tryz.ntmps152
    go_wp2_with fail
    refine (N1.out _).mono ?_
    rintro e w' ⟨rfl,rfl⟩
    go_wp2_with fail
    go_ret
    exact ⟨rfl,o0⟩
   | true=>
    cases b2 with
    | false=>
     rw [if_pos (Or.inr rfl)]
     go_enter Tryz.func152,Tryz.ntmps152
     go_wp2_with fail
     refine (N1.out _).mono ?_
     rintro e w' ⟨rfl,rfl⟩
     go_wp2_with fail
     refine (N2.out _).mono ?_
     rintro e w' ⟨rfl,rfl⟩
     go_wp2_with fail
     go_ret
     exact ⟨rfl,o0⟩
    | true=>
     rw [if_neg (by simp)]
     by_cases hm : 16 < nf
     ·rw [if_pos hm]
      have gm : (16 : Int) < (nf : Int):=by omega
      go_enter Tryz.func152,Tryz.ntmps152
      go_wp2_with fail
      refine (N1.out _).mono ?_
      rintro e w' ⟨rfl,rfl⟩
      go_wp2_with fail
      refine (N2.out _).mono ?_
      rintro e w' ⟨rfl,rfl⟩
      go_wp2_with fail
      go_ret
      exact ⟨rfl,o0⟩
     ·rw [if_neg hm]
      have gm : ¬ (16 : Int) < (nf : Int):=by omega
      by_cases hs : su = objL
      ·rw [if_neg (by simp [hs])]
       subst hs
       have ht : (str objL).toList = [79,98,106,101,99,116]:=str_toList _
       by_cases hd : 0 < nd
       ·rw [if_pos ⟨rfl,hd⟩]
        have gd : (0 : Int) < (nd : Int):=by omega
        go_enter Tryz.func152,Tryz.ntmps152
        go_wp2_with fail
        refine (N1.out _).mono ?_
        rintro e w' ⟨rfl,rfl⟩
        go_wp2_with fail
        refine (N2.out _).mono ?_
        rintro e w' ⟨rfl,rfl⟩
        go_wp2_with fail
        go_ret
        exact ⟨rfl,o0⟩
       ·rw [if_neg (by omega)]
        have gd : ¬ (0 : Int) < (nd : Int):=by omega
        go_enter Tryz.func152,Tryz.ntmps152
        go_wp2_with fail
        refine (N1.out _).mono ?_
        rintro e w' ⟨rfl,rfl⟩
        go_wp2_with fail
        refine (N2.out _).mono ?_
        rintro e w' ⟨rfl,rfl⟩
        go_wp2_with fail
        go_ret
        exact ⟨rfl,o0⟩
      ·rw [if_pos ⟨rfl,hs⟩]
       have ht:=str_toList su
       have hb2 : ¬ (su = [79,98,106,101,99,116]):=hs
       have hb3 : (su == [79,98,106,101,99,116]) = false:=by simpa using hb2
       go_enter Tryz.func152,Tryz.ntmps152
       go_wp2_with fail
       refine (N1.out _).mono ?_
       rintro e w' ⟨rfl,rfl⟩
       go_wp2_with fail
       refine (N2.out _).mono ?_
       rintro e w' ⟨rfl,rfl⟩
       go_wp2_with fail
       go_ret
       exact ⟨rfl,o0⟩

  ·cases b1 with
   | false=>
    rw [if_pos (Or.inl rfl)]
    go_enter Tryz.func152,Tryz.ntmps152
    go_wp2_with fail
    refine (N1.out _).mono ?_
    rintro e w' ⟨rfl,rfl⟩
    go_wp2_with fail
    go_ret
    exact ⟨rfl,o0⟩
   | true=>
    cases b2 with
    | false=>
     rw [if_pos (Or.inr rfl)]
     go_enter Tryz.func152,Tryz.ntmps152
     go_wp2_with fail
     refine (N1.out _).mono ?_
     rintro e w' ⟨rfl,rfl⟩
     go_wp2_with fail
     refine (N2.out _).mono ?_
     rintro e w' ⟨rfl,rfl⟩
     go_wp2_with fail
     go_ret
     exact ⟨rfl,o0⟩
    | true=>
     rw [if_neg (by simp)]
     by_cases hm : 16 < nf
     ·rw [if_pos hm]
      have gm : (16 : Int) < (nf : Int):=by omega
      go_enter Tryz.func152,Tryz.ntmps152
      go_wp2_with fail
      refine (N1.out _).mono ?_
      rintro e w' ⟨rfl,rfl⟩
      go_wp2_with fail
      refine (N2.out _).mono ?_
      rintro e w' ⟨rfl,rfl⟩
      go_wp2_with fail
      go_ret
      exact ⟨rfl,o0⟩
     ·rw [if_neg hm]
      have gm : ¬ (16 : Int) < (nf : Int):=by omega
      rw [if_neg (by omega),if_neg (by omega)]
      go_enter Tryz.func152,Tryz.ntmps152
      go_wp2_with fail
      refine (N1.out _).mono ?_
      rintro e w' ⟨rfl,rfl⟩
      go_wp2_with fail
      refine (N2.out _).mono ?_
      rintro e w' ⟨rfl,rfl⟩
      go_wp2_with fail
      go_ret
      exact ⟨rfl,o0⟩



set_option maxHeartbeats 1000000 in
theorem xuns1 {w : World} {B y g : Nat} {s : List UInt8 × Int} (h : XWE w B y g s) (v : Int) (hsz : s.1.length + 1≤211106232532992) :
  Calls Tryz.prog 146 #[.pointer (some ⟨y,0,none⟩),.int .i64 v,.int .i64 1] w fun e w'=>e = .returned (.tuple #[])∧XTo w B y g w' (wOne 1 s v):=by
 obtain ⟨out,err⟩:=s
 simp only at hsz
 have h':=h
 obtain ⟨ao,cap,⟨c0,c1,f0,f1,own,ne,ge⟩,_⟩:=h'
 simp only at c1 c0
 by_cases he : err = 0
 ·subst he
  by_cases hbad : v < 0∨(256 : Int) ^ 1≤v
  ·have e : wOne 1 (out,0) v = (out,1):=by
    unfold wOne
    rw [if_pos rfl,if_pos hbad]
   rw [e]
   clear e
   have hu : IntKind.u64.wrap v = (toU64 v : Int):=by rw [IntKind.wrap_u64]; unfold toU64; omega
   obtain ⟨g1,hx1,hg1,ho1⟩:=h.failed 1
   have HP:=hid (xput_err hx1 (by simp) (toU64 v) 1)
   have HO:=hid ho1
   clear ho1
   by_cases hneg : v < 0
   ·clear hbad
    go_enter Tryz.func146,Tryz.ntmps146
    go_wp2_with fail
    refine HP.out.mono ?_
    rintro e w' ⟨rfl,rfl⟩
    go_wp2
    go_end0
    exact ⟨rfl,g1,hx1,hg1,HO.out⟩
   ·have hbig : (256 : Int)≤v:=hbad.resolve_left hneg
    clear hbad
    go_enter Tryz.func146,Tryz.ntmps146
    go_wp2_with fail
    refine HP.out.mono ?_
    rintro e w' ⟨rfl,rfl⟩
    go_wp2
    go_end0
    exact ⟨rfl,g1,hx1,hg1,HO.out⟩
  ·have e : wOne 1 (out,0) v = (out ++ toBE v.toNat 1,0):=by
    unfold wOne
    rw [if_pos rfl,if_neg hbad]
   rw [e]
   clear e
   have hneg : ¬ v < 0:=fun e=>hbad (.inl e)
   have hbig : ¬ (256 : Int)≤v:=fun e=>hbad (.inr e)
   obtain ⟨k,rfl⟩:=Int.eq_ofNat_of_zero_le (by omega : 0≤v)
   have hk : k < 256:=by omega
   have HP:=xput_ok h k (by omega) 1 (by decide) 1 rfl hsz
   rw [Int.toNat_natCast]
   have HP:=hid HP
   clear hbad
   go_enter Tryz.func146,Tryz.ntmps146
   go_wp2_with fail
   refine HP.out.mono ?_
   rintro e w' ⟨rfl,hto⟩
   go_wp2
   go_end0
   exact ⟨rfl,hto⟩
 ·have e : wOne 1 (out,err) v = (out,err):=by
   unfold wOne
   rw [if_neg he]
  rw [e]
  clear e
  have hu : IntKind.u64.wrap v = (toU64 v : Int):=by rw [IntKind.wrap_u64]; unfold toU64; omega
  have HP:=hid (xput_err h (by simpa using he) (toU64 v) 1)
  have he' : (err == 0) = false:=by simpa using he
  clear he
  go_enter Tryz.func146,Tryz.ntmps146
  go_wp2_with fail
  refine HP.out.mono ?_
  rintro e w' ⟨rfl,rfl⟩
  go_wp2
  go_end0
  exact ⟨rfl,XTo.refl h⟩

theorem xwu1_any {w : World} {B y g : Nat} {s : List UInt8 × Int} (h : XWE w B y g s) (v : Int) (hsz : s.1.length + 1≤211106232532992) :
  Calls Tryz.prog 90 #[.pointer (some ⟨y,0,none⟩),.int .i64 v] w fun e w'=>e = .returned (.tuple #[])∧XTo w B y g w' (wOne 1 s v):=by
 have HP:=hid (xuns1 h v hsz)
 go_enter Tryz.func90,Tryz.ntmps90
 go_wp2_with fail
 refine HP.out.mono ?_
 rintro e w' ⟨rfl,hto⟩
 go_wp2
 go_end0
 exact ⟨rfl,hto⟩

set_option maxHeartbeats 1000000 in
theorem xuns2 {w : World} {B y g : Nat} {s : List UInt8 × Int} (h : XWE w B y g s) (v : Int) (hsz : s.1.length + 2≤211106232532992) :
  Calls Tryz.prog 146 #[.pointer (some ⟨y,0,none⟩),.int .i64 v,.int .i64 2] w fun e w'=>e = .returned (.tuple #[])∧XTo w B y g w' (wOne 2 s v):=by
 obtain ⟨out,err⟩:=s
 simp only at hsz
 have h':=h
 obtain ⟨ao,cap,⟨c0,c1,f0,f1,own,ne,ge⟩,_⟩:=h'
 simp only at c1 c0
 by_cases he : err = 0
 ·subst he
  by_cases hbad : v < 0∨(256 : Int) ^ 2≤v
  ·have e : wOne 2 (out,0) v = (out,1):=by
    unfold wOne
    rw [if_pos rfl,if_pos hbad]
   rw [e]
   clear e
   have hu : IntKind.u64.wrap v = (toU64 v : Int):=by rw [IntKind.wrap_u64]; unfold toU64; omega
   obtain ⟨g1,hx1,hg1,ho1⟩:=h.failed 1
   have HP:=hid (xput_err hx1 (by simp) (toU64 v) 2)
   have HO:=hid ho1
   clear ho1
   by_cases hneg : v < 0
   ·clear hbad
    go_enter Tryz.func146,Tryz.ntmps146
    go_wp2_with fail
    refine HP.out.mono ?_
    rintro e w' ⟨rfl,rfl⟩
    go_wp2
    go_end0
    exact ⟨rfl,g1,hx1,hg1,HO.out⟩
   ·have hbig : (65536 : Int)≤v:=hbad.resolve_left hneg
    clear hbad
    go_enter Tryz.func146,Tryz.ntmps146
    go_wp2_with fail
    refine HP.out.mono ?_
    rintro e w' ⟨rfl,rfl⟩
    go_wp2
    go_end0
    exact ⟨rfl,g1,hx1,hg1,HO.out⟩
  ·have e : wOne 2 (out,0) v = (out ++ toBE v.toNat 2,0):=by
    unfold wOne
    rw [if_pos rfl,if_neg hbad]
   rw [e]
   clear e
   have hneg : ¬ v < 0:=fun e=>hbad (.inl e)
   have hbig : ¬ (65536 : Int)≤v:=fun e=>hbad (.inr e)
   obtain ⟨k,rfl⟩:=Int.eq_ofNat_of_zero_le (by omega : 0≤v)
   have hk : k < 65536:=by omega
   have HP:=xput_ok h k (by omega) 2 (by decide) 2 rfl hsz
   rw [Int.toNat_natCast]
   have HP:=hid HP
   clear hbad
   go_enter Tryz.func146,Tryz.ntmps146
   go_wp2_with fail
   refine HP.out.mono ?_
   rintro e w' ⟨rfl,hto⟩
   go_wp2
   go_end0
   exact ⟨rfl,hto⟩
 ·have e : wOne 2 (out,err) v = (out,err):=by
   unfold wOne
   rw [if_neg he]
  rw [e]
  clear e
  have hu : IntKind.u64.wrap v = (toU64 v : Int):=by rw [IntKind.wrap_u64]; unfold toU64; omega
  have HP:=hid (xput_err h (by simpa using he) (toU64 v) 2)
  have he' : (err == 0) = false:=by simpa using he
  clear he
  go_enter Tryz.func146,Tryz.ntmps146
  go_wp2_with fail
  refine HP.out.mono ?_
  rintro e w' ⟨rfl,rfl⟩
  go_wp2
  go_end0
  exact ⟨rfl,XTo.refl h⟩

theorem xwu2_any {w : World} {B y g : Nat} {s : List UInt8 × Int} (h : XWE w B y g s) (v : Int) (hsz : s.1.length + 2≤211106232532992) :
  Calls Tryz.prog 88 #[.pointer (some ⟨y,0,none⟩),.int .i64 v] w fun e w'=>e = .returned (.tuple #[])∧XTo w B y g w' (wOne 2 s v):=by
 have HP:=hid (xuns2 h v hsz)
 go_enter Tryz.func88,Tryz.ntmps88
 go_wp2_with fail
 refine HP.out.mono ?_
 rintro e w' ⟨rfl,hto⟩
 go_wp2
 go_end0
 exact ⟨rfl,hto⟩

set_option maxHeartbeats 1000000 in
theorem xtextw_any {w : World} {B y g : Nat} {s : List UInt8 × Int} (h : XWE w B y g s) (b : ByteArray) (hb : b.size≤9223372036854775807) (hsz : s.1.length + 256≤211106232532992) :
  Calls Tryz.prog 91 #[.pointer (some ⟨y,0,none⟩),.string b] w fun e w'=>e = .returned (.tuple #[])∧XTo w B y g w' (wTx1 s b):=by
 obtain ⟨out,err⟩:=s
 simp only at hsz
 have h':=h
 obtain ⟨ao,cap,⟨c0,c1,f0,f1,own,ne,ge⟩,_⟩:=h'
 simp only at c1 c0
 have kc:=fun w=>Lib.run_convert_string_bytes (P:=Tryz.prog) w 9 38 5 b Tryz.underlying9 Tryz.underlying38 Tryz.underlying5
 have hl4 : b.data.toList.length = b.size:=rfl
 -- from a state in which the length was put: the bytes
 have tail : ∀ (w1 : World) (g1 : Nat) (t : List UInt8 × Int),XWE w1 B y g1 t→(t.1.length + b.size≤211106232532992∨t.2≠0)→Calls Tryz.prog 87 #[.pointer (some ⟨y,0,none⟩),.slice (some ⟨w1.heap.size,0,none⟩) b.size (grownCap w1 b.size 0 5)] (Lib.bytesWorld w1 5 b) fun e w'=>e = .returned (.tuple #[])∧XTo w1 B y g1 w' (wPut t b.data.toList):=by
  intro w1 g1 t ht hs
  obtain ⟨ob,hbs⟩:=bytes_world w1 b
  have ht':=ht.only ob (by simp) (by simp)
  rcases hs with hs | hs
  ·have q:=xbytesw_any ht' hbs (lcap:=grownCap w1 b.size 0 5) (by simp) (by rw [hl4]; exact hs)
   rw [hl4] at q
   refine q.mono ?_
   rintro e w' ⟨rfl,hto⟩
   exact ⟨rfl,xto_trans (ob.mono (by simp)) (.inl rfl) hto⟩
  ·have q:=xbytesw_err ht' hs (lao:=some ⟨w1.heap.size,0,none⟩) (n:=b.size) (lcap:=grownCap w1 b.size 0 5)
   refine q.mono ?_
   rintro e w' ⟨rfl,rfl⟩
   have e : wPut t b.data.toList = t:=by simp [wPut,hs]
   rw [e]
   exact ⟨rfl,xto_trans (ob.mono (by simp)) (.inl rfl) (XTo.refl ht')⟩
 have HT:=hid tail
 clear tail hl4
 by_cases he : err = 0
 ·subst he
  by_cases hbad : 255 < b.size
  ·have e : wTx1 (out,0) b = (out,5):=by
    unfold wTx1
    rw [if_pos rfl,if_pos hbad]
   rw [e]
   clear e
   have hbig : (255 : Int) < (b.size : Int):=by omega
   obtain ⟨g1,hx1,hg1,ho1⟩:=h.failed 5
   have HP:=hid (xput_err hx1 (by simp) b.size 1)
   have HQ:=HT.out _ g1 _ hx1 (.inr (by simp))
   have e2 : wPut (out,5) b.data.toList = (out,5):=by simp [wPut]
   rw [e2] at HQ
   have e3 : (w.setCell ⟨y,1,none⟩ (.int .i64 5)).heap.size = w.heap.size:=by simp [World.setCell]
   rw [e3] at HQ
   have HQ:=hid HQ
   have HO:=hid ho1
   clear ho1 hbad e2 e3
   go_enter Tryz.func91,Tryz.ntmps91
   go_wp2_with fail
   refine HP.out.mono ?_
   rintro e w' ⟨rfl,rfl⟩
   go_wp2_with fail
   refine HQ.out.mono ?_
   rintro e w' ⟨rfl,hto⟩
   go_wp2
   go_end0
   exact ⟨rfl,xto_trans HO.out hg1 hto⟩
  ·have e : wTx1 (out,0) b = wPut (wPut (out,0) [UInt8.ofNat b.size]) b.data.toList:=wTx1_ok (out,0) b hbad
   rw [e]
   clear e
   have hsm : ¬ (255 : Int) < (b.size : Int):=by omega
   have HP:=xput_any h b.size (by omega) 1 (by decide) 1 rfl (by show out.length + 1≤_; omega)
   have e1 : toBE b.size 1 = [UInt8.ofNat b.size]:=by simp [toBE]
   have hlw:=wPut_len (out,0) [UInt8.ofNat b.size]
   rw [e1] at HP
   have HP:=hid HP
   clear e1
   go_enter Tryz.func91,Tryz.ntmps91
   go_wp2_with fail
   refine HP.out.mono ?_
   rintro e w1 ⟨rfl,g1,hx1,hg1,ho1⟩
   have HQ:=hid (HT.out w1 g1 _ hx1 (.inl (by simp only [List.length_singleton] at hlw; omega)))
   go_wp2_with fail
   refine HQ.out.mono ?_
   rintro e w' ⟨rfl,hto⟩
   go_wp2
   go_end0
   exact ⟨rfl,xto_trans ho1 hg1 hto⟩
 ·have e : wTx1 (out,err) b = (out,err):=by
   unfold wTx1
   rw [if_neg he]
  rw [e]
  clear e
  have HP:=hid (xput_err h (by simpa using he) (b.size % 18446744073709551616) 1)
  have HQ:=HT.out w g _ h (.inr he)
  have e2 : wPut (out,err) b.data.toList = (out,err):=by simp [wPut,he]
  rw [e2] at HQ
  have HQ:=hid HQ
  have he' : (err == 0) = false:=by simpa using he
  have hu : IntKind.u64.wrap (b.size : Int) = ((b.size % 18446744073709551616 : Nat) : Int):=by rw [IntKind.wrap_u64]; omega
  clear he e2
  have e5 : b.size % 18446744073709551616 = b.size:=by omega
  rw [e5] at HP
  clear hu e5
  go_enter Tryz.func91,Tryz.ntmps91
  go_wp2_with fail
  refine HP.out.mono ?_
  rintro e w' ⟨rfl,rfl⟩
  go_wp2_with fail
  refine HQ.out.mono ?_
  rintro e w' ⟨rfl,hto⟩
  go_wp2
  go_end0
  exact ⟨rfl,hto⟩


theorem BS.of_rs {w : World} {ao : Option Addr} {l : List UInt8} {d : Nat} (h : RS w ao (bcs l) d) : BS w ao l d:=by
 rcases h with h | ⟨off,ha,hc⟩
 ·left
  cases l with
  | nil=>rfl
  | cons t l=>simp [bcs] at h
 ·exact .inr ⟨off,ha,fun j hj=>hc j _ (bcs_get l j hj)⟩

/-- Of the old blocks only some from B on have turned, none of L. -/
def Lo (L : List Nat) (B : Nat) (w w' : World) : Prop:=∃ S,Only S w w'∧∀ x,x∈S→B≤x∧x ∉ L

theorem Lo.of0 {L : List Nat} {B : Nat} {w w' : World} (h : Only [] w w') : Lo L B w w':=⟨[],h,by simp⟩

theorem Lo.trans {L : List Nat} {B : Nat} {a b c : World} (h : Lo L B a b) (k : Lo L B b c) : Lo L B a c:=by
 obtain ⟨S,h1,h2⟩:=h
 obtain ⟨T,k1,k2⟩:=k
 refine ⟨S ++ T,(h1.mono (fun x hx=>.inl (List.mem_append_left _ hx))).trans k1 (fun x hx=>.inl (List.mem_append_right _ hx)),fun x hx=>?_⟩
 rcases List.mem_append.1 hx with hx | hx
 ·exact h2 x hx
 ·exact k2 x hx

theorem Lo.sub {L L' : List Nat} {B : Nat} {w w' : World} (h : Lo L B w w') (hs : ∀ x,x∈L'→x∈L) : Lo L' B w w':=by
 obtain ⟨S,h1,h2⟩:=h
 exact ⟨S,h1,fun x hx=>⟨(h2 x hx).1,fun hl=>(h2 x hx).2 (hs x hl)⟩⟩

theorem Lo.tail {L : List Nat} {b B : Nat} {w w' : World} (h : Lo (b :: L) B w w') : Lo L B w w':=h.sub fun _ hx=>List.mem_cons_of_mem _ hx

theorem Lo.only {L : List Nat} {B : Nat} {w0 w w' : World} (h : Lo L B w w') (h0 : Only [] w0 w) (hB : w0.heap.size≤B) : Only [] w0 w':=by
 obtain ⟨S,h1,h2⟩:=h
 exact h0.next h1 fun x hx=>Nat.le_trans hB (h2 x hx).1

theorem Cl6.lo {L : List Nat} {B : Nat} {w w' : World} {b : Nat} {v0 v1 v2 v3 v4 v5 : Value} (h : Cl6 w b v0 v1 v2 v3 v4 v5) (k : Lo L B w w') (hb : b∈L) : Cl6 w' b v0 v1 v2 v3 v4 v5:=by
 obtain ⟨S,h1,h2⟩:=k
 exact h.only h1 fun hx=>(h2 b hx).2 hb

theorem Me10.lo {L : List Nat} {B : Nat} {w w' : World} {b : Nat} {v0 v1 v2 v3 v4 v5 v6 v7 v8 v9 : Value} (h : Me10 w b v0 v1 v2 v3 v4 v5 v6 v7 v8 v9) (k : Lo L B w w') (hb : b∈L) : Me10 w' b v0 v1 v2 v3 v4 v5 v6 v7 v8 v9:=by
 obtain ⟨S,h1,h2⟩:=k
 exact h.only h1 fun hx=>(h2 b hx).2 hb

theorem Mo2.lo {L : List Nat} {B : Nat} {w w' : World} {b : Nat} {v0 v1 : Value} (h : Mo2 w b v0 v1) (k : Lo L B w w') (hb : b∈L) : Mo2 w' b v0 v1:=by
 obtain ⟨S,h1,h2⟩:=k
 exact h.only h1 fun hx=>(h2 b hx).2 hb

theorem B4.lo {L : List Nat} {B : Nat} {w w' : World} {b : Nat} {v0 v1 v2 v3 : Value} (h : B4 w b v0 v1 v2 v3) (k : Lo L B w w') (hb : b∈L) : B4 w' b v0 v1 v2 v3:=by
 obtain ⟨S,h1,h2⟩:=k
 exact h.only h1 fun hx=>(h2 b hx).2 hb

theorem SlV.lo {L : List Nat} {B : Nat} {w w' : World} {v : Value} {n : Nat} {cs : List Value} (h : SlV w (· < B) v n cs) (k : Lo L B w w') : SlV w' (· < B) v n cs:=by
 obtain ⟨S,h1,h2⟩:=k
 exact h.only h1 fun d hd hx=>by have:=(h2 d hx).1; omega

/-- The second writer, at block y: at most K bytes; the blocks of L are not its own. -/
def XS (w : World) (B y K : Nat) (L : List Nat) : Prop:=∃ g s,XWE w B y g s∧s.1.length≤K∧y ∉ L∧g ∉ L∧∀ b,b∈L→b < w.heap.size

theorem XS.mono {w : World} {B y K K' : Nat} {L : List Nat} (h : XS w B y K L) (hK : K≤K') : XS w B y K' L:=by
 obtain ⟨g,s,h1,h2,h3⟩:=h
 exact ⟨g,s,h1,Nat.le_trans h2 hK,h3⟩

theorem XS.only0 {w w' : World} {B y K : Nat} {L : List Nat} (h : XS w B y K L) (ho : Only [] w w') : XS w' B y K L:=by
 obtain ⟨g,s,h1,h2,h3,h4,h5⟩:=h
 exact ⟨g,s,h1.only ho (by simp) (by simp),h2,h3,h4,fun b hb=>Nat.lt_of_lt_of_le (h5 b hb) ho.size⟩

theorem XS.alloc {w : World} {B y K : Nat} {L : List Nat} (h : XS w B y K L) (o : Obj) : XS (w.alloc o) B y K (w.heap.size :: L):=by
 obtain ⟨g,s,h1,h2,h3,h4,h5⟩:=h
 have hl:=h1.lt
 refine ⟨g,s,h1.only ((Only.refl [] w).alloc o) (by simp) (by simp),h2,?_,?_,fun b hb=>?_⟩
 ·simp only [List.mem_cons,not_or]
  exact ⟨by omega,h3⟩
 ·simp only [List.mem_cons,not_or]
  exact ⟨by omega,h4⟩
 ·rw [World.size_alloc]
  rcases List.mem_cons.1 hb with rfl | hb
  ·omega
  ·have:=h5 b hb
   omega

theorem XS.sub {w : World} {B y K : Nat} {L L' : List Nat} (h : XS w B y K L) (hs : ∀ x,x∈L'→x∈L) : XS w B y K L':=by
 obtain ⟨g,s,h1,h2,h3,h4,h5⟩:=h
 exact ⟨g,s,h1,h2,fun hl=>h3 (hs _ hl),fun hl=>h4 (hs _ hl),fun b hb=>h5 b (hs b hb)⟩

theorem XS.tail {w : World} {B y K b : Nat} {L : List Nat} (h : XS w B y K (b :: L)) : XS w B y K L:=h.sub fun _ hx=>List.mem_cons_of_mem _ hx

theorem xs_of {w w' : World} {B y g K' : Nat} {L : List Nat} {s s' : List UInt8 × Int} (hx : XWE w B y g s) (hy : y ∉ L) (hg : g ∉ L) (hb : ∀ b,b∈L→b < w.heap.size) (ht : XTo w B y g w' s') (hK : s'.1.length≤K') : XS w' B y K' L∧Lo L B w w':=by
 have hl:=hx.lt
 obtain ⟨g',h1,h2,h3⟩:=ht
 refine ⟨⟨g',s',h1,hK,hy,?_,fun b h=>Nat.lt_of_lt_of_le (hb b h) h3.size⟩,[y,g],h3,fun x hx=>?_⟩
 ·rcases h2 with rfl | h2
  ·exact hg
  ·intro h
   have:=hb _ h
   omega
 ·rcases List.mem_cons.1 hx with rfl | hx
  ·exact ⟨by omega,hy⟩
  ·obtain rfl:=List.mem_singleton.1 hx
   exact ⟨by omega,hg⟩

/-- What a call of the writer did: so many bytes more at most. -/
def XP (w : World) (B y K : Nat) (L : List Nat) (e : Ending) (w' : World) : Prop:=e = .returned (.tuple #[])∧XS w' B y K L∧Lo L B w w'

theorem xs_u1 {w : World} {B y K : Nat} {L : List Nat} (h : XS w B y K L) (v : Int) (hK : K + 1≤211106232532992) :
  Calls Tryz.prog 90 #[.pointer (some ⟨y,0,none⟩),.int .i64 v] w (XP w B y (K + 1) L):=by
 obtain ⟨g,s,h1,h2,h3,h4,h5⟩:=h
 refine (xwu1_any h1 v (by omega)).mono ?_
 rintro e w' ⟨rfl,ht⟩
 have:=wOne_len 1 s v
 exact ⟨rfl,xs_of h1 h3 h4 h5 ht (by omega)⟩

theorem xs_u2 {w : World} {B y K : Nat} {L : List Nat} (h : XS w B y K L) (v : Int) (hK : K + 2≤211106232532992) :
  Calls Tryz.prog 88 #[.pointer (some ⟨y,0,none⟩),.int .i64 v] w (XP w B y (K + 2) L):=by
 obtain ⟨g,s,h1,h2,h3,h4,h5⟩:=h
 refine (xwu2_any h1 v (by omega)).mono ?_
 rintro e w' ⟨rfl,ht⟩
 have:=wOne_len 2 s v
 exact ⟨rfl,xs_of h1 h3 h4 h5 ht (by omega)⟩

theorem xs_n8 {w : World} {B y K : Nat} {L : List Nat} (h : XS w B y K L) (v : Int) (hK : K + 8≤211106232532992) :
  Calls Tryz.prog 147 #[.pointer (some ⟨y,0,none⟩),.int .i64 v] w (XP w B y (K + 8) L):=by
 obtain ⟨g,s,h1,h2,h3,h4,h5⟩:=h
 refine (xn8w_any h1 v (by omega)).mono ?_
 rintro e w' ⟨rfl,ht⟩
 have:=wN8_len s [v]
 simp only [List.length_singleton] at this
 exact ⟨rfl,xs_of h1 h3 h4 h5 ht (by omega)⟩

theorem xs_text {w : World} {B y K : Nat} {L : List Nat} (h : XS w B y K L) (l : List UInt8) (hl : l.length≤9223372036854775807) (hK : K + 256≤211106232532992) :
  Calls Tryz.prog 91 #[.pointer (some ⟨y,0,none⟩),.string (str l)] w (XP w B y (K + 256) L):=by
 obtain ⟨g,s,h1,h2,h3,h4,h5⟩:=h
 refine (xtextw_any h1 (str l) (by rw [str_size]; exact hl) (by omega)).mono ?_
 rintro e w' ⟨rfl,ht⟩
 have:=wTx1_len s (str l)
 exact ⟨rfl,xs_of h1 h3 h4 h5 ht (by omega)⟩

theorem xs_bytes {w : World} {B y K : Nat} {L : List Nat} (h : XS w B y K L) {ao : Option Addr} {l : List UInt8} {d cap : Nat} (hB : RS w ao (bcs l) d) (hn : ao = none→cap = 0) (hK : K + l.length≤211106232532992) :
  Calls Tryz.prog 87 #[.pointer (some ⟨y,0,none⟩),.slice ao l.length cap] w (XP w B y (K + l.length) L):=by
 obtain ⟨g,s,h1,h2,h3,h4,h5⟩:=h
 refine (xbytesw_any h1 (BS.of_rs hB) hn (by omega)).mono ?_
 rintro e w' ⟨rfl,ht⟩
 have:=wPut_len s l
 exact ⟨rfl,xs_of h1 h3 h4 h5 ht (by omega)⟩


theorem be_cons (c : UInt8) (l : List UInt8) : be (c :: l) = c.toNat * 256 ^ l.length + be l:=by
 suffices h : ∀ (l : List UInt8) (n : Nat),l.foldl (fun n c=>n * 256 + c.toNat) n = n * 256 ^ l.length + be l by
  show (c :: l).foldl (fun n c=>n * 256 + c.toNat) 0 = _
  rw [List.foldl_cons,h]
  simp
 intro l
 induction l with
 | nil=>intro n; simp [be]
 | cons d l ih=>
  intro n
  rw [List.foldl_cons,ih,List.length_cons,Nat.pow_succ]
  have h2 : be (d :: l) = d.toNat * 256 ^ l.length + be l:=by
   show (d :: l).foldl (fun n c=>n * 256 + c.toNat) 0 = _
   rw [List.foldl_cons,ih]
   simp
  rw [h2,Nat.add_mul,Nat.mul_assoc,Nat.mul_comm 256]
  omega

theorem be_toBE (x k : Nat) : be (toBE x k) = x % 256 ^ k:=by
 induction k with
 | zero=>simp [toBE,be,Nat.mod_one]
 | succ k ih=>
  have h1:=Nat.mod_mul (x:=x) (a:=256 ^ k) (b:=256)
  have e : (256 : Nat) ^ (k + 1) = 256 ^ k * 256:=Nat.pow_succ _ _
  have e2 : (2 : Nat) ^ 8 = 256:=by decide
  rw [toBE,be_cons,ih,toBE_length,UInt8.toNat_ofNat',e,h1,e2,Nat.mul_comm]
  omega

theorem back_u64 (n : Int) (h : -9223372036854775808≤n∧n≤9223372036854775807) : wrap64 ((be (toBE (toU64 n) 8) : Nat) : Int) = n:=by
 rw [be_toBE]
 have e : (256 : Nat) ^ 8 = 18446744073709551616:=by decide
 rw [e]
 unfold toU64
 simp only [wrap64]
 omega

/-- A module, whatever is left. -/
def pBody : Pr Mo:=pBind pMagic fun _=>pBind (pRows 2 4096 pEntry) fun l=>pBind (pRows 1 64 pClass) fun cs=>pDone ⟨l,cs⟩
theorem module_body (r : Rs) : pModule r = match pBody r with
  | .inl e=>.inl e
  | .inr (m,r')=>pEnd m r':=by
 unfold pModule pBody pBind
 cases pMagic r with
 | inl e=>rfl
 | inr z=>
  simp only
  cases pRows 2 4096 pEntry z.2 with
  | inl e=>rfl
  | inr z=>
   simp only
   cases pRows 1 64 pClass z.2 with
   | inl e=>rfl
   | inr z=>rfl

/-- What is written is read again. -/
def Bk {α : Type} (p : Pr α) (b : List UInt8) (x : α) : Prop:=∀ (q : List UInt8) (n : Nat),p (b ++ q,n) = .inr (x,q,n + b.length)

theorem bk_done {α : Type} (x : α) : Bk (pDone x) [] x:=fun _ _=>rfl

theorem bk_bind {α β : Type} {p : Pr α} {f : α→Pr β} {a b : List UInt8} {x : α} {y : β} (hp : Bk p a x) (hf : Bk (f x) b y) : Bk (pBind p f) (a ++ b) y:=by
 intro q n
 unfold pBind
 rw [List.append_assoc,hp]
 simp only
 rw [hf,List.length_append,Nat.add_assoc]

theorem bk_last {α β : Type} {p : Pr α} {f : α→Pr β} {a : List UInt8} {x : α} {y : β} (hp : Bk p a x) (hf : f x = pDone y) : Bk (pBind p f) a y:=by
 intro q n
 unfold pBind
 rw [hp]
 simp only
 rw [hf]
 rfl

theorem bk_take (l : List UInt8) {k : Nat} (hk : k = l.length) : Bk (pTake k) l l:=by
 subst hk
 intro q n
 unfold pTake
 simp

theorem bk_u1 (x : Int) (h : 0≤x∧x < 256) : Bk (pU 1) (e1 x) x.toNat:=by
 refine bk_last (bk_take _ rfl) ?_
 have : be (e1 x) = x.toNat:=by
  have:=be_toBE x.toNat 1
  have e : toBE x.toNat 1 = e1 x:=by simp [toBE,e1]
  rw [e] at this
  rw [this]
  omega
 rw [this]

theorem bk_u2 (x : Int) (h : 0≤x∧x < 65536) : Bk (pU 2) (e2 x) x.toNat:=by
 refine bk_last (bk_take _ (by rw [e2,toBE_length])) ?_
 have : be (e2 x) = x.toNat:=by
  rw [e2,be_toBE]
  omega
 rw [this]

theorem bk_n8 (x : Int) (h : -9223372036854775808≤x∧x≤9223372036854775807) : Bk pN8 (e8 x) x:=by
 refine bk_last (bk_take _ (by rw [e8,toBE_length])) ?_
 rw [e8,back_u64 x h]

theorem bk_text (s : List UInt8) (h : s.length≤255) : Bk pText (eT s) s:=by
 intro q n
 have e : textLen (eT s ++ q) = (eT s).length:=by
  show 1 + (UInt8.ofNat s.length).toNat = _
  rw [UInt8.toNat_ofNat',eT,List.length_cons]
  omega
 unfold pText
 simp only
 rw [e]
 exact bk_last (f:=fun l=>pDone l.tail) (y:=s) (bk_take (eT s) rfl) rfl q n

theorem bk_list {α : Type} {p : Pr α} {enc : α→List UInt8} : ∀ (l : List α),(∀ x∈l,Bk p (enc x) x)→Bk (pList p l.length) (l.flatMap enc) l:=by
 intro l
 induction l with
 | nil=>intro _; exact bk_done _
 | cons x l ih=>
  intro h
  rw [List.flatMap_cons]
  exact bk_bind (h x (by simp)) (bk_last (ih fun y hy=>h y (by simp [hy])) rfl)

theorem bk_at {α : Type} {p : Nat→Pr α} {b : List UInt8} {x : α} (hp : ∀ k,Bk (p k) b x) : Bk (fun r=>p r.2 r) b x:=fun q n=>hp n q n

theorem bk_rows1 {α : Type} {most : Nat} {p : Pr α} {enc : α→List UInt8} (l : List α) (hm : l.length≤most) (hl : l.length < 256) (h : ∀ x∈l,Bk p (enc x) x) : Bk (pRows 1 most p) (e1 (l.length : Int) ++ l.flatMap enc) l:=
 bk_at (p:=fun a=>pBind (pU 1) fun n=>if most < n then pFail a 4 else pList p n) fun _=>bk_bind (bk_u1 _ (by omega)) (by
  rw [Int.toNat_natCast,if_neg (by omega)]
  exact bk_list l h)

theorem bk_rows2 {α : Type} {most : Nat} {p : Pr α} {enc : α→List UInt8} (l : List α) (hm : l.length≤most) (hl : l.length < 65536) (h : ∀ x∈l,Bk p (enc x) x) : Bk (pRows 2 most p) (e2 (l.length : Int) ++ l.flatMap enc) l:=
 bk_at (p:=fun a=>pBind (pU 2) fun n=>if most < n then pFail a 4 else pList p n) fun _=>bk_bind (bk_u2 _ (by omega)) (by
  rw [Int.toNat_natCast,if_neg (by omega)]
  exact bk_list l h)

theorem bk_spell {α : Type} {f : List UInt8→α × Int} {s : List UInt8} {x : α} (h : s.length≤255) (hf : f s = (x,0)) : Bk (pSpell f) (eT s) x:=
 bk_at (p:=fun a=>pBind pText fun s=>if (f s).2 = 0 then pDone (f s).1 else pFail a (f s).2) fun _=>bk_last (bk_text s h) (by rw [hf]; rfl)

/-- What of a module finds room in its bytes. -/
structure EnGood (e : En) : Prop where
 kind : 1≤e.1∧e.1≤6
 used : e = usedE e
 text : e.2.1.length≤255
 num : -9223372036854775808≤e.2.2.1∧e.2.2.1≤9223372036854775807
 a : 0≤e.2.2.2.1∧e.2.2.2.1 < 65536
 b : 0≤e.2.2.2.2.1∧e.2.2.2.2.1 < 65536
 c : 0≤e.2.2.2.2.2∧e.2.2.2.2.2 < 65536
structure FdGood (f : Fd) : Prop where
 flags : f.1 = 0∨f.1 = 4
 name : f.2.1.length≤32
 type : tyCheck f.2.2 = 0
structure HdGood (h : Hd) : Prop where
 a : 0≤h.1∧h.1≤1024
 b : 0≤h.2.1∧h.2.1≤1024
 c : 0≤h.2.2.1∧h.2.2.1≤1024
 name : h.2.2.2.length≤32
structure MeGood (m : Me) : Prop where
 flags : m.flags = 0∨m.flags = 2∨m.flags = 4
 name : m.name.length≤32
 sig : sigCheck m.sig.1 m.sig.2.1 m.sig.2.2 = 0
 text : (sgText m.sig).length≤255
 none : m.flags = 2→m.stack = 0∧m.locals = 0∧m.code = []∧m.hands = []
 stack : 0≤m.stack∧m.stack≤64
 locals : 0≤m.locals∧m.locals≤64
 code : m.code.length≤1024
 many : m.hands.length≤32
 hands : ∀ h∈m.hands,HdGood h
structure ClGood (c : Cl) : Prop where
 flags : c.flags = 0∨c.flags = 1∨c.flags = 2
 name : c.name.length≤32
 super : c.super.length≤32
 manyF : c.faces.length≤16
 manyD : c.fields.length≤64
 manyM : c.methods.length≤64
 faces : ∀ s∈c.faces,s.length≤32
 fields : ∀ f∈c.fields,FdGood f
 methods : ∀ m∈c.methods,MeGood m
structure MoGood (m : Mo) : Prop where
 manyP : m.pool.length≤4096
 manyC : m.classes.length≤64
 pool : ∀ e∈m.pool,EnGood e
 classes : ∀ c∈m.classes,ClGood c

theorem tyText_len {t : Ty} (h : tyCheck t = 0) : (tyText t).length≤255:=by
 have hf:=check_fit h
 obtain ⟨h0,h8,h32⟩:=hf
 unfold tyText
 rw [List.length_append,List.length_replicate]
 split
 ·simp
  omega
 ·simp
  omega

theorem bk_entry {e : En} (h : EnGood e) : Bk pEntry (encEn e) e:=by
 obtain ⟨k,s,n,a,b,c⟩:=e
 obtain ⟨hk,hu,ht,hn,ha,hb,hc⟩:=h
 simp only at hk ht hn ha hb hc
 unfold encEn
 refine bk_at (p:=fun a=>pBind (pU 1) fun k=>
  if k = 1 then pBind pText fun s=>pDone (1,s,0,0,0,0)
  else if k = 2 then pBind pN8 fun n=>pDone (2,[],n,0,0,0)
  else if k = 3∨k = 4 then pBind (pU 2) fun a=>pDone ((k : Int),[],0,(a : Int),0,0)
  else if k = 5∨k = 6 then pBind (pU 2) fun a=>pBind (pU 2) fun b=>pBind (pU 2) fun c=>pDone ((k : Int),[],0,(a : Int),(b : Int),(c : Int))
  else pFail a 3) fun at_=>bk_bind (bk_u1 _ (by omega)) ?_
 have ca : ((a.toNat : Nat) : Int) = a:=by omega
 have cb : ((b.toNat : Nat) : Int) = b:=by omega
 have cc : ((c.toNat : Nat) : Int) = c:=by omega
 simp only
 by_cases k1 : k = 1
 ·subst k1
  simp [usedE] at hu
  obtain ⟨rfl,rfl,rfl,rfl⟩:=hu
  simp only [if_true]
  exact bk_last (bk_text s ht) rfl
 by_cases k2 : k = 2
 ·subst k2
  simp [usedE] at hu
  obtain ⟨rfl,rfl,rfl,rfl⟩:=hu
  exact bk_last (bk_n8 n hn) rfl
 have t1 : ¬ k.toNat = 1:=by omega
 have t2 : ¬ k.toNat = 2:=by omega
 by_cases k3 : k = 3∨k = 4
 ·have t3 : k.toNat = 3∨k.toNat = 4:=by omega
  simp [usedE,k1,k2,k3] at hu
  obtain ⟨rfl,rfl,rfl,rfl⟩:=hu
  rw [if_neg t1,if_neg t2,if_pos t3,if_neg k1,if_neg k2,if_pos k3]
  refine bk_last (bk_u2 a ha) ?_
  rw [ca,show ((k.toNat : Nat) : Int) = k by omega]
 ·have t3 : ¬ (k.toNat = 3∨k.toNat = 4):=by omega
  have t5 : k.toNat = 5∨k.toNat = 6:=by omega
  simp [usedE,k1,k2,k3] at hu
  obtain ⟨rfl,rfl⟩:=hu
  rw [if_neg t1,if_neg t2,if_neg t3,if_pos t5,if_neg k1,if_neg k2,if_neg k3]
  refine bk_bind (bk_u2 a ha) (bk_bind (bk_u2 b hb) (bk_last (bk_u2 c hc) ?_))
  rw [ca,cb,cc,show ((k.toNat : Nat) : Int) = k by omega]

theorem bk_field {f : Fd} (h : FdGood f) : Bk pField (encFd f) f:=by
 obtain ⟨k,s,t⟩:=f
 obtain ⟨hk,hs,ht⟩:=h
 simp only at hk hs ht
 refine bk_bind (bk_u1 k (by omega)) (bk_bind (bk_text s (by omega)) (bk_last (bk_spell (tyText_len ht) (type_text ht)) ?_))
 rw [show ((k.toNat : Nat) : Int) = k by omega]

theorem bk_hand {h : Hd} (g : HdGood h) : Bk pHand (encHd h) h:=by
 obtain ⟨a,b,c,s⟩:=h
 obtain ⟨ha,hb,hc,hs⟩:=g
 simp only at ha hb hc hs
 refine bk_bind (bk_u2 a (by omega)) (bk_bind (bk_u2 b (by omega)) (bk_bind (bk_u2 c (by omega)) (bk_last (bk_text s (by omega)) ?_)))
 rw [show ((a.toNat : Nat) : Int) = a by omega,show ((b.toNat : Nat) : Int) = b by omega,show ((c.toNat : Nat) : Int) = c by omega]

theorem bk_method {m : Me} (g : MeGood m) : Bk pMethod (encMe m) m:=by
 obtain ⟨k,s,sg,st,lo,code,hs⟩:=m
 obtain ⟨hk,hn,hg,ht,h2,hst,hlo,hc,hm,hh⟩:=g
 simp only at hk hn hg ht h2 hst hlo hc hm hh
 refine bk_bind (bk_u1 k (by omega)) (bk_bind (bk_text s (by omega)) (bk_bind (bk_spell ht (sig_text hg)) ?_))
 simp only
 by_cases k2 : k = 2
 ·subst k2
  obtain ⟨rfl,rfl,rfl,rfl⟩:=h2 rfl
  simp only [if_true]
  exact bk_done _
 ·rw [if_neg (by omega),if_neg k2]
  refine bk_bind (bk_u1 st (by omega)) (bk_bind (bk_u1 lo (by omega)) (bk_bind (bk_u2 _ (by omega)) (bk_bind (bk_take code (by omega)) (bk_last (bk_rows1 hs (by omega) (by omega) fun h hh'=>bk_hand (hh h hh')) ?_))))
  rw [show ((k.toNat : Nat) : Int) = k by omega,show ((st.toNat : Nat) : Int) = st by omega,show ((lo.toNat : Nat) : Int) = lo by omega]

theorem bk_class {c : Cl} (g : ClGood c) : Bk pClass (encCl c) c:=by
 obtain ⟨k,s,u,fa,fi,me⟩:=c
 obtain ⟨hk,hn,hu,mf,md,mm,hf,hd,hm⟩:=g
 simp only at hk hn hu mf md mm hf hd hm
 unfold encCl
 simp only
 rw [← List.append_assoc (e1 (fa.length : Int)),← List.append_assoc (e1 (fi.length : Int))]
 refine bk_bind (bk_u1 k (by omega)) (bk_bind (bk_text s (by omega)) (bk_bind (bk_text u (by omega)) (bk_bind (bk_rows1 fa (by omega) (by omega) fun x hx=>bk_text x (by have:=hf x hx; omega))
  (bk_bind (bk_rows1 fi (by omega) (by omega) fun x hx=>bk_field (hd x hx)) (bk_last (bk_rows1 me (by omega) (by omega) fun x hx=>bk_method (hm x hx)) ?_)))))
 rw [show ((k.toNat : Nat) : Int) = k by omega]

theorem bk_magic : Bk pMagic magicL ():=bk_last (bk_take magicL rfl) rfl

theorem bk_body {m : Mo} (g : MoGood m) : Bk pBody (encM m) m:=by
 obtain ⟨l,cs⟩:=m
 obtain ⟨mp,mc,hp,hc⟩:=g
 simp only at mp mc hp hc
 unfold encM
 simp only
 rw [← List.append_assoc (e2 (l.length : Int))]
 exact bk_bind bk_magic (bk_bind (bk_rows2 l (by omega) (by omega) fun x hx=>bk_entry (hp x hx)) (bk_last (bk_rows1 cs (by omega) (by omega) fun x hx=>bk_class (hc x hx)) rfl))

/-- What was written, with more behind. -/
theorem module_more {m : Mo} (g : MoGood m) (q : List UInt8) : pModule (encM m ++ q,0) = if q = [] then .inr (m,[],(encM m).length) else .inl (((encM m).length : Int),12):=by
 rw [module_body,bk_body g q 0]
 simp only [pEnd,Nat.zero_add]
 by_cases hq : q = []
 ·subst hq
  simp
 ·rw [if_neg hq,if_neg hq]


theorem firstWrong_zero {l : List En} : ∀ (r : List En) (i : Nat),(firstWrong l r i).2 = 0→∀ e∈r,wrongE l e = 0:=by
 intro r
 induction r with
 | nil=>intro i _ e he; cases he
 | cons x r ih=>
  intro i h e he
  unfold firstWrong at h
  split at h
  ·rename_i hx
   rcases List.mem_cons.1 he with rfl | he
   ·exact hx
   ·exact ih _ h e he
  ·rename_i hx
   exact absurd h hx

theorem text_bound {l : List En} {i : Int} {f : List UInt8→Int} (h : wText l i f = 0) : 0≤i∧i < (l.length : Int):=by
 unfold wText textAt at h
 cases he : enAt l i with
 | none=>rw [he] at h; simp at h
 | some e=>
  obtain ⟨j,hj,rfl,_⟩:=enAt_some he
  omega

theorem class_bound {l : List En} {i : Int} (h : wClass l i = 0) : 0≤i∧i < (l.length : Int):=by
 unfold wClass at h
 split at h
 ·rename_i hh
  obtain ⟨e,he,_⟩:=hasE_kind hh
  obtain ⟨j,hj,rfl,_⟩:=enAt_some he
  omega
 ·cases h

theorem or3_zero {x y z : Int} (h : or3 x y z = 0) : x = 0∧y = 0∧z = 0:=by
 unfold or3 at h
 split at h
 ·rename_i hx
  split at h
  ·rename_i hy
   exact ⟨hx,hy,h⟩
  ·rename_i hy
   exact absurd h hy
 ·rename_i hx
  exact absurd h hx

theorem en_good {l : List En} (hl : l.length≤4096) {e : En} (h : wrongE l e = 0) (hn : -9223372036854775808≤e.2.2.1∧e.2.2.1≤9223372036854775807) : EnGood e:=by
 obtain ⟨k,s,n,a,b,c⟩:=e
 unfold wrongE at h
 simp only at h hn
 split at h
 ·cases h
 rename_i hk
 split at h
 ·cases h
 rename_i hu
 have hu : (k,s,n,a,b,c) = usedE (k,s,n,a,b,c):=Classical.byContradiction fun x=>hu x
 have hk' : 1≤k∧k≤6:=by omega
 by_cases k1 : k = 1
 ·subst k1
  rw [if_pos rfl] at h
  have hs : s.length≤255:=by
   unfold longE at h
   split at h
   ·cases h
   ·omega
  have hu2:=hu
  simp [usedE] at hu2
  obtain ⟨rfl,rfl,rfl,rfl⟩:=hu2
  exact ⟨hk',hu,hs,hn,by simp,by simp,by simp⟩
 rw [if_neg k1] at h
 by_cases k2 : k = 2
 ·subst k2
  have hu2:=hu
  simp [usedE] at hu2
  obtain ⟨rfl,rfl,rfl,rfl⟩:=hu2
  exact ⟨hk',hu,by simp,hn,by simp,by simp,by simp⟩
 rw [if_neg k2] at h
 by_cases k3 : k = 3
 ·subst k3
  rw [if_pos rfl] at h
  have hb:=text_bound h
  have hu2:=hu
  simp [usedE] at hu2
  obtain ⟨rfl,rfl,rfl,rfl⟩:=hu2
  exact ⟨hk',hu,by simp,hn,by simp only; omega,by simp,by simp⟩
 rw [if_neg k3] at h
 by_cases k4 : k = 4
 ·subst k4
  rw [if_pos rfl] at h
  have hb:=text_bound h
  have hu2:=hu
  simp [usedE] at hu2
  obtain ⟨rfl,rfl,rfl,rfl⟩:=hu2
  exact ⟨hk',hu,by simp,hn,by simp only; omega,by simp,by simp⟩
 rw [if_neg k4] at h
 have hu2:=hu
 have k34 : ¬ (k = 3∨k = 4):=by omega
 simp [usedE,k1,k2,k34] at hu2
 obtain ⟨rfl,rfl⟩:=hu2
 by_cases k5 : k = 5
 ·rw [if_pos k5] at h
  obtain ⟨h1,h2,h3⟩:=or3_zero h
  have b1:=class_bound h1
  have b2:=text_bound h2
  have b3:=text_bound h3
  exact ⟨hk',hu,by simp,hn,by simp only; omega,by simp only; omega,by simp only; omega⟩
 ·rw [if_neg k5] at h
  obtain ⟨h1,h2,h3⟩:=or3_zero h
  have b1:=class_bound h1
  have b2:=text_bound h2
  have b3:=text_bound h3
  exact ⟨hk',hu,by simp,hn,by simp only; omega,by simp only; omega,by simp only; omega⟩

theorem method_32 {n : List UInt8} (h : methodOK n = true) : n.length≤32:=by
 unfold methodOK at h
 rw [Bool.or_eq_true] at h
 rcases h with h | h
 ·rw [of_decide_eq_true h]
  decide
 ·exact name_len h

theorem fd_good {a : List Fd} {f : Fd} (h : fieldE a f = 0) : FdGood f:=by
 unfold fieldE at h
 split at h
 ·cases h
 rename_i h1
 split at h
 ·rename_i h2
  split at h
  ·rename_i h3
   exact ⟨by omega,name_len h2,h3⟩
  ·rename_i h3
   exact absurd h h3
 ·cases h

theorem beg_bound {all : List In} {n : Nat} {k : Int} (h : begE all n k = true) : 0≤k∧k < (n : Int):=by
 unfold begE at h
 rw [Bool.and_eq_true,Bool.and_eq_true] at h
 exact ⟨of_decide_eq_true h.1,of_decide_eq_true h.2.1⟩

theorem hd_good {all : List In} {n : Nat} (hn : n≤1024) {x : Hd} (h : handE all n x = 0) : HdGood x:=by
 unfold handE at h
 split at h
 ·cases h
 rename_i h1
 have h1a : begE all n x.1 = true:=by
  cases hb : begE all n x.1 with
  | true=>rfl
  | false=>exact absurd (Or.inl hb) h1
 have h1b : begE all n x.2.1 = true∨x.2.1 = (n : Int):=by
  cases hb : begE all n x.2.1 with
  | true=>exact .inl rfl
  | false=>
   by_cases hq : x.2.1 = (n : Int)
   ·exact .inr hq
   ·exact absurd (Or.inr (Or.inl ⟨hb,hq⟩)) h1
 have b1:=beg_bound h1a
 split at h
 ·rename_i h2
  have b3:=beg_bound h2
  split at h
  ·rename_i h3
   have hb : 0≤x.2.1∧x.2.1≤(n : Int):=by
    rcases h1b with h1b | h1b
    ·have:=beg_bound h1b
     omega
    ·omega
   exact ⟨by omega,by omega,by omega,name_len h3⟩
  ·cases h
 ·cases h

theorem hands_zero {all : List In} {n : Nat} : ∀ (l : List Hd) (i : Nat),(handsE all n i l).2 = 0→∀ x∈l,handE all n x = 0:=by
 intro l
 induction l with
 | nil=>intro i _ x hx; cases hx
 | cons y l ih=>
  intro i h x hx
  unfold handsE at h
  split at h
  ·rename_i h0
   rcases List.mem_cons.1 hx with rfl | hx
   ·exact h0
   ·exact ih _ h x hx
  ·rename_i h0
   exact absurd h h0

theorem code_1024 {code : List UInt8} {l : List En} {locals : Int} (h : (checkI code l locals).2 = 0) : code.length≤1024:=by
 unfold checkI at h
 split at h
 ·cases h
 ·split at h
  ·cases h
  ·omega

theorem me_good {l : List En} {cf : Int} {a : List Me} {m : Me} (h : (methodE l cf a m).2 = 0) : MeGood m:=by
 unfold methodE at h
 split at h
 ·rename_i hh
  split at h
  ·unfold headingE at hh
   split at hh
   ·cases hh
   rename_i hf
   split at hh
   ·rename_i hn
    split at hh
    ·rename_i hs
     split at hh
     ·cases hh
     rename_i hx
     have hx : (sgText m.sig).length≤255:=by unfold sgText; omega
     unfold bodyE at h
     split at h
     ·rename_i h2
      split at h
      ·cases h
      ·rename_i h3
       have c0 : m.code = []:=List.eq_nil_of_length_eq_zero (by omega)
       have d0 : m.hands = []:=List.eq_nil_of_length_eq_zero (by omega)
       exact ⟨by omega,method_32 hn,hs,hx,fun _=>⟨by omega,by omega,c0,d0⟩,by omega,by omega,by rw [c0]; simp,by rw [d0]; simp,by rw [d0]; simp⟩
     ·rename_i h2
      split at h
      ·cases h
      rename_i h3
      split at h
      ·cases h
      split at h
      ·rename_i hc
       have hc:=code_1024 hc
       unfold handlersE at h
       split at h
       ·cases h
       ·rename_i hm
        have:=hands_zero m.hands 0 h
        exact ⟨by omega,method_32 hn,hs,hx,fun e=>absurd e h2,by omega,by omega,hc,by omega,fun x hx=>hd_good hc (this x hx)⟩
      ·rename_i hc
       exact absurd h hc
    ·rename_i hs
     exact absurd hh hs
   ·cases hh
  ·rename_i hf
   exact absurd h hf
 ·rename_i hh
  exact absurd h hh

theorem orE_zero {a b : Bp} (h : (orE a b).2.2.2 = 0) : a.2.2.2 = 0∧b.2.2.2 = 0:=by
 unfold orE at h
 split at h
 ·rename_i ha
  exact ⟨ha,h⟩
 ·rename_i ha
  exact absurd h ha

theorem members_zero {α : Type} {most : Nat} {g : List α→α→Int × Int} {l : List α} (h : (membersE most g l).2.2.2 = 0) : l.length≤most∧∀ x∈l,∃ a,(g a x).2 = 0:=by
 unfold membersE at h
 split at h
 ·cases h
 ·refine ⟨by omega,fun x hx=>?_⟩
  obtain ⟨j,hj,rfl⟩:=List.getElem_of_mem hx
  exact ⟨_,firstE_zero g l [] h j hj⟩

theorem cl_good {l : List En} {c : Cl} (h : (classE l c).2.2.2 = 0) : ClGood c:=by
 unfold classE at h
 obtain ⟨h1,h⟩:=orE_zero h
 obtain ⟨h2,h⟩:=orE_zero h
 obtain ⟨h3,h4⟩:=orE_zero h
 obtain ⟨f1,f2⟩:=members_zero h2
 obtain ⟨d1,d2⟩:=members_zero h3
 obtain ⟨m1,m2⟩:=members_zero h4
 simp only at h1
 unfold headE at h1
 split at h1
 ·cases h1
 rename_i hf
 split at h1
 ·cases h1
 rename_i hn
 have n1 : nameOK c.name = true:=by
  cases hb : nameOK c.name with
  | true=>rfl
  | false=>exact absurd (Or.inl hb) hn
 have n2 : nameOK c.super = true:=by
  cases hb : nameOK c.super with
  | true=>rfl
  | false=>exact absurd (Or.inr hb) hn
 refine ⟨by omega,name_len n1,name_len n2,f1,d1,m1,fun s hs=>?_,fun f hf=>?_,fun m hm=>?_⟩
 ·obtain ⟨a,ha⟩:=f2 s hs
  unfold at0 faceE at ha
  simp only at ha
  split at ha
  ·rename_i hk
   exact name_len hk
  ·cases ha
 ·obtain ⟨a,ha⟩:=d2 f hf
  exact fd_good ha
 ·obtain ⟨a,ha⟩:=m2 m hm
  exact me_good ha

theorem mo_good {m : Mo} (h : (checkM m).2.2.2 = 0) (hn : ∀ e∈m.pool,-9223372036854775808≤e.2.2.1∧e.2.2.1≤9223372036854775807) : MoGood m:=by
 unfold checkM at h
 obtain ⟨h1,h2⟩:=orE_zero h
 simp only at h1
 unfold checkE at h1
 split at h1
 ·cases h1
 rename_i hp
 have hw:=firstWrong_zero m.pool 0 h1
 split at h2
 ·cases h2
 rename_i hc
 obtain ⟨h3,h4⟩:=orE_zero h2
 have hcl:=classesE_zero m.pool m.classes 0 h3
 exact ⟨by omega,by omega,fun e he=>en_good (by omega) (hw e he) (hn e he),fun c hc=>cl_good (hcl c hc)⟩

end Go.Proofs.YtildemmkhndhjaaGreatDoor
