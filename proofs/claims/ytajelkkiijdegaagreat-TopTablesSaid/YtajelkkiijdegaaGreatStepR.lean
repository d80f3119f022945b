/-
  A helper of ours: no claim of its own. Layer 9 (step): the document's side: places, what is told by values, jumps put together.
-/
import Derived.Test.YtajelkkiijdegaaGreatMem
import Derived.RangeFuncNested
import Derived.RangeFuncLeaves
import Derived.OwnWalkIn
import Derived.TacticsInMore
import Derived.LoopNIn
import Derived.LoopIn
import Derived.Shelf.RegionOpen
import Derived.Test.YtajelkkiijdegaaGreatReg
import Derived.Test.YtajelkkiijdegaaGreatStepE
set_option linter.unusedVariables false
set_option linter.unusedSimpArgs false
set_option linter.unusedSectionVars false
set_option maxHeartbeats 64000000
set_option maxRecDepth 100000
namespace Go.Proofs.YtajelkkiijdegaaGreat
open Go.RowKit
structure Stab (B:Nat) (p:World→Prop):Prop where
 ext:∀A C,p A→Ext A C→p C
 put:∀(A:World) (l:Nat) (o o':Obj),p A→B≤l→A.heap[l]? = some o→o.isCells=false→p (A.putObj l o')
section
variable {B:Nat}
theorem Stab.and{p q:World→Prop}(h:Stab B p)(k:Stab B q):Stab B fun W=>p W∧q W :=
 ⟨fun A C x e=>⟨h.ext A C x.1 e,k.ext A C x.2 e⟩,fun A l o o' x hl ho hc=>⟨h.put A l o o' x.1 hl ho hc,k.put A l o o' x.2 hl ho hc⟩⟩
theorem Stab.pure(p:Prop):Stab B fun _=>p:=⟨fun _ _ h _=>h,fun _ _ _ _ h _ _ _=>h⟩
theorem Stab.ex{ι:Sort _}{p:ι→World→Prop}(h:∀i,Stab B (p i)):Stab B fun W=>∃i,p i W :=
 ⟨fun A C ⟨i,x⟩ e=>⟨i,(h i).ext A C x e⟩,fun A l o o' ⟨i,x⟩ hl ho hc=>⟨i,(h i).put A l o o' x hl ho hc⟩⟩
theorem Stab.all{ι:Sort _}{p:ι→World→Prop}(h:∀i,Stab B (p i)):Stab B fun W=>∀i,p i W :=
 ⟨fun A C x e i=>(h i).ext A C (x i) e,fun A l o o' x hl ho hc i=>(h i).put A l o o' (x i) hl ho hc⟩
theorem put_grown(A:World)(l:Nat)(o:Obj):A.grownBy (A.putObj l o) (some l):=grownBy_putObj' A l o
theorem put_block{A:World}{l k:Nat}{o o' p:Obj}(ho:A.heap[l]? = some o)(hc:o.isCells=false)(hk:A.heap[k]? = some p)(hp:p.isCells=true):(A.putObj l o').heap[k]? = some p :=
 ((put_grown A l o').block k (lt_of_block hk) (fun e=>by
   obtain rfl:k=l:=Option.some.inj e
   rw[hk] at ho
   rw[Option.some.inj ho,hc] at hp
   cases hp)).trans hk
theorem put_ext{W0 A:World}(h:Ext W0 A){l:Nat}(hl:W0.heap.size≤l)(o:Obj):Ext W0 (A.putObj l o) :=
 ext_grown h (put_grown A l o) fun k e=>by obtain rfl:l=k:=Option.some.inj e;exact hl
theorem Stab.of_ext{W0:World}(h:W0.heap.size≤B):Stab B (Ext W0) :=
 ⟨fun A C x e=>x.trans e,fun A l o o' x hl _ _=>put_ext x (Nat.le_trans h hl) o'⟩
theorem Stab.ob(b:Nat)(T:TypeId)(vs:List Value):Stab B fun W=>Ob W b T vs :=
 ⟨fun A C x e=>x.ext e,fun A l o o' x _ ho hc=>put_block ho hc x rfl⟩
theorem cell_put{A:World}{l:Nat}{o o':Obj}(ho:A.heap[l]? = some o)(hc:o.isCells=false){a:Addr}{v:Value}(h:A.cell? a=some v):(A.putObj l o').cell? a=some v :=
 cell_kept h (put_grown A l o') fun r e=>by obtain rfl:l=r:=Option.some.inj e;exact⟨o,ho,hc⟩
theorem Stab.own(base e size:Nat)(v:Value)(n:Nat)(xs:List Value):Stab B fun W=>W.ownsRow base e size v n xs :=
 ⟨fun A C x h=>own_ext x h,fun A l o o' x _ ho hc=>ownsRow_putObj x o' ho hc⟩
theorem Stab.sl(S:List Nat)(sz:Nat)(v:Value)(n:Nat)(xs:List Value):Stab B fun W=>Sl W S sz v n xs :=
 ⟨fun A C x h=>x.ext h,fun A l o o' ⟨a,cap,e,h1,h2,h3,h4⟩ _ ho hc=>⟨a,cap,e,h1,h2,h3,h4.imp id fun ⟨b,p,e',hb,hcell⟩=>⟨b,p,e',hb,fun j u hu=>cell_put ho hc (hcell j u hu)⟩⟩⟩
theorem keeps_fr{S:List Nat}{W W':World}(h:Fr S W W')(hc:∀b∈S,∃T vs,Ob W b T vs):KeepsFrom B W W' :=
 ⟨h.size,fun k o _ hk ho=>(h.block k (lt_of_block hk) (fun hm=>by
  obtain⟨T,vs,hb⟩:=hc k hm
  unfold Ob at hb
  rw[hb] at hk
  rw[←Option.some.inj hk] at ho
  cases ho)).trans hk⟩
theorem below_fr{S:List Nat}{n₀:Nat}{W W':World}(h:Fr S W W')(hn:n₀≤W.heap.size)(hS:∀b∈S,n₀≤b):Below n₀ W W' :=
 ⟨h.os,h.tape,h.output,h.size,fun k hk=>h.block k (by omega) fun hm=>by have:=hS k hm;omega⟩
end
def Seqs{β:Type}(P:Program)(n₀:Nat)(g:Nat)(lb:Array Value)(H:β→Array Value→World→Prop)(xs:List β)(w:World):Prop :=
 ∀(l:Nat) (J Jx:Nat→World→Prop) (W:World),Ext w W→(∀k A C,J k A→Ext A C→J k C)→(∀k A C,Jx k A→Ext A C→Jx k C) →
  (∀k x vs W1,xs[k]? = some x→J k W1→H x vs W1→YieldAt Fence.wide 0 P l vs W1 fun e W' =>
   (e= .returned (.bool true)∧J (k+1) W'∧Below n₀ W1 W')∨(e= .returned (.bool false)∧Jx (k+1) W')) →
  J 0 W→Calls P g (#[.func (.yield l) #[] #[]]++lb) W fun e W'=>(∃v,e= .returned v)∧(J xs.length W'∨∃k,k≤xs.length∧Jx k W')
def rfPost(B n₀:Nat)(I:Nat→World→Prop)(Ix:Code→Nat→World→Prop)(k:Nat)(W:World):Exit→Act→World→Prop
 | .normal,_,W'=>KeepsFrom B W W'∧Below n₀ W W'∧I k W'
 | .ret,_,W'=>KeepsFrom B W W'∧Ix .ret k W'
 | .exit id,_,W'=>KeepsFrom B W W'∧Ix (.exit id) k W'
 | .goto t,_,W'=>KeepsFrom B W W'∧Ix (.goto t) k W'
 | .panic _,_,_=>False
 | .outgrown,_,_=>False
theorem keeps_ext{B:Nat}{W W':World}(h:Ext W W'):KeepsFrom B W W':=keeps_fr (S:=[]) (Fr.of_ext h) (by simp)
section
variable {β:Type} {P:Program} {g:Operand} {ps:Array Tmp} {assign body:Code} {Q:Exit→Act→World→Prop} {a:Act} {w w0:World} {gf n₀:Nat} {lb:Array Value} {H:β→Array Value→World→Prop} {xs:List β}
theorem wp_range(hg:a.eval g= .func (.func gf) #[] lb)(eg:∀args w,(callFunc gf args).run P w= .ok (.enter gf args) w)
 (hseq:Seqs P n₀ gf lb H xs w0) (hb0:Ext w0 w) (hn:n₀≤w.heap.size) (hps:∀x vs W,H x vs W→vs.size=ps.size) (hH:∀x vs,Stab w.heap.size (H x vs))
 (I:Nat→World→Prop) (Ix:Code→Nat→World→Prop) (hI:∀k,Stab w.heap.size (I k)) (hIx:∀c k,Stab w.heap.size (Ix c k)) (h0:I 0 w)
 (Ax:Nat→β→Array Value→Act→World→Prop) (hAx:∀k x vs a',Stab w.heap.size (Ax k x vs a'))
 (hassign:∀(l k:Nat) (x:β) (vs:Array Value) (W:World) (K:Act→World→Prop),I k W→H x vs W→(∀a' W',Ext W W'→Ax k x vs a' W'→K a' W') →
  assign.wpIn (Fence.wide.inRound l) 0 P (Exit.then K fun _ _ _=>False) { tmps:=(ps.zip vs).foldl (fun t (p,v)=>t.setIfInBounds p v) a.tmps,defers:=[]} W)
 (hbody:∀(l k:Nat) (x:β) (vs:Array Value) (a':Act) (W:World),xs[k]? = some x→I k W→H x vs W→Ax k x vs a' W →
  body.wpIn (Fence.wide.inRound l) 0 P (rfPost w.heap.size n₀ I Ix (k+1) W) a' W)
 (hdone:∀(D:Nat) (W:World),w.heap.size≤D→I xs.length W→W.heap[D]? = some (.deferred (some []))→Q .normal { a with defers:={ target:= .collected D,args:= #[]}::a.defers} W)
 (hstop:∀(D:Nat) (c:Code) (k:Nat) (W:World),w.heap.size≤D→k≤xs.length→Ix c k W→W.heap[D]? = some (.deferred (some []))→c.wp P Q { a with defers:={ target:= .collected D,args:= #[]}::a.defers} W) :
 (Code.rangeFunc g ps assign body).wp P Q a w:=by
 refine (wpIn_wide (n:=0)).1 (wpIn_rangeFunc fun fn _=>?_)
 obtain⟨B,hBe⟩:∃B,B=w.heap.size:=⟨_,rfl⟩
 rw[←hBe] at hn hH hI hIx hAx hbody hdone hstop
 -- the loop's record
 let rc:LoopState→Option Code→Loop:=fun st pe=>{ state:=st,pending:=pe,fn,tmps:=a.tmps,params:=ps,assign,body,defers:=B}
 have hW1:∃W1,W1=(w.alloc (.deferred (some []))).alloc (.loop (rc .ready none)):=⟨_,rfl⟩
 obtain⟨W1,hW1⟩:=hW1
 have hXW:Ext w W1:=by rw[hW1];exact ((Ext.refl w).alloc _).alloc _
 have hlp:W1.heap[B+1]? = some (.loop (rc .ready none)):=by
  have:=World.alloc_heap_new (w.alloc (.deferred (some []))) (.loop (rc .ready none))
  rw[World.size_alloc,←hBe,←hW1] at this;exact this
 have hdf:W1.heap[B]? = some (.deferred (some [])):=by
  have h1:=World.alloc_heap_new w (.deferred (some []))
  rw[←hBe] at h1
  rw[hW1]
  exact (Below.heap_alloc _ _ _ (lt_of_block h1)).trans h1
 refine⟨B+1,[{ target:= .collected B,args:= #[]}],W1,{ target:= .fn (.func gf) lb,args:= #[.func (.yield (B+1)) #[] #[]]},W1,gf, #[.func (.yield (B+1)) #[] #[]]++lb,W1,?_,?_,fun _ _=>trivial,?_,fun h=>by simp[Fence.wide] at h,callsIn_wide.2 ?_⟩
 ·have h1:=run_enterLoop_outer (P:=P) (w:=w) fn a.tmps ps assign body
  rw[←hBe] at h1
  rw[hW1]
  exact h1
 ·simp only[resolve,hg]
  simp[go_sem]
 ·simp[invoke,go_sem,eg]
 have keep:∀ {A C:World} {k:Nat} {o:Obj},A.heap[k]? = some o→Ext A C→C.heap[k]? = some o:=fun h e=>(e.block _ (lt_of_block h)).trans h
 refine (hseq (B+1) (fun k W=>I k W∧W.heap[B+1]? = some (.loop (rc .ready none))∧W.heap[B]? = some (.deferred (some [])))
  (fun k W=>∃c,Ix c k W∧W.heap[B+1]? = some (.loop (rc .done (some c)))∧W.heap[B]? = some (.deferred (some []))) W1 (hb0.trans hXW)
  (fun k A C h e=>⟨(hI k).ext A C h.1 e,keep h.2.1 e,keep h.2.2 e⟩)
  (fun k A C ⟨c,h1,h2,h3⟩ e=>⟨c,(hIx c k).ext A C h1 e,keep h2 e,keep h3 e⟩) ?_ ⟨(hI 0).ext _ _ h0 hXW,hlp,hdf⟩).mono ?_
 · -- a round
   rintro k x vs W hx ⟨hi,hl,hd⟩ hh
   refine⟨fn,_,assign,body,run_yield hl (hps x vs W hh),roundIn_of_wpIn trivial (hassign _ k x vs W _ hi hh fun a' Wa hXa hax=>?_)⟩
   have hl1:=keep hl hXa
   have hd1:=keep hd hXa
   have hlt:=lt_of_block hl1
   refine⟨_,run_beginRound hl1 rfl,?_⟩
   obtain⟨Wb,hWb⟩:∃Wb,Wb=Wa.putObj (B+1) (.loop { rc .ready none with state:= .busy}):=⟨_,rfl⟩
   have hl2:Wb.heap[B+1]? = some (.loop { rc .ready none with state:= .busy}):=by rw[hWb];exact World.putObj_heap_same hlt
   have hd2:Wb.heap[B]? = some (.deferred (some [])):=by rw[hWb];exact (World.putObj_heap_other (by omega)).trans hd1
   have lift:∀ {p:World→Prop},Stab B p→p Wa→p Wb:=fun hp h=>by rw[hWb];exact hp.put _ _ _ _ h (by omega) hl1 rfl
   have hBw:Below n₀ W Wb:=by
    have h1:Below n₀ W Wa:=below_fr (S:=[]) (Fr.of_ext hXa) (by have:=lt_of_block hl;omega) (by simp)
    rw[hWb]
    exact h1.trans (belowK_b (w:=w) (by omega) _ _ _ _ (by omega) hl1 rfl rfl)
   rw[←hWb]
   refine wpIn_mono (hbody _ k x vs a' Wb hx (lift (hI k) ((hI k).ext _ _ hi hXa)) (lift (hH x vs) ((hH x vs).ext _ _ hh hXa)) (lift (hAx k x vs a') hax)) ?_
   have fin:∀(jump:Option Code) (W3:World),KeepsFrom B Wb W3→∃W4,(Instr.endRound (B+1) jump).run P W3= .ok (.bool jump.isNone) W4 ∧
    (∀p:World→Prop,Stab B p→p W3→p W4)∧W4.heap[B+1]? = some (.loop (rc (if jump.isNone then .ready else .done) jump))∧W4.heap[B]? = some (.deferred (some []))∧Below n₀ W3 W4:=by
    intro jump W3 hk
    have hl3:=hk.same _ _ (by omega) hl2 rfl
    have hd3:=hk.same _ _ (Nat.le_refl _) hd2 rfl
    exact⟨_,run_endRound jump hl3,fun p hp h=>hp.put _ _ _ _ h (by omega) hl3 rfl,World.putObj_heap_same (lt_of_block hl3),(World.putObj_heap_other (by omega)).trans hd3,belowK_b (w:=w) (by omega) _ _ _ _ (by omega) hl3 rfl rfl⟩
   rintro e a3 W3 hp
   cases e with
   |normal =>
    obtain⟨hk3,hb3,hi3⟩:=hp
    obtain⟨W4,hr,hs,h4,h5,h6⟩:=fin none W3 hk3
    exact⟨_,W4,hr, .inl ⟨rfl,⟨hs _ (hI _) hi3,h4,h5⟩,(hBw.trans hb3).trans h6⟩⟩
   |ret =>
    obtain⟨hk3,hi3⟩:=hp
    obtain⟨W4,hr,hs,h4,h5, -⟩:=fin (some .ret) W3 hk3
    exact⟨_,W4,hr, .inr ⟨rfl, .ret,hs _ (hIx _ _) hi3,h4,h5⟩⟩
   |exit id =>
    obtain⟨hk3,hi3⟩:=hp
    obtain⟨W4,hr,hs,h4,h5, -⟩:=fin (some (.exit id)) W3 hk3
    exact⟨_,W4,hr, .inr ⟨rfl, .exit id,hs _ (hIx _ _) hi3,h4,h5⟩⟩
   |goto t =>
    obtain⟨hk3,hi3⟩:=hp
    obtain⟨W4,hr,hs,h4,h5, -⟩:=fin (some (.goto t)) W3 hk3
    exact⟨_,W4,hr, .inr ⟨rfl, .goto t,hs _ (hIx _ _) hi3,h4,h5⟩⟩
   |panic ch=>exact hp.elim
   |outgrown=>exact hp.elim
 · -- behind it
   rintro e W2 ⟨⟨v,rfl⟩,⟨hi,hl,hd⟩|⟨k,hk,c,hi,hl,hd⟩⟩
   ·exact⟨none,_,run_endLoop hl (by intro h;cases h),hdone B _ (Nat.le_refl _) ((hI _).put _ _ _ _ hi (by omega) hl rfl) ((World.putObj_heap_other (by omega)).trans hd)⟩
   ·exact⟨some c,_,run_endLoop hl (by intro h;cases h),wpIn_wide.2 (hstop B c k _ (Nat.le_refl _) hk ((hIx c k).put _ _ _ _ hi (by omega) hl rfl) ((World.putObj_heap_other (by omega)).trans hd))⟩
end
theorem calls_marks{P:Program}{f:FuncId}{fn:Func}{c:Code}{args:Array Value}{w:World}{R:Ending→World→Prop}(hf:P.funcs[f]? = some fn)(hb:fn.body=some c)
 (h:c.wp P (bodyPostM Fence.wide 0 P fn R) { tmps:=args++Array.replicate (fn.ntmps-args.size) undef,defers:=[]} w):Calls P f args w R :=
 (callsIn_wide (n:=0)).1 (callsIn_of_wp_marks hf hb trivial (wpIn_wide.2 h) rfl)
theorem in_round{P:Program}{l n:Nat}{f:FuncId}{args:Array Value}{w:World}{R:Ending→World→Prop}(h:Calls P f args w R):CallsIn (Fence.wide.inRound l) n P f args w R:=CallsIn.inRound l (callsIn_wide.2 h)
theorem ret_mark{P:Program}{fn:Func}{R:Ending→World→Prop}{tmps:Array Value}{D:Nat}{W:World}{v:Value}(hK:W.heap[D]? = some (.deferred (some [])))
 (hr:(results fn tmps).run P (W.putObj D (.deferred none))= .ok v (W.putObj D (.deferred none))) (hR:R (.returned v) (W.putObj D (.deferred none))) :
 bodyPostM Fence.wide 0 P fn R .ret { tmps:=tmps,defers:=[{ target:= .collected D,args:= #[]}]} W :=
 ⟨by simp, .inl ⟨D,_,rfl,run_takeDeferred hK,v,hr,hR⟩⟩
theorem wide_depth:Fence.wide.depth=none:=rfl
theorem wide_fn(f:FuncId):Fence.wide.fn f=True:=rfl
theorem seq_gi{P:Program}{l n:Nat}{f:FuncId}{args:Array Value}{w:World}{v:Value}{R:Ending→World→Prop}(h:Calls P f args w fun e w'=>e= .returned v∧Ext w w')
 (hr:∀g:GW w,R (.returned v) g.val):CallsIn (Fence.wide.inRound l) n P f args w R:=in_round (seq_gw h hr)
theorem ob_put{A:World}{l:Nat}{o o':Obj}(ho:A.heap[l]? = some o)(hc:o.isCells=false){b:Nat}{T:TypeId}{vs:List Value}(h:Ob A b T vs):Ob (A.putObj l o') b T vs:=put_block ho hc h rfl
section
variable {P:Program} {ops:Array Oper} {Φ:Nat→Value→World→Prop} {Q:Exit→Act→World→Prop} {a:Act} {W:World}
theorem cntF_pos:∀(l:List Bool) (i:Nat),l[i]? = some false→0<cntF l:=by
 intro l i h
 have:=cntF_set l i h
 omega
theorem cntF_some:∀(l:List Bool),0<cntF l→∃i:Nat,l[i]? = some false:=by
 intro l h
 refine Classical.byContradiction fun hn=>?_
 have:∀l:List Bool,(∀i:Nat,l[i]? ≠ some false)→cntF l=0:=by
  intro l
  induction l with
  |nil=>intro _;rfl
  |cons b r ih =>
   intro hb
   have h0:=hb 0
   have hr:=ih fun i=>by have:=hb (i+1);simpa using this
   cases b
   ·simp at h0
   ·simpa [cntF] using hr
 have:=this l fun i e=>hn ⟨i,e⟩
 omega
theorem wpAny_facts_tail{n:Nat}(hA:acycB ops=true)(hD:dstsB ops a.tmps.size=true)(hn:n<ops.size)(hs:Region.sinkB .any ops n=true)(hc:Region.chainB .any ops n=true)
 (hq:Region.seqB .any ops (ops.size-n) n (Array.replicate n true++Array.replicate (ops.size-n) false)=true)
 (hst:∀i v w w',Φ i v w→Ext w w'→Φ i v w')
 (hstep:∀i o,i<n→ops[i]? = some o→∀b w,RAt ops Φ a W i b w→(∀t,t∉dstsOf (ops.toList.take n).toArray→b.tmps.getD t undef=a.tmps.getD t undef)→RGood P ops Φ Q i o b w)
 (hend:∀b w,Ext W w→b.defers=a.defers→b.tmps.size=a.tmps.size→(∀t,t∉dstsOf ops→b.tmps.getD t undef=a.tmps.getD t undef) →
  (∀j o d,j<n→ops[j]? = some o→o.dst=some d→Φ j (b.tmps.getD d undef) w)→(∀t,t∉dstsOf (ops.toList.take n).toArray→b.tmps.getD t undef=a.tmps.getD t undef)→wpList P ops Q (ops.toList.drop n) b w) :
 ∀(f:Nat) (listed:Array Bool) (b:Act) (w:World),RInv ops Φ a W listed b w→(∀t,t∉dstsOf (ops.toList.take n).toArray→b.tmps.getD t undef=a.tmps.getD t undef)→HeadInv .any ops n listed→cntF (listed.toList.take n)=f→wpAny P .any ops Q (f+(ops.size-n)) listed b w:=by
 intro f
 induction f with
 |zero =>
  intro listed b w I I2 H hcn
  have hl:∀j,j<n→listed.getD j false=true:=by
   intro j hj
   have hjl:j<listed.size:=by have:=I.len;omega
   have e1:=getD_some (l:=listed) (d:=false) hjl
   cases h:listed.getD j false with
   |true=>rfl
   |false =>
    rw[h] at e1
    have:=cntF_pos (listed.toList.take n) j (by rw[List.getElem?_take,if_pos hj];simpa using e1)
    omega
  have hle:listed=Array.replicate n true++Array.replicate (ops.size-n) false:=by
   have hlen:=I.len
   apply Array.ext
   ·simp;omega
   ·intro i h1 h2
    by_cases hi:i<n
    ·have:=hl i hi
     have e1:=getD_some (l:=listed) (d:=false) h1
     rw[this,Array.getElem?_eq_getElem h1] at e1
     rw[Option.some.inj e1,Array.getElem_append_left (by simpa using hi)];simp
    ·have:=H.tail i (by omega) (by omega)
     have e1:=getD_some (l:=listed) (d:=true) h1
     rw[this,Array.getElem?_eq_getElem h1] at e1
     rw[Option.some.inj e1,Array.getElem_append_right (by simp;omega)];simp
  have hd:(ops.toList.drop n).length=ops.size-n:=by simp
  rw[Nat.zero_add,←hd]
  refine wpAny_of_seq (md:= .any) (ops.toList.drop n) n listed b w (fun j=>by simp[List.getElem?_drop]) (by rw[hd,hle];exact hq) ?_
  exact hend b w I.ext I.defers I.size I.else_ (fun j o d hj ho hd=>I.fact j o d ho (hl j hj) hd) I2
 |succ f ih =>
  intro listed b w I I2 H hcn
  obtain⟨i0,hi0⟩:=cntF_some (listed.toList.take n) (by omega)
  have hi0n:i0<n:=by
   rcases Nat.lt_or_ge i0 n with h|h
   ·exact h
   ·rw[List.getElem?_take,if_neg (by omega)] at hi0;cases hi0
  have hun0:listed.getD i0 true=false:=by
   rw[List.getElem?_take,if_pos hi0n] at hi0
   rw[Array.getD_eq_getD_getElem?]
   simp at hi0
   rw[hi0];rfl
  rw[show f+1+(ops.size-n)=(f+(ops.size-n))+1 by omega]
  refine⟨fun hr=>?_,fun i hi=>?_⟩
  ·have:=all_listed hA I.len hr i0 (by omega)
   have hjl:i0<listed.size:=by have:=I.len;omega
   have e1:=getD_some (l:=listed) (d:=false) hjl
   have e2:=getD_some (l:=listed) (d:=true) hjl
   rw[e1] at e2;have e3:=Option.some.inj e2;rw[this,hun0] at e3;cases e3
  ·have hin:i<n:=by
    rcases Nat.lt_or_ge i n with h|h
    ·exact h
    ·exact absurd hi (tail_waits hs hc hn H _ i0 rfl hi0n hun0 i h)
   obtain⟨h1,o,ho,hdep⟩:=mem_ready.1 hi
   have hj:=(Array.getElem?_eq_some_iff.1 ho).1
   have hjl:i<listed.size:=by have:=I.len;omega
   have hat:RAt ops Φ a W i b w:=⟨I.ext,I.defers,I.size,I.else_,fun j p d hd hp hpd=>I.fact j p d hp (by
    unfold depB at hd;rw[ho] at hd
    obtain⟨k,hk,he⟩:=Array.any_eq_true.1 hd
    simp only[Bool.and_eq_true,beq_iff_eq] at he
    have:=hdep _ (Array.getElem_mem hk) he.1
    rwa [he.2] at this) hpd⟩
   have hget:(listed.toList.take n)[i]? = some false:=by
    rw[List.getElem?_take,if_pos hin]
    have e2:=getD_some (l:=listed) (d:=true) hjl
    rw[h1] at e2;simpa using e2
   have hcnt:cntF ((listed.setIfInBounds i true).toList.take n)=f:=by
    have:=cntF_set _ i hget
    simp only[Array.toList_setIfInBounds,List.take_set];omega
   have go:∀(v:Value) (w':World),Φ i v w'→Ext w w'→wpAny P .any ops Q (f+(ops.size-n)) (listed.setIfInBounds i true) (b.put o.dst v) w':=by
    intro v w' hv hx
    refine ih _ _ _ ⟨I.ext.trans hx,put_defers.trans I.defers,put_size.trans I.size,by simpa using I.len,fun t ht=>?_,fun j p d hp hl hd=>?_⟩ ?_ (H.set hi hin) hcnt
    ·rw[put_other,I.else_ t ht]
     intro e
     exact ht (List.mem_filterMap.2 ⟨o,by rw[Array.mem_toList_iff];exact Array.mem_of_getElem? ho,e⟩)
    ·have hds:d<b.tmps.size:=by
      rw[I.size]
      have:=List.all_eq_true.1 (Bool.and_eq_true_iff.1 hD).1 d (List.mem_filterMap.2 ⟨p,by rw[Array.mem_toList_iff];exact Array.mem_of_getElem? hp,hd⟩)
      simpa using this
     by_cases hij:i=j
     ·subst hij
      rw[ho] at hp;cases hp
      rw[hd,put_same hds];exact hv
     ·have hl':listed.getD j false=true:=by
       rw[Array.getD_eq_getD_getElem?,Array.getElem?_setIfInBounds,if_neg hij] at hl
       rw[Array.getD_eq_getD_getElem?];exact hl
      have hpj:=(Array.getElem?_eq_some_iff.1 hp).1
      have hne:o.dst≠some d:=by
       intro e
       have h2:=List.all_eq_true.1 (List.all_eq_true.1 (Bool.and_eq_true_iff.1 hD).2 i (List.mem_range.2 hj)) j (List.mem_range.2 hpj)
       simp[hij,ho,hp,e,hd] at h2
      rw[put_other hne]
      exact hst _ _ _ _ (I.fact j p d hp hl' hd) hx
    ·intro t ht
     rw[put_other,I2 t ht]
     intro e
     refine ht (List.mem_filterMap.2 ⟨o,?_,e⟩)
     rw[Array.mem_toList_iff]
     refine Array.mem_of_getElem? (i:=i) ?_
     rw[List.getElem?_toArray,List.getElem?_take,if_pos hin];simpa using ho
   unfold wpOp
   rcases hstep i o hin ho b w hat I2 with ⟨hw,hwp⟩|⟨hw,hv⟩
   ·simp only[ho,hw,if_true]
    left
    refine Oper.wp_mono ?_ hwp
    rintro b' w' ⟨v,rfl,hv,hx⟩
    exact go v w' hv hx
   ·simp only[ho,hw]
    exact go undef w hv (Ext.refl w)
theorem wp_region_list_tail{id:Nat}{w:World}(n:Nat)(L:List Fact)(hm:P.follows .mixedOrders=true)(hA:acycB ops=true)(hD:dstsB ops a.tmps.size=true)
 (hn:decide (n<ops.size)=true) (hs:Region.sinkB .any ops n=true) (hc:Region.chainB .any ops n=true) (hq:Region.seqB .any ops (ops.size-n) n (Array.replicate n true++Array.replicate (ops.size-n) false)=true)
 (hstep:RSteps (fun k o=>∀b w',RAt ops (factsOf L) a w k b w'→(∀t,t∉dstsOf (ops.toList.take n).toArray→b.tmps.getD t undef=a.tmps.getD t undef)→RGood P ops (factsOf L) Q k o b w') 0 (ops.toList.take n))
 (hend:∀b w',Ext w w'→b.defers=a.defers→b.tmps.size=a.tmps.size→(∀t,t∉dstsOf (ops.toList.take n).toArray→b.tmps.getD t undef=a.tmps.getD t undef) →
  (∀j o d,j<n→ops[j]? = some o→o.dst=some d→factsOf L j (b.tmps.getD d undef) w')→wpList P ops Q (ops.toList.drop n) b w'):(Code.region id ops true).wp P Q a w:=by
 have hn':=of_decide_eq_true hn
 refine wp_region_any hm ?_
 have:=wpAny_facts_tail (P:=P) (Φ:=factsOf L) (Q:=Q) (W:=w) hA hD hn' hs hc hq (fun i v w w' h hx=>Fact.stays _ v w w' h hx) (fun i o hi ho b w' h hE=>by
  have:=RSteps.get 0 (ops.toList.take n) hstep i o (by rw[List.getElem?_take,if_pos hi];simpa using ho) b w'
  rw[Nat.zero_add] at this
  exact this h hE) (fun b w' h1 h2 h3 _ h5 h6=>hend b w' h1 h2 h3 h6 h5) n (Array.replicate ops.size false) a { w with drawn:=w.drawn+1} ⟨(Ext.refl w).drew,rfl,rfl,by simp,fun _ _=>rfl,fun j o d ho hl _=>?_⟩ (fun _ _=>rfl)
  ⟨by simp,fun j oj _ hl=>(by rw[getD_replicate_false] at hl;cases hl),fun t _ ht=>getD_in (by simpa using ht) (getD_replicate_false _ _)⟩ (by
   rw[Array.toList_replicate,List.take_replicate,cntF_rep];omega)
 ·rwa [show n+(ops.size-n)=ops.size by omega] at this
 ·rw[getD_replicate_false] at hl;cases hl
theorem good_grow{i:Nat}{o:Oper}{b:Act}{w w':World}{v:Value}(hg:Region.wanted o (yielded ops b.tmps)=true)(hr:(execOp b.eval o).run P w= .ok (.value v) w')(hΦ:Φ i v w')(hx:Ext w w'):RGood P ops Φ Q i o b w :=
 .inl ⟨hg,by unfold Oper.wp;rw[hr];exact⟨v,rfl,hΦ,hx⟩⟩
end
end Go.Proofs.YtajelkkiijdegaaGreat
namespace Go.Proofs.YtajelkkiijdegaaGreat
open Go.RowKit
attribute [local go_sem] GW.cell GW.frozen In.eq_true In.le_true In.ne In.ne' In.ne_add In.ne_add' In.lt_add Upto.le_true Upto.le_add Upto.lt_add
def zc(l:List Int):List Value:=l.map fun x=> .int .i64 x
theorem zc_append(l m:List Int):zc (l++m)=zc l++zc m:=by simp[zc]
theorem tZ:ElemT Tryz.prog 275 3 (.int .i64 0) 1 8:=ElemT.mk' Tryz.underlying275 (by kernel_rfl) rfl (by omega)
theorem buildJ1(x:Jp)(w:World):(Instr.buildSlice 122 1 #[(0,jm x)]).run Tryz.prog w= .ok (.slice (some ⟨w.heap.size,0,none⟩) 1 1) (w.alloc (.cells #[.int .i64 x.1, .int .i64 x.2] 178)):=by
 simp[go_sem]
def oneJ(x:Jp):Fact:= .st (fun u w=>Jw w [] u [x]) (fun _ _ _ h k=>Sl.ext h k)
theorem oneJ_new(x:Jp)(w:World):Jw (w.alloc (.cells #[.int .i64 x.1, .int .i64 x.2] 178)) [] (.slice (some ⟨w.heap.size,0,none⟩) 1 1) [x] :=
 Sl.own (World.ownsRow_lit (base:=w.heap.size) (e:=178) (size:=2) w #[.int .i64 x.1, .int .i64 x.2] 1 (Nat.le_refl _) (by decide) rfl) (by simp)
end Go.Proofs.YtajelkkiijdegaaGreat
