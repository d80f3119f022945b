/-
  A helper of ours: no claim of its own. Layer 9 (step): jumps put together, by the code.
-/
import Derived.Test.YtajelkkiijdegaaGreatStepR
import Derived.Test.YtajelkkiijdegaaGreatStepE
import Derived.Test.YtajelkkiijdegaaGreatSort
import Derived.StillTail
import Derived.Lib.SliceRun
set_option linter.unusedVariables false
set_option linter.unusedSimpArgs false
set_option linter.unusedSectionVars false
set_option maxHeartbeats 64000000
set_option maxRecDepth 100000
namespace Go.Proofs.YtajelkkiijdegaaGreat
open Go.RowKit
def onlyN(Q:Exit→Act→World→Prop):Exit→Act→World→Prop
 | .normal,a,w=>Q .normal a w
 |_,_,_=>False
theorem onlyN_out{Q:Exit→Act→World→Prop}(h:LetsOut (onlyN Q)):False:=by obtain⟨a,w,h⟩:=h;exact h
def noDefer(o:Oper):Bool:=match o.op with | .defer _=>false|_=>true
theorem noDefer_spec{o:Oper}(h:noDefer o=true):∀c,o.op≠ .defer c:=fun c e=>by unfold noDefer at h;rw[e] at h;cases h
section
variable {P:Program} {l n:Nat} {ops:Array Oper} {Q:Exit→Act→World→Prop}
theorem opIn_of_op{o:Oper}{a:Act}{w:World}{K:Act→World→Prop}(hd:noDefer o=true)(h:o.wp P a w K (onlyN Q)):o.wpIn (Fence.wide.inRound l) n P a w K Q:=by
 unfold Oper.wpIn
 refine⟨fun _ _=>trivial,?_⟩
 rw[show (Fence.wide.inRound l).round=some l from rfl,Oper.semAt_some l _ _ (noDefer_spec hd)]
 unfold Oper.wp at h
 generalize (execOp a.eval o).run P w=r at *
 cases r with
 |ok x w' =>
  cases x<;>simp only[Oper.upon,Oper.uponIn] at h ⊢
  all_goals first
   |exact h
   |exact⟨fun h=>by simp[Fence.wide] at h,in_round (h.mono fun e w'' he=>by
     cases e with
     |returned v=>exact he
     |panicked ch=>exact he.elim
     |outgrown=>exact (onlyN_out he).elim)⟩
   |exact⟨fun h=>by simp[Fence.wide] at h,fun c cs _=>let ⟨v,w',r,s⟩:=h c cs;⟨v,w',r,stepsIn_wide.2 s⟩⟩
 |halt x w' =>
  cases x<;>simp only[Oper.upon,Oper.uponIn] at h ⊢
  all_goals first
   |exact h.elim
   |exact h
theorem anyIn_of_any(hd:∀(i:Nat) (o:Oper),ops[i]? = some o→noDefer o=true):∀(f:Nat) (listed:Array Bool) (a:Act) (w:World),wpAny P .any ops (onlyN Q) f listed a w→wpAnyIn (Fence.wide.inRound l) n P .any ops Q f listed a w
 |0,listed,a,w,h=>h
 |f+1,listed,a,w,h=>by
  refine⟨fun hr=>h.1 hr,fun i hi=>?_⟩
  have h2:=h.2 i hi
  unfold wpOp at h2
  unfold wpOpIn
  split
  ·rename_i ho
   simp only[ho] at h2
   exact anyIn_of_any hd f _ _ _ h2
  ·rename_i o ho
   simp only[ho] at h2
   split
   ·rename_i hw
    simp only[hw,if_true] at h2
    rcases h2 with h2|⟨_,h2⟩
    ·exact opIn_of_op (hd i o ho) (Oper.wp_mono (fun a w hk=>anyIn_of_any hd f _ a w hk) h2)
    ·exact (onlyN_out h2).elim
   ·rename_i hw
    simp only[hw] at h2
    exact⟨fun _ _=>trivial,anyIn_of_any hd f _ _ _ h2⟩
end
section
variable {P:Program} {ops:Array Oper} {Q:Exit→Act→World→Prop} {a:Act}
theorem wpIn_region_list_tail{l m id:Nat}{w:World}(n:Nat)(L:List Fact)(hdf:ops.toList.all noDefer=true)(hm:P.follows .mixedOrders=true)(hA:acycB ops=true)(hD:dstsB ops a.tmps.size=true)
 (hn:decide (n<ops.size)=true) (hs:Region.sinkB .any ops n=true) (hc:Region.chainB .any ops n=true) (hq:Region.seqB .any ops (ops.size-n) n (Array.replicate n true++Array.replicate (ops.size-n) false)=true)
 (hstep:RSteps (fun k o=>∀b w',RAt ops (factsOf L) a w k b w'→(∀t,t∉dstsOf (ops.toList.take n).toArray→b.tmps.getD t undef=a.tmps.getD t undef)→RGood P ops (factsOf L) (onlyN Q) k o b w') 0 (ops.toList.take n))
 (hend:∀b w',Ext w w'→b.defers=a.defers→b.tmps.size=a.tmps.size→(∀t,t∉dstsOf (ops.toList.take n).toArray→b.tmps.getD t undef=a.tmps.getD t undef) →
  (∀j o d,j<n→ops[j]? = some o→o.dst=some d→factsOf L j (b.tmps.getD d undef) w')→wpList P ops (onlyN Q) (ops.toList.drop n) b w'):(Code.region id ops true).wpIn (Fence.wide.inRound l) m P Q a w:=by
 have hn':=of_decide_eq_true hn
 have hd:∀(i:Nat) (o:Oper),ops[i]? = some o→noDefer o=true:=fun i o ho=>List.all_eq_true.1 hdf o (List.mem_of_getElem? (by rw[Array.getElem?_toList];exact ho))
 refine wpIn_region_any hm (anyIn_of_any hd _ _ _ _ ?_)
 have:=wpAny_facts_tail (P:=P) (Φ:=factsOf L) (Q:=onlyN Q) (W:=w) hA hD hn' hs hc hq (fun i v w w' h hx=>Fact.stays _ v w w' h hx) (fun i o hi ho b w' h hE=>by
  have:=RSteps.get 0 (ops.toList.take n) hstep i o (by rw[List.getElem?_take,if_pos hi];simpa using ho) b w'
  rw[Nat.zero_add] at this
  exact this h hE) (fun b w' h1 h2 h3 _ h5 h6=>hend b w' h1 h2 h3 h6 h5) n (Array.replicate ops.size false) a { w with drawn:=w.drawn+1} ⟨(Ext.refl w).drew,rfl,rfl,by simp,fun _ _=>rfl,fun j o d ho hl _=>?_⟩ (fun _ _=>rfl)
  ⟨by simp,fun j oj _ hl=>(by rw[getD_replicate_false] at hl;cases hl),fun t _ ht=>getD_in (by simpa using ht) (getD_replicate_false _ _)⟩ (by
   rw[Array.toList_replicate,List.take_replicate,cntF_rep];omega)
 ·rwa [show n+(ops.size-n)=ops.size by omega] at this
 ·rw[getD_replicate_false] at hl;cases hl
end
end Go.Proofs.YtajelkkiijdegaaGreat
namespace Go.Proofs.YtajelkkiijdegaaGreat
open Go.RowKit
attribute [local go_sem] GW.cell GW.frozen In.eq_true In.le_true In.ne In.ne' In.ne_add In.ne_add' In.lt_add Upto.le_true Upto.le_add Upto.lt_add
def cmpI(a b:Int):Int:=if a<b then -1 else if b<a then 1 else 0
theorem isNaN_c(a:Int)(w:World):Calls Tryz.prog 158 #[.int .i64 a] w fun e w'=>e= .returned (.bool false)∧w=w':=by
 go_enter Tryz.func158,Tryz.ntmps158
 go_wp2_with fail
 go_returns
 exact⟨by simp,rfl⟩
theorem jcompare_c(a b:Int)(w:World):Calls Tryz.prog 102 #[.int .i64 a, .int .i64 b] w fun e w'=>e= .returned (.int .i64 (cmpI a b))∧w=w':=by
 have h1:=fun x w=>isNaN_c x w
 unfold cmpI
 rcases Int.lt_trichotomy a b with h|h|h
 ·rw[if_pos h]
  go_enter Tryz.func102,Tryz.ntmps102
  go_wp2_with (go_at_call 158;refine (h1 _ _).mono ?_;rintro ee w' ⟨rfl,rfl⟩)
  go_returns
  exact⟨rfl,rfl⟩
 ·subst h
  rw[if_neg (by omega),if_neg (by omega)]
  go_enter Tryz.func102,Tryz.ntmps102
  go_wp2_with (go_at_call 158;refine (h1 _ _).mono ?_;rintro ee w' ⟨rfl,rfl⟩)
  go_returns
  exact⟨rfl,rfl⟩
 ·rw[if_neg (by omega),if_pos h]
  have d:decide (a<b)=false:=by rw[decide_eq_false_iff_not];omega
  go_enter Tryz.func102,Tryz.ntmps102
  go_wp2_with (go_at_call 158;refine (h1 _ _).mono ?_;rintro ee w' ⟨rfl,rfl⟩)
  go_returns
  exact⟨rfl,rfl⟩
theorem byTime_c(x y:Jp)(W:World):Calls Tryz.prog 169 #[jm x,jm y] W fun e w'=>e= .returned (.int .i64 (cmpI x.1 y.1))∧∃q os',w'=Go.Sort.grow (W.drewN q) os':=by
 have hc:=fun w=>jcompare_c x.1 y.1 w
 generalize cmpI x.1 y.1=r at *
 obtain⟨xp,xn⟩:=x
 obtain⟨yp,yn⟩:=y
 go_enter Tryz.func169,Tryz.ntmps169
 go_wp2_with (go_at_call 102;refine (hc _).mono ?_;rintro ee w' ⟨rfl,rfl⟩)
 go_returns
 exact⟨rfl,0,_,by rw[Go.Sort.alloc_eq_grow,Go.Sort.alloc_eq_grow,Go.Sort.grow_grow];rfl⟩
def encJ(x:Jp):List Value:=[.int .i64 x.1, .int .i64 x.2]
theorem lt_cmp(x y:Jp):Go.Proofs.ltOf (fun a b:Jp=>cmpI a.1 b.1) x y=decide (x.1<y.1):=by
 unfold Go.Proofs.ltOf cmpI
 by_cases h1:x.1<y.1
 ·simp[h1]
 ·by_cases h2:y.1<x.1<;>simp[h1,h2]
theorem swo_time:Go.Sort.SWO (Go.Proofs.ltOf fun a b:Jp=>cmpI a.1 b.1) where
 irrefl x:=by rw[lt_cmp];simp
 trans x y z h1 h2:=by rw[lt_cmp] at *;simp at *;omega
 ntrans x y z h1 h2:=by rw[lt_cmp] at *;simp at *;omega
theorem flat_ps(l:List Jp):Go.Sort.flatK encJ 2 l.toArray=(ps l).toArray:=by
 apply Array.ext
 ·simp[ps_length]
 ·intro t h1 h2
  have ht:t<l.length*2:=by simpa using h1
  have hi:t / 2<l.length:=by omega
  obtain⟨g0,g1⟩:=ps_get l (t / 2) l[t / 2] (List.getElem?_eq_getElem hi)
  have e:=Go.Sort.get_flatK encJ 2 l.toArray t (by simpa using ht)
  rw[getElem!_pos _ t h1] at e
  have e2:l.toArray[t / 2]! = l[t / 2]:=by rw[getElem!_pos l.toArray (t / 2) (by simpa using hi)];simp
  rw[e,e2]
  have h2':t<(ps l).length:=by rw[ps_length];exact ht
  have e3:(ps l).toArray[t]=(ps l)[t]:=by simp
  rw[e3]
  rcases (by omega:t=t / 2*2∨t=t / 2*2+1) with e|e
  ·have:(ps l)[t]? = some (.int .i64 l[t / 2].1):=by rw[←g0];exact congrArg _ e
   rw[List.getElem?_eq_getElem h2'] at this
   rw[Option.some.inj this,show t % 2=0 by omega];rfl
  ·have:(ps l)[t]? = some (.int .i64 l[t / 2].2):=by rw[←g1];exact congrArg _ e
   rw[List.getElem?_eq_getElem h2'] at this
   rw[Option.some.inj this,show t % 2=1 by omega];rfl
theorem take_put(cur:Array Value)(xs:List Value)(h:xs.length≤cur.size):(Go.Sort.putCells id 0 xs.toArray cur).toList.take xs.length=xs:=by
 apply List.ext_getElem?
 intro j
 by_cases hj:j<xs.length
 ·rw[List.getElem?_take_of_lt hj,Array.getElem?_toList]
  simp[Go.Sort.putCells,hj,show j<cur.size by omega]
 ·rw[List.getElem?_take_eq_none (by omega),List.getElem?_eq_none (by omega)]
theorem heap_put{w:World}{g n:Nat}{os:Array Obj}{cur:Array Value}{e:TypeId}{fr:Nat×Nat}(d:Array Value)(hb:w.heap[g]? = some (.cells cur e fr)) :
 (Go.Sort.grow (Go.Sort.putRow id (Go.Sort.ahead w n) g 0 d) os).heap[g]? = some (.cells (Go.Sort.putCells id 0 d cur) e fr):=by
 have hg:g<w.heap.size:=(Array.getElem?_eq_some_iff.1 hb).1
 rw[Go.Sort.heap_grow_old _ _ (by simpa using hg)]
 simp[Go.Sort.putRow,Go.Sort.mapBlock,Go.Sort.ahead,Array.getElem?_modify,hb,Go.Sort.onCells]
theorem grownBy_put{w:World}{g n:Nat}{os:Array Obj}(d:Array Value):w.grownBy (Go.Sort.grow (Go.Sort.putRow id (Go.Sort.ahead w n) g 0 d) os) (some g):=by
 refine⟨rfl,rfl,rfl,by simp,fun k hk hne=>?_⟩
 rw[Go.Sort.heap_grow_old _ _ (by simpa using hk)]
 have:g≠k:=fun e=>hne (by rw[e])
 simp[Go.Sort.putRow,Go.Sort.mapBlock,Go.Sort.ahead,Array.getElem?_modify,this]
theorem sort_c(W0:World)(l:List Jp)(v:Value)(w:World)(h:OwnJ w W0.heap.size v l)(hX:Ext W0 w)(hn:l.length≤8192):Calls Tryz.prog 168 #[v, .func (.func 169) #[] #[]] w fun e w' =>
 e= .returned (.tuple #[])∧∃s:List Jp,s.Perm l∧s.Pairwise (fun a b=>a.1≤b.1)∧OwnJ w' W0.heap.size v s∧Ext W0 w':=by
 rcases h.2 with ⟨rfl,h0⟩|⟨g,cap,cur,rfl,hb,hg,hnc,hcm,hcs,ht⟩
 ·obtain rfl:l=[]:=List.eq_nil_of_length_eq_zero (by simpa using h0)
  have hc:=AnyF.slices_SortFunc_none Tryz.sortJ none 0 (.func (.func 169) #[] #[]) w
  refine hc.mono ?_
  rintro e w' ⟨rfl,rfl⟩
  exact⟨rfl,[],List.Perm.refl _,List.Pairwise.nil,h,hX⟩
 ·have eg:∀args w,(callFunc 169 args).run Tryz.prog w= .ok (.enter 169 args) w:=enters_of Tryz.func169 (by kernel_rfl) rfl
  have hH:Go.Sort.HoldsK encJ 2 w g 0 l.toArray:=by
   unfold Go.Sort.HoldsK
   rw[flat_ps]
   intro j hj
   have hj':j<l.length*2:=by rw[←ps_length];simpa using hj
   have h1:=World.ownsRow.cellAt h j hj'
   have h2:=World.ownsRow.frozenAt h j
   rw[Nat.zero_add]
   refine⟨?_,h2⟩
   rw[h1,getElem!_pos _ j hj]
   simp[List.getElem?_eq_getElem (show j<(ps l).length by rw[ps_length];exact hj')]
  have hcon:=AnyQ.slices_SortFunc Tryz.sortJ 2 Tryz.isAgg178 Tryz.sizeOf178 encJ (fun _=>rfl) (fun x v hv=>by simp[encJ] at hv;rcases hv with rfl|rfl<;>rfl) (fun a b:Jp=>cmpI a.1 b.1) swo_time 169 #[] g 0 cap l.toArray w eg (fun _ _ _ _ x y=>byTime_c x y _) hH (lt_of_block hg) (by simp;omega)
  have hsz:l.toArray.size=l.length:=by simp
  rw[hsz] at hcon
  refine hcon.mono ?_
  rintro e w' ⟨rfl,d',n,os,hp,hs,rfl⟩
  obtain⟨p1,_,p3⟩:=hp
  have hd:d'.size=l.length:=by rw[p1,hsz]
  have e1:d'.extract 0 l.length=d':=by rw[←hd];simp
  have e2:l.toArray.extract 0 l.length=l.toArray:=by rw[←hsz];simp
  rw[e1,e2] at p3
  have hl:d'.toList.length=l.length:=by rw[Array.length_toList];exact hd
  have hflat:Go.Sort.flatK encJ 2 d'=(ps d'.toList).toArray:=by have:=flat_ps d'.toList;rwa [Array.toArray_toList] at this
  have hgr:w.grownBy (Go.Proofs.sortWorldK encJ 2 w g 0 n d' os) (some g):=by
   unfold Go.Proofs.sortWorldK Go.Sort.putRowK;exact grownBy_put _
  have hB:W0.heap.size≤g:=hb
  refine⟨rfl,d'.toList,by simpa using p3,?_,?_,ext_grown hX hgr (fun k hk=>by cases hk;exact hB)⟩
  ·rw[List.pairwise_iff_getElem]
   intro i j hi hj hij
   have:=hs i j (Nat.zero_le _) hij (by rw[hl] at hj;exact hj)
   rw[lt_cmp,decide_eq_false_iff_not,getElem!_pos d' j (by simpa using hj),getElem!_pos d' i (by simpa using hi)] at this
   simp only[Array.getElem_toList]
   omega
  ·refine⟨by rw[ps_length], .inr ⟨g,cap,Go.Sort.putCells id 0 (ps d'.toList).toArray cur,by rw[hl],hb,?_,by rw[hl];exact hnc,hcm,by simp[Go.Sort.putCells,hcs],?_⟩⟩
   ·unfold Go.Proofs.sortWorldK Go.Sort.putRowK
    rw[hflat]
    exact heap_put _ hg
   ·have:=take_put cur (ps d'.toList) (by rw[ps_length,hl,hcs];exact Nat.mul_le_mul_right _ hnc)
    rwa [ps_length] at this
theorem ps_set(l:List Jp)(i:Nat)(x:Jp)(hi:i<l.length):ps (l.set i x)=((ps l).set (i*2) (.int .i64 x.1)).set (i*2+1) (.int .i64 x.2):=by
 induction l generalizing i with
 |nil=>simp at hi
 |cons a r ih =>
  rcases i with _|i
  ·simp[ps]
  ·have:=ih i (by simpa using hi)
   rw[List.set_cons_succ,show ps (a::r.set i x)= .int .i64 a.1:: .int .i64 a.2::ps (r.set i x) from rfl,this,show ps (a::r)= .int .i64 a.1:: .int .i64 a.2::ps r from rfl,show (i+1)*2=i*2+1+1 by omega,show i*2+1+1+1=i*2+1+1+1 from rfl]
   rfl
theorem ps_set_last(m:List Jp)(y:Jp)(z:Int):(ps (m++[y])).set (m.length*2+1) (.int .i64 z)=ps (m++[(y.1,z)]):=by
 induction m with
 |nil=>simp[ps]
 |cons a r ih =>
  rw[List.cons_append,List.cons_append,show ps (a::(r++[y]))= .int .i64 a.1:: .int .i64 a.2::ps (r++[y]) from rfl,show ps (a::(r++[(y.1,z)]))= .int .i64 a.1:: .int .i64 a.2::ps (r++[(y.1,z)]) from rfl,←ih,List.length_cons,show (r.length+1)*2+1=r.length*2+1+1+1 by omega]
  rfl
theorem ps_last(m:List Jp)(y:Jp):(ps (m++[y]))[m.length*2]? = some (.int .i64 y.1)∧(ps (m++[y]))[m.length*2+1]? = some (.int .i64 y.2):=ps_get _ m.length y (by simp)
theorem own_block{w:World}{B:Nat}{v:Value}{l:List Jp}(h:OwnJ w B v l)(hne:l≠[]):∃g cap,v= .slice (some ⟨g,0,none⟩) l.length cap∧B≤g∧g<w.heap.size:=by
 have hpos:=List.length_pos_iff.2 hne
 rcases h.2 with ⟨_,hz⟩|⟨g,cap,cur,rfl,hb,hg,hn,hc,hcs,ht⟩
 ·omega
 ·exact⟨g,cap,rfl,hb,lt_of_block hg⟩
theorem addedUp_c(s:List Jp)(hs:s.Pairwise fun a b=>a.1≤b.1)(hb:∀j∈s, -1048576≤j.2∧j.2≤1048576)(hn:s.length≤8192)(v:Value)(w:World)(h:Jw w [] v s):Calls Tryz.prog 171 #[v] w fun e w'=>∃v',e= .returned v'∧OwnJ w' w.heap.size v' (addup s)∧Ext w w':=by
 obtain⟨A,cap,rfl,hl,hm,hat⟩:=jw_form h
 unfold maxLen at hm
 replace hat:=hide hat
 have hnI:(s.length:Int)≤8192:=by omega
 have hnd:=hide hn
 have hbd:=hide hb
 have hsd:=hide hs
 clear h hb hs
 obtain⟨R,hR⟩:∃R,R=addup s:=⟨_,rfl⟩
 rw[←hR]
 replace hR:=hide hR
 go_enter Tryz.func171,Tryz.ntmps171
 go_wp2_with fail
 go_loopg [3,9] s.length (fun gh u i wr=>∃(k:Nat) (acc:List Jp),i= .int .i64 k∧k+gh=s.length∧OwnJ wr w.heap.size u acc∧acc.length≤k∧Hid (acc=addup (s.take k))∧Ext w wr)
 case atStart=>exact⟨0,[],rfl,by omega,World.ownsRow_nil _ _ _ _,Nat.le_refl _,rfl,Ext.refl w⟩
 case round =>
  obtain⟨k,acc,rfl,hk,ho,hak,hacc,hX⟩:=hrel
  have hzX:=hX.size
  by_cases hlt:k<s.length
  ·obtain⟨x,hx⟩:∃x,s[k]? = some x:=⟨_,List.getElem?_eq_getElem hlt⟩
   obtain⟨b,o,rfl, -,hbl,c0,c1⟩:=hat.out k x hx
   have k0:=jcell_later hX c0
   have k1:=jcell_later hX c1
   have hbr:b<wr.heap.size:=block_lt_of_cell k0
   haveI:In b wr:=⟨hbr⟩
   obtain⟨n1,n2⟩:=hbd.out x (List.mem_of_getElem? hx)
   have hnx:addup (s.take (k+1))=addS acc x:=by rw[take_snoc hx,addup_snoc,hacc.out]
   have hinv:=addup_inv 1048576 (by omega) (s.take k).length (s.take k) rfl (hsd.out.sublist (List.take_sublist _ _)) (fun j hj=>hbd.out j (List.mem_of_mem_take hj))
   rw[←hacc.out] at hinv
   have hbacc:∀j∈acc, -8589934592≤j.2∧j.2≤8589934592:=fun j hj=>by
    have h1:=hinv.2.2.2 j hj
    have h2:(s.take k).length≤8192:=by rw[List.length_take];have:=hnd.out;omega
    omega
   clear hinv c0 c1 hx hacc
   obtain⟨xp,xn⟩:=x
   simp only at n1 n2 k0 k1
   rcases snoc_cases acc with rfl|⟨m,y,rfl⟩
   ·rw[addS_nil] at hnx
    replace hnx:=hide hnx
    obtain⟨C,ccap,rfl⟩:=own_form ho
    replace ho:=hide ho
    clear hbacc
    go_wp2_with fail
    go_quiet (fail)
    go_wp2_with (at_builtin;(refine wpl_app tJmp rfl (.tmp 38) (.tmp 40) rfl rfl (own_ext ho.out ((((Ext.refl wr).alloc _).drewN _).alloc _)) rfl (src_jmpAt Tryz.underlying122 _ _ (by simp) (xp,xn) _) (by unfold maxLen;simp only[List.length_nil];omega) (by simp only[List.length_nil];omega) (by simp;omega) ?_;intro v7 w7 ho7 hg7 _))
    go_roundg (s.length-(k+1))
    case measure=>omega
    case rel=>exact⟨k+1,[(xp,xn)],by go_num,by omega,(by have:=own_appJ (l:=[]) ho7;simpa using this),by simp,hnx.out.symm,ext_grown (((hX.alloc _).drewN _).alloc _) hg7 (fun k hk=>(ho.out.lt k hk).1)⟩
   ·obtain⟨g,ccap,rfl,hgB,hgl⟩:=own_block ho (by simp)
    unfold OwnJ at ho
    rw[show (m++[y]).length=m.length+1 by simp] at ho ⊢
    haveI:In g wr:=⟨hgl⟩
    obtain⟨q0,q1⟩:=ps_last m y
    have y0:=(World.ownsRow.cellAt ho (m.length*2) (show m.length*2<(m.length+1)*2 by omega)).trans q0
    have y1:=(World.ownsRow.cellAt ho (m.length*2+1) (show m.length*2+1<(m.length+1)*2 by omega)).trans q1
    have yf:=World.ownsRow.frozenAt ho (m.length*2+1)
    obtain⟨z1,z2⟩:=hbacc y (by simp)
    obtain⟨q,hq⟩:∃q,q=m.length:=⟨_,rfl⟩
    have hak':q+1≤k:=by rw[List.length_append,List.length_singleton] at hak;omega
    rw[←hq] at y0 y1 yf ⊢
    have hqI:(q:Int)<(q:Int)+1:=by omega
    have hq64:q<9223372036854775808:=by omega
    have hqh:=hide hq
    replace ho:=hide ho
    clear hq hak q0 q1 hbacc
    obtain⟨yp,yn⟩:=y
    simp only at z1 z2 y0 y1
    by_cases hyx:yp=xp
    ·subst hyx
     rw[addS_same m (yp,yn) (yp,xn) rfl] at hnx
     simp only at hnx
     replace hnx:=hide hnx
     have hwq:IntKind.i64.wrap (yn+xn)=yn+xn:=by simp[IntKind.wrap,IntKind.bits,IntKind.signed];omega
     go_wp2_with fail
     go_quiet (fail)
     go_wp2_with fail
     refine wp_region_gw_tail 10 (by kernel_rfl) (by kernel_rfl) ?_
     simp only[List.take_succ_cons,List.take_zero,List.drop_succ_cons,List.drop_zero]
     repeat (go_big_quiet_step (fail))
     refine wpQuiet_nil ?_
     intro g7
     clear hwq
     go_wp2_with fail
     go_roundg (s.length-(k+1))
     case measure=>omega
     case rel =>
      have hX7:=(((Ext.refl wr).alloc (.cells #[.int .i64 yp, .int .i64 xn] 178)).drewN nq).trans g7.grown
      have ho7:=(World.ownsRow.stored (own_ext ho.out hX7) (m.length*2+1) (.int .i64 (yn+xn))).1
      rw[ps_set_last] at ho7
      refine⟨k+1,m++[(yp,yn+xn)],by go_num,by omega,?_,by rw[List.length_append,List.length_singleton,←hqh.out];omega,hnx.out.symm,(hX.trans hX7).setCell hgB _⟩
      unfold OwnJ
      rw[List.length_append,List.length_singleton,←hqh.out]
      rw[←hqh.out] at ho7
      exact ho7
    ·have hyb:(yp == xp)=false:=by simp[hyx]
     rw[addS_other m (yp,yn) (xp,xn) hyx] at hnx
     replace hnx:=hide hnx
     replace hyx:=hide hyx
     go_wp2_with fail
     go_quiet (fail)
     go_wp2_with (at_builtin;(refine wpl_app tJmp rfl (.tmp 38) (.tmp 40) rfl rfl (own_ext (show OwnJ wr w.heap.size (.slice (some ⟨g,0,none⟩) (q+1) ccap) (m++[(yp,yn)]) by unfold OwnJ;rw[List.length_append,List.length_singleton];rw[hqh.out];exact ho.out) ((((Ext.refl wr).alloc _).drewN _).alloc _)) rfl (src_jmpAt Tryz.underlying122 _ _ (by simp) (xp,xn) _) (by unfold maxLen;rw[List.length_append,List.length_singleton,←hqh.out];omega) (by rw[List.length_append,List.length_singleton,←hqh.out];omega) (by simp;omega) ?_;intro v7 w7 ho7 hg7 _))
     go_roundg (s.length-(k+1))
     case measure=>omega
     case rel=>exact⟨k+1,m++[(yp,yn)]++[(xp,xn)],by go_num,by omega,own_appJ ho7,by rw[List.length_append,List.length_append,List.length_singleton,List.length_singleton,←hqh.out];omega,hnx.out.symm,ext_grown (((hX.alloc _).drewN _).alloc _) hg7 (fun k hk=>by cases hk;exact hgB)⟩
  ·have hk':k=s.length:=by omega
   have hge:(s.length:Int)≤k:=by omega
   have hR2:Hid (R=acc):=by show _=_;have:=hacc.out;rw[hk',List.take_length] at this;rw[hR.out];exact this.symm
   replace hk':=hide hk'
   clear hacc hR
   obtain⟨C,ccap,rfl⟩:=own_form ho
   replace ho:=hide ho
   go_wp2_with fail
   go_returns
   rw[hR2.out]
   exact⟨_,rfl,ho.out,hX⟩
theorem run_clear_cells{P:Program}(w:World)(t e ty:TypeId)(z:Value)(zs:List Value)(ht:P.underlying t=some (.slice e))(hv:∀w,(zeroValue e).run P w= .ok z w)(b o n c:Nat)(hn:0<n)(hz:(Builtin.zeroCells z.cells n).toList=zs)(h1:∀v∈zs,v.oneCell'=true)
 (hc:∀j,j<zs.length→(w.cell? ⟨b,o+j,none⟩).isSome=true) (hf:∀j,j<zs.length→w.frozen? ⟨b,o+j,none⟩=false) :
 (Builtin.clear_ #[t] ty #[.slice (some ⟨b,o,none⟩) n c]).run P w= .ok (.tuple #[]) (w.setCells b o zs):=by
 have hst:=run_storeCells_cells (P:=P) b o zs 0 w (by simpa using hc) (by simpa using hf) h1
 simp only[Nat.add_zero] at hst
 obtain⟨m,rfl⟩:∃m,n=m+1:=⟨n-1,by omega⟩
 simp[Builtin.clear_,run_underlying ht,hv,hz,hst]
theorem own_take{w:World}{B e:Nat}{g n i cap size:Nat}{xs:List Value}(h:w.ownsRow B e size (.slice (some ⟨g,0,none⟩) n cap) n xs)(hi:i≤n):w.ownsRow B e size (.slice (some ⟨g,0,none⟩) i cap) i (xs.take (i*size)):=by
 rcases h.2 with ⟨h',_⟩|⟨g',cap',cur,h',hb,hg,hnc,hcm,hcs,htake⟩
 ·simp at h'
 ·simp only[Value.slice.injEq,Option.some.injEq,Addr.mk.injEq,and_true,true_and] at h'
  obtain⟨rfl,rfl⟩:=h'
  have hm:i*size≤n*size:=Nat.mul_le_mul_right _ hi
  refine⟨by rw[List.length_take,h.1,Nat.min_eq_left hm], .inr ⟨g,cap,cur,rfl,hb,hg,by omega,hcm,hcs,?_⟩⟩
  rw[←htake,List.take_take,Nat.min_eq_left hm]
theorem own_setCells{w0:World}{B e:Nat}{g i cap size:Nat}{xs:List Value}:∀(vs:List Value) (o:Nat) (w:World),w.ownsRow B e size (.slice (some ⟨g,0,none⟩) i cap) i xs→i*size≤o→(w.setCells g o vs).ownsRow B e size (.slice (some ⟨g,0,none⟩) i cap) i xs
 |[],_,_,h,_=>h
 |v::r,o,w,h,ho=>by
  have h1:=(World.ownsRow.stored h o v).1
  rw[List.set_eq_of_length_le (by rw[h.1];exact ho)] at h1
  exact own_setCells (w0:=w0) r (o+1) _ h1 (by omega)
theorem ext_setCells{W:World}{g:Nat}(hg:W.heap.size≤g):∀(vs:List Value) (o:Nat) (w:World),Ext W w→Ext W (w.setCells g o vs)
 |[],_,_,h=>h
 |v::r,o,w,h=>ext_setCells hg r (o+1) _ (h.setCell hg v)
def filt(l:List Jp):List Jp:=l.filter fun j=> !dropJ j
theorem filt_next{l:List Jp}{k:Nat}{x:Jp}(hx:l[k]? = some x):filt (l.take (k+1))=if dropJ x=true then filt (l.take k) else filt (l.take k)++[x]:=by
 unfold filt
 rw[take_snoc hx,List.filter_append]
 cases h:dropJ x<;>simp[h]
theorem idx_none:∀(l:List Jp) (k:Nat),jidxP dropJ k l= -1→filt l=l
 |[],_,_=>rfl
 |x::r,k,h=>by
  unfold jidxP at h
  cases hx:dropJ x
  ·rw[hx] at h
   have:=idx_none r (k+1) (by simpa using h)
   unfold filt at this ⊢
   rw[List.filter_cons,hx]
   simp only[Bool.not_false,if_true]
   rw[this]
  ·rw[hx,if_pos rfl] at h;omega
theorem idx_some:∀(l:List Jp) (k:Nat),jidxP dropJ k l≠ -1→∃i,jidxP dropJ k l=((k+i:Nat):Int)∧i<l.length∧filt (l.take i)=l.take i∧∃x,l[i]? = some x∧dropJ x=true
 |[],_,h=>absurd rfl h
 |x::r,k,h=>by
  unfold jidxP at h ⊢
  cases hx:dropJ x
  ·rw[hx] at h
   simp only[Bool.false_eq_true,if_false] at h ⊢
   obtain⟨i,h1,h2,h3,h4⟩:=idx_some r (k+1) h
   refine⟨i+1,by rw[h1];congr 1;omega,by simp;omega,?_,by simpa using h4⟩
   rw[List.take_succ_cons]
   unfold filt at h3 ⊢
   rw[List.filter_cons,hx]
   simp only[Bool.not_false,if_true]
   rw[h3]
  ·exact⟨0,by simp,by simp,rfl,x,rfl,hx⟩
theorem delete_c(W0:World)(l:List Jp)(v:Value)(w:World)(h:OwnJ w W0.heap.size v l)(hX0:Ext W0 w)(hn:l.length≤8192):Calls Tryz.prog 170 #[v, .func (.func 172) #[] #[]] w fun e w' =>
 ∃v',e= .returned v'∧OwnJ w' W0.heap.size v' (filt l)∧Ext W0 w':=by
 have hidx:=hide (indexDrop_c l v w (own_jw (S:=[]) h (by simp)))
 by_cases hi:jidxP dropJ 0 l= -1
 ·rw[hi] at hidx
  have hf:=hide (idx_none l 0 hi)
  obtain⟨A,cap,rfl⟩:=own_form h
  replace h:=hide h
  clear hi
  go_enter Tryz.func170,Tryz.ntmps170
  go_wp2_with (go_at_call 225;(with_reducible refine seq_gw hidx.out ?_);intro g)
  go_returns
  rw[hf.out]
  exact⟨_,rfl,own_ext h.out g.grown,hX0.trans g.grown⟩
 ·obtain⟨i0,h1,h2,h3,x0,h4,h5⟩:=idx_some l 0 hi
  rw[h1,Nat.zero_add] at hidx
  have hne:l≠[]:=by intro e;rw[e] at h2;simp at h2
  obtain⟨g,cap,rfl,hgB,hgl⟩:=own_block h hne
  have hstart:Hid (filt (l.take (i0+1))=l.take i0):=by show _=_;rw[filt_next h4,if_pos h5,h3]
  have hnI:(l.length:Int)≤8192:=by omega
  have hi0I:¬(i0:Int)= -1:=by omega
  have hi0b:((i0:Int) == -1)=false:=by rw[beq_eq_false_iff_ne];omega
  obtain⟨R,hR⟩:∃R,R=filt l:=⟨_,rfl⟩
  rw[←hR]
  have hcap:l.length≤cap∧cap≤9223372036854775807:=by
   rcases h.2 with ⟨h',_⟩|⟨g',cap',cur,h',hb,hg,hnc,hcm,hcs,htake⟩
   ·simp at h'
   ·simp only[Value.slice.injEq] at h'
    obtain⟨_,_,rfl⟩:=h'
    unfold maxLen at hcm
    exact⟨hnc,by omega⟩
  obtain⟨hc1,hc2⟩:=hcap
  replace hR:=hide hR
  replace h:=hide h
  clear hi h1 h3 h4 h5 hne
  obtain⟨n,hln⟩:∃n,n=l.length:=⟨_,rfl⟩
  have hlnh:=hide hln
  rw[←hln] at hidx h2 hnI hc1 ⊢
  clear hln hn
  go_enter Tryz.func170,Tryz.ntmps170
  go_wp2_with (go_at_call 225;(with_reducible refine seq_gw hidx.out ?_);intro q)
  have hstartO:Hid (∃_:Unit,q.val.ownsRow W0.heap.size 178 2 (.slice (some ⟨g,0,none⟩) n cap) n (ps l)):=⟨(),by have:=own_ext h.out q.grown;unfold OwnJ at this;rw[←hlnh.out] at this;exact this⟩
  go_loopg [5,6] (n-(i0+1)) (fun gh u i wr=>∃(j k:Nat) (cur:List Jp),u= .int .i64 j∧i= .int .i64 k∧k+gh=n∧j<k∧Hid (cur.length=n)∧Hid (wr.ownsRow W0.heap.size 178 2 (.slice (some ⟨g,0,none⟩) n cap) n (ps cur))∧Hid (cur.take j=filt (l.take k))∧Hid (cur.drop k=l.drop k)∧Ext W0 wr)
  case atStart =>
   obtain⟨_,ho0⟩:=hstartO.out
   exact⟨i0,i0+1,l,rfl,by go_num,by omega,by omega,hlnh.out.symm,ho0,hstart.out.symm,rfl,hX0.trans q.grown⟩
  case round =>
   clear hidx hstartO
   obtain⟨j,k,cur,rfl,rfl,hk,hjk,hcl,ho,htk,hdr,hX⟩:=hrel
   have hgw:g<wr.heap.size:=(World.ownsRow.lt ho.out g rfl).2
   haveI:In g wr:=⟨hgw⟩
   by_cases hlt:k<n
   ·obtain⟨x,hx⟩:∃x,l[k]? = some x:=⟨_,List.getElem?_eq_getElem (by have:=hlnh.out;omega)⟩
    have hcx:cur[k]? = some x:=by
     have e1:(cur.drop k)[0]? = (l.drop k)[0]? := by rw[hdr.out]
     simpa [hx] using e1
    obtain⟨q0,q1⟩:=ps_get cur k x hcx
    have y0:=(World.ownsRow.cellAt ho.out (k*2) (by omega)).trans q0
    have y1:=(World.ownsRow.cellAt ho.out (k*2+1) (by omega)).trans q1
    have jl:j<(ps cur).length:=by rw[ps_length,hcl.out];omega
    have s0:∃u,wr.cell? ⟨g,j*2,none⟩=some u:=⟨_,(World.ownsRow.cellAt ho.out (j*2) (by omega)).trans (List.getElem?_eq_getElem (by rw[ps_length,hcl.out];omega))⟩
    have s1:∃u,wr.cell? ⟨g,j*2+1,none⟩=some u:=⟨_,(World.ownsRow.cellAt ho.out (j*2+1) (by omega)).trans (List.getElem?_eq_getElem (by rw[ps_length,hcl.out];omega))⟩
    obtain⟨u0,s0⟩:=s0
    obtain⟨u1,s1⟩:=s1
    have f0:=World.ownsRow.frozenAt ho.out (j*2)
    have f1:=World.ownsRow.frozenAt ho.out (j*2+1)
    have hdel:=hide (fun w=>hasNoEffect_c x w)
    have hft:=filt_next hx
    have hdr':Hid (cur.drop (k+1)=l.drop (k+1)):=by
     show _=_
     have:=hdr.out
     rw[jdrop_cons hx,jdrop_cons hcx] at this
     exact (List.cons.inj this).2
    obtain⟨xp,xn⟩:=x
    simp only at y0 y1
    have hjI:(j:Int)<n:=by omega
    clear jl q0 q1 hx
    cases hd:dropJ (xp,xn)
    ·rw[hd] at hdel hft
     rw[if_neg (by decide)] at hft
     replace hft:=hide hft
     replace hd:=hide hd
     clear hcx
     go_wp2_with (go_at_call 172;(with_reducible refine seq_gw (hdel.out _) ?_);intro q7)
     go_roundg (n-(k+1))
     case measure=>omega
     case rel =>
      have hX7:=((Ext.refl wr).alloc (.cells #[.int .i64 xp, .int .i64 xn] 178)).trans q7.grown
      have o1:=(World.ownsRow.stored (own_ext ho.out hX7) (j*2) (.int .i64 xp)).1
      have o2:=(World.ownsRow.stored o1 (j*2+1) (.int .i64 xn)).1
      rw[←ps_set cur j (xp,xn) (by rw[hcl.out];omega)] at o2
      refine⟨j+1,k+1,cur.set j (xp,xn),by go_num,by go_num,by omega,by omega,by rw[List.length_set];exact hcl.out,o2,?_,?_,((hX.trans hX7).setCell hgB _).setCell hgB _⟩
      ·show _=_
       rw[hft.out,←htk.out,List.take_add_one,List.take_set_of_le (Nat.le_refl _)]
       simp[show j<cur.length by rw[hcl.out];omega]
      ·show _=_
       rw[List.drop_set_of_lt (by omega)]
       exact hdr'.out
    ·rw[hd] at hdel hft
     rw[if_pos rfl] at hft
     replace hft:=hide hft
     replace hd:=hide hd
     clear hcx s0 s1 f0 f1
     go_wp2_with (go_at_call 172;(with_reducible refine seq_gw (hdel.out _) ?_);intro q7)
     go_roundg (n-(k+1))
     case measure=>omega
     case rel =>
      have hX7:=((Ext.refl wr).alloc (.cells #[.int .i64 xp, .int .i64 xn] 178)).trans q7.grown
      exact⟨j,k+1,cur,rfl,by go_num,by omega,by omega,hcl,own_ext ho.out hX7,by show _=_;rw[hft.out];exact htk.out,hdr',hX.trans hX7⟩
   ·have hk':k=n:=by omega
    have hge:(n:Int)≤k:=by omega
    have hR2:Hid (R=cur.take j):=by show _=_;have:=htk.out;rw[hk',hlnh.out,List.take_length] at this;rw[hR.out];exact this.symm
    have hjn:j<n:=by omega
    have hjI:(j:Int)≤n:=by omega
    have hcl2:∀ty,(Builtin.clear_ #[122] ty #[.slice (some ⟨g,j*2,none⟩) (n-j) (cap-j)]).run Tryz.prog wr= .ok (.tuple #[]) (wr.setCells g (j*2) (Builtin.zeroCells (Value.agg #[.int .i64 0, .int .i64 0]).cells (n-j)).toList):=fun ty=>by
     have hzl:(Builtin.zeroCells (Value.agg #[.int .i64 0, .int .i64 0]).cells (n-j)).toList.length=(n-j)*2:=by rw[Array.length_toList,size_zeroCells];rfl
     refine run_clear_cells wr _ _ ty _ _ Tryz.underlying122 Tryz.zeroValue178 g (j*2) (n-j) (cap-j) (by omega) rfl ?_ (fun i hi=>?_) (fun i hi=>?_)
     ·intro u hu
      have hu':=Array.mem_toList_iff.1 hu
      have hall:∀u∈Builtin.zeroCells (Value.agg #[.int .i64 0, .int .i64 0]).cells (n-j),u= .int .i64 0:=by
       intro u hu
       simp only[Builtin.zeroCells] at hu
       first
        |(simp at hu;obtain⟨i,_,rfl⟩:=hu;rcases Nat.mod_two_eq_zero_or_one i with e|e<;>simp[Value.cells,e])
        |skip
      rw[hall u hu'];rfl
     ·rw[hzl] at hi
      rw[World.ownsRow.cellAt ho.out (j*2+i) (by omega),List.getElem?_eq_getElem (by rw[ps_length,hcl.out];omega)];rfl
     ·exact World.ownsRow.frozenAt ho.out _
    have hown:Hid (∃_:Unit,(wr.setCells g (j*2) (Builtin.zeroCells (Value.agg #[.int .i64 0, .int .i64 0]).cells (n-j)).toList).ownsRow W0.heap.size 178 2 (.slice (some ⟨g,0,none⟩) j cap) j (ps (cur.take j))):=⟨(),by
     have:=own_take ho.out (i:=j) (by omega)
     rw[ps_take] at this
     exact own_setCells (w0:=w) _ _ _ this (Nat.le_refl _)⟩
    have hxx:Hid (Ext W0 (wr.setCells g (j*2) (Builtin.zeroCells (Value.agg #[.int .i64 0, .int .i64 0]).cells (n-j)).toList)):=ext_setCells hgB _ _ _ hX
    generalize wr.setCells g (j*2) (Builtin.zeroCells (Value.agg #[.int .i64 0, .int .i64 0]).cells (n-j)).toList=wz at *
    have hjl:Hid ((cur.take j).length=j):=by show _=_;rw[List.length_take,hcl.out];omega
    have hjc:j<cap:=by omega
    have hjcI:¬j=cap:=by omega
    replace hk':=hide hk'
    clear hcl htk hdr hR ho
    go_wp2_with fail
    go_returns
    rw[hR2.out]
    obtain⟨_,ho9⟩:=hown.out
    refine⟨_,rfl,?_,hxx.out⟩
    unfold OwnJ
    rw[hjl.out]
    exact ho9
theorem any_no{l:List Jp}{p:Jp→Bool}(h:l.any p=false):∀j∈l,p j=false:=by
 intro j hj
 have:=List.any_eq_false.1 h j hj
 simpa using this
theorem net_ok{l:List Jp}(h:l.any tooJ=false):∀j∈l, -1048576≤j.2∧j.2≤1048576:=fun j hj=>by
 have:=any_no h j hj;unfold tooJ at this;rw[decide_eq_false_iff_not] at this;omega
theorem stepNorm_c(l:List Jp)(hn:l.length≤8192)(v:Value)(w:World)(h:Jw w [] v l):Calls Tryz.prog 118 #[v] w fun e w'=>∃v',e= .returned (.tuple #[v', .int .i64 (nmE l)])∧OwnJ w' w.heap.size v' (nmR l)∧Ext w w':=by
 have hc1:=hide (fun w' (hX:Ext w w')=>containsToo_c l v w' (Sl.ext h hX))
 have hc2:=hide (fun w' (hX:Ext w w')=>containsNow_c l v w' (Sl.ext h hX))
 have hX0:=hide (Ext.refl w)
 obtain⟨E,hE⟩:∃E,E=nmE l:=⟨_,rfl⟩
 obtain⟨R,hR⟩:∃R,R=nmR l:=⟨_,rfl⟩
 rw[←hE,←hR]
 cases ht:l.any tooJ
 ·rw[ht] at hc1
  cases hw:l.any nowJ
  ·rw[hw] at hc2
   have hEF:Hid (E=full (nmL l)):=by show _=_;rw[hE];unfold nmE;rw[ht,hw];rfl
   have hRF:Hid (R=kept (nmL l)):=by
    show _=_
    rw[hR];unfold nmR nmE;rw[ht,hw]
    unfold full kept
    cases mayJ (nmL l)<;>rfl
   have hcl:=hide (fun w' (hX:Ext w w')=>jmpClone_c l v w' (Sl.ext h hX) (by omega))
   have hnet:=hide (net_ok ht)
   have hnow:=hide (any_no hw)
   obtain⟨A,cap,rfl, -, -, -⟩:=jw_form h
   replace hn:=hide hn
   clear hE hR h ht hw
   go_enter Tryz.func118,Tryz.ntmps118
   go_wp2_with (first
    |(go_at_call 165;(with_reducible refine seq_gw (hc1.out _ hX0.out) ?_);intro g)
    |(go_at_call 165;(with_reducible refine seq_gw' (hc2.out _ g.grown) ?_);intro g2)
    |(go_at_call 167;refine (hcl.out _ g2.grown).mono ?_;rintro ee w3 ⟨v3,rfl,ho3,hx3⟩;have hX3:=hide (g2.grown.trans hx3);have hsz:=GW.size g2;replace ho3:=hide (own_base ho3 hsz);obtain⟨A3,cap3,rfl⟩:=own_form ho3.out)
    |(go_at_call 168;refine (sort_c w l _ w3 ho3.out hX3.out hn.out).mono ?_;rintro ee w4 ⟨rfl,s,hp,hs,ho4,hX4⟩;have hpl:=hp.length_eq;have hps:=hide hp;have hss:=hide hs;replace hX4:=hide hX4;replace ho4:=hide ho4;have hls:=hide (show s.length≤8192 by rw[hpl];exact hn.out);replace hpl:=hide hpl)
    |(go_at_call 171;refine (addedUp_c s hss.out (fun j hj=>hnet.out j (hps.out.mem_iff.1 hj)) hls.out _ w4 (by have:=own_jw (S:=[]) ho4.out (by simp);exact this)).mono ?_;rintro ee w5 ⟨v5,rfl,ho5,hx5⟩;have hX5:=hide (hX4.out.trans hx5);have hsz5:=hX4.out.size;replace ho5:=hide (own_base ho5 hsz5);have hla:=hide (show (addup s).length≤8192 from Nat.le_trans (addup_inv 1048576 (by omega) s.length s rfl hss.out (fun j hj=>hnet.out j (hps.out.mem_iff.1 hj))).2.1 hls.out))
    |(go_at_call 170;refine (delete_c w (addup s) v5 w5 ho5.out hX5.out hla.out).mono ?_;rintro ee w6 ⟨v6,rfl,ho6,hX6⟩;rw[show filt (addup s)=nmL l from norm_code hps.out hss.out hnow.out] at ho6;have huf:=hide (unlessFull_c (nmL l) v6 w.heap.size w6 ho6);replace hX6:=hide hX6;clear ho6)
    |(go_at_call 108;refine huf.out.mono ?_;rintro ee w7 ⟨v7,rfl,ho7,hx7⟩))
   go_returns
   rw[hEF.out,hRF.out]
   exact⟨_,rfl,ho7,hX6.out.trans hx7⟩
  ·rw[hw] at hc2
   have e1:E=13:=by rw[hE];unfold nmE;rw[ht,hw];rfl
   have e2:R=[]:=by rw[hR];unfold nmR;rw[←hE,e1,if_neg (by decide)]
   subst e1
   subst e2
   obtain⟨A,cap,rfl, -, -, -⟩:=jw_form h
   clear hE hR h ht hw
   go_enter Tryz.func118,Tryz.ntmps118
   go_wp2_with (first
    |(go_at_call 165;(with_reducible refine seq_gw (hc1.out _ hX0.out) ?_);intro g)
    |(go_at_call 165;(with_reducible refine seq_gw' (hc2.out _ g.grown) ?_);intro g2))
   go_returns
   exact⟨_,rfl,World.ownsRow_nil _ _ _ _,g2.grown⟩
 ·rw[ht] at hc1
  have e1:E=2:=by rw[hE];unfold nmE;rw[ht];rfl
  have e2:R=[]:=by rw[hR];unfold nmR;rw[←hE,e1,if_neg (by decide)]
  subst e1
  subst e2
  obtain⟨A,cap,rfl, -, -, -⟩:=jw_form h
  clear hE hR h ht
  go_enter Tryz.func118,Tryz.ntmps118
  go_wp2_with (go_at_call 165;(with_reducible refine seq_gw (hc1.out _ hX0.out) ?_);intro g)
  go_returns
  exact⟨_,rfl,World.ownsRow_nil _ _ _ _,g.grown⟩
end Go.Proofs.YtajelkkiijdegaaGreat
