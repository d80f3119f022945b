/-
  A helper of ours: no claim of its own. Layer 11 (pack): pieces of one's own, and the pieces of rows with functions as lists.
-/
import Derived.Test.YtajelkkiijdegaaGreatBagB
import Derived.Test.YtajelkkiijdegaaGreatBagS
import Derived.Test.YtajelkkiijdegaaGreatStepV
import Derived.Test.YtajelkkiijdegaaGreatEdgGs
import Derived.Test.YtajelkkiijdegaaGreatStepT
import Derived.Test.YtajelkkiijdegaaGreatMem
import Derived.Test.YtajelkkiijdegaaGreatStepR
import Derived.Test.YtajelkkiijdegaaGreatEdgB
import Derived.Test.YtajelkkiijdegaaGreatEdgEa
import Derived.Test.YtajelkkiijdegaaGreatEdgO
import Derived.Test.YtajelkkiijdegaaGreatEdgGx
set_option linter.unusedVariables false
set_option linter.unusedSimpArgs false
set_option linter.unusedSectionVars false
set_option maxHeartbeats 64000000
set_option maxRecDepth 100000
namespace Go.Proofs.YtajelkkiijdegaaGreat
open Go.RowKit
attribute [local go_sem] GW.cell GW.frozen In.eq_true In.le_true In.ne In.ne' In.ne_add In.ne_add' In.lt_add Upto.le_true Upto.le_add Upto.lt_add
end Go.Proofs.YtajelkkiijdegaaGreat
namespace Go.Proofs.YtajelkkiijdegaaGreat
open Go.RowKit
abbrev Sp:=Int×Int
def begL(f:List Jp):List Int:=f.flatMap fun j=>List.replicate j.2.toNat j.1
def endL(f:List Jp):List Int:=f.flatMap fun j=>List.replicate (-j.2).toNat j.1
theorem begL_snoc(f:List Jp)(j:Jp):begL (f++[j])=begL f++List.replicate j.2.toNat j.1:=by simp[begL]
theorem endL_snoc(f:List Jp)(j:Jp):endL (f++[j])=endL f++List.replicate (-j.2).toNat j.1:=by simp[endL]
def cntJ(f:List Jp):Int:=(begL f).length
theorem cntJ_snoc(f:List Jp)(j:Jp):cntJ (f++[j])=cntJ f+max j.2 0:=by
 unfold cntJ
 rw[begL_snoc,List.length_append,List.length_replicate]
 omega
theorem cntJ_le{f:List Jp}(h:∀j∈f,j.2≤1048576):cntJ f≤1048576*f.length:=by
 induction f with
 |nil=>simp[cntJ,begL]
 |cons a r ih =>
  have h1:=ih fun j hj=>h j (by simp[hj])
  have h2:=h a (by simp)
  unfold cntJ at h1 ⊢
  unfold begL at h1 ⊢
  rw[List.flatMap_cons,List.length_append,List.length_replicate,List.length_cons]
  omega
theorem len_js(f:List Jp):((begL f).length:Int)-(endL f).length=js f:=by
 induction f with
 |nil=>simp[begL,endL,js]
 |cons a r ih =>
  unfold begL endL at ih ⊢
  rw[List.flatMap_cons,List.flatMap_cons,List.length_append,List.length_append,List.length_replicate,List.length_replicate,js]
  omega
theorem leF_le(f:List Jp):∀(g:List Jp) (m:Int),leF f m g≤m∧∀j∈g,leF f m g≤jv f j.1
 |[],m=>⟨Int.le_refl _,by simp⟩
 |a::g,m=>by
  obtain⟨h1,h2⟩:=leF_le f g (min m (jv f a.1))
  have e:leF f m (a::g)=leF f (min m (jv f a.1)) g:=rfl
  rw[e]
  refine⟨by omega,fun j hj=>?_⟩
  rcases List.mem_cons.1 hj with rfl|hj
  ·omega
  ·exact h2 j hj
theorem pre_ends{f:List Jp}(hm:mayJ f=true)(h0:0≤leV f)(k:Nat):(endL (f.take k)).length≤(begL (f.take k)).length:=by
 have hj:=len_js (f.take k)
 suffices 0≤js (f.take k) by omega
 have hasc:=(mayJ_iff.1 hm).2.2
 unfold leV at h0
 rw[if_pos hm] at h0
 rcases Nat.eq_zero_or_pos k with rfl|hk
 ·simp[js]
 rcases Nat.lt_or_ge (k-1) f.length with hlt|hge
 ·obtain⟨j,hx⟩:∃j,f[k-1]? = some j:=⟨_,List.getElem?_eq_getElem hlt⟩
  have et:f.take k=f.take (k-1)++[j]:=by
   have:k=k-1+1:=by omega
   rw[this,List.take_add_one,hx];simp
  have ef:f=f.take (k-1)++j::f.drop k:=by
   have h1:=List.take_append_drop (k-1) f
   have h2:f.drop (k-1)=j::f.drop k:=by
    rw[List.drop_eq_getElem_cons hlt]
    have h3:=List.getElem?_eq_getElem hlt
    rw[hx] at h3
    rw[show k-1+1=k by omega]
    congr 1
    exact (Option.some.inj h3).symm
   rw[h2] at h1
   exact h1.symm
  have hjs:=js_at (f1:=f.take (k-1)) (j:=j) (f2:=f.drop k) (by rw[←ef];exact hasc)
  rw[et,hjs,←ef]
  have:=(leF_le f f (jv f (-1))).2 j (List.mem_of_getElem? hx)
  omega
 ·have e1:f.take k=f:=List.take_of_length_le (by omega)
  rw[e1]
  rcases hf:f.reverse with _|⟨j,r⟩
  ·have:f=[]:=by simpa using hf
   rw[this];simp[js]
  ·have ef:f=r.reverse++[j]:=by rw[←List.reverse_reverse f,hf];simp
   have hjs:=js_at (f1:=r.reverse) (j:=j) (f2:=[]) (by rw[←ef];exact hasc)
   rw[←ef] at hjs
   rw[hjs]
   have:=(leF_le f f (jv f (-1))).2 j (by rw[ef];simp)
   omega
def spL:List Int→List Int→List Sp
 |[],_=>[]
 |x::b,[]=>(x,1125899906842624)::spL b []
 |x::b,y::e=>(x,y)::spL b e
theorem spL_length:∀b e:List Int,(spL b e).length=b.length
 |[],_=>rfl
 |x::b,[]=>by rw[spL,List.length_cons,List.length_cons,spL_length b []]
 |x::b,y::e=>by rw[spL,List.length_cons,List.length_cons,spL_length b e]
theorem spL_get:∀(b e:List Int) (i:Nat) (x:Int),b[i]? = some x→(spL b e)[i]? = some (x,(e[i]?).getD 1125899906842624)
 |y::b,[],0,x,h=>by simp at h;subst h;rfl
 |y::b,z::e,0,x,h=>by simp at h;subst h;rfl
 |y::b,[],i+1,x,h=>by
  have:=spL_get b [] i x (by simpa using h)
  simpa [spL] using this
 |y::b,z::e,i+1,x,h=>by
  have:=spL_get b e i x (by simpa using h)
  simpa [spL] using this
theorem spL_zip:∀(b e:List Int),e.length≤b.length→spL b e=(b.take e.length).zip e++(b.drop e.length).map fun x=>(x,1125899906842624)
 |[],[],_=>rfl
 |[],y::e,h=>by simp at h
 |x::b,[],_=>by
  have:=spL_zip b [] (by simp)
  rw[spL,this]
  simp
 |x::b,y::e,h=>by
  have:=spL_zip b e (by simpa using h)
  rw[spL,this]
  simp
def lifeL(f:List Jp):List Sp:=spL (begL f) (endL f)
def madeL(b e:List Int):List Sp:=(b.take e.length).zip e
theorem madeL_begin(b e m:List Int)(h:e.length≤b.length):madeL (b++m) e=madeL b e∧(b++m).drop e.length=b.drop e.length++m:=by
 unfold madeL
 rw[List.take_append_of_le_length h,List.drop_append_of_le_length h]
 exact⟨rfl,rfl⟩
theorem madeL_end(b e:List Int)(x a:Int)(r:List Int)(h:b.drop e.length=x::r):madeL b (e++[a])=madeL b e++[(x,a)]∧b.drop (e++[a]).length=r:=by
 have hlt:e.length<b.length:=by
  have:=congrArg List.length h
  simp at this
  omega
 have hx:b[e.length]? = some x:=by
  have h2:(b.drop e.length)[0]? = some x:=by rw[h];rfl
  rwa [List.getElem?_drop,Nat.add_zero] at h2
 unfold madeL
 rw[List.length_append,List.length_singleton,List.take_add_one,hx]
 refine⟨?_,?_⟩
 ·rw[Option.toList_some,List.zip_append (by simp;omega)]
  rfl
 ·rw[←List.drop_drop,h];rfl
theorem life_done(b e:List Int)(h:e.length≤b.length):madeL b (e++List.replicate (b.length-e.length) 1125899906842624)=spL b e:=by
 rw[spL_zip b e h]
 unfold madeL
 rw[List.length_append,List.length_replicate,List.take_of_length_le (by omega)]
 conv=>lhs;rw[←List.take_append_drop e.length b]
 rw[List.zip_append (by simp;omega)]
 congr 1
 have key:∀(l:List Int),l.zip (List.replicate l.length 1125899906842624)=l.map fun x=>(x,(1125899906842624:Int)):=by
  intro l
  induction l with
  |nil=>rfl
  |cons a l ih=>simp only[List.length_cons,List.replicate_succ,List.zip_cons_cons,List.map_cons,ih]
 have:=key (b.drop e.length)
 rw[List.length_drop] at this
 rw[List.take_append_drop]
 exact this
def blkO:Value→Option Nat
 | .slice (some a) _ _=>some a.block
 |_=>none
def OwnO(w:World)(base e size:Nat)(v:Value)(n:Nat)(xs:List Value):Prop :=
 xs.length=n*size∧((v= .slice none 0 0∧n=0)∨∃g o cap cur,v= .slice (some ⟨g,o,none⟩) n cap∧base≤g∧w.heap[g]? = some (.cells cur e (0,0))∧n≤cap∧cap≤maxLen∧o+cap*size≤cur.size∧(cur.toList.drop o).take (n*size)=xs)
section
variable {w w':World} {base e size n:Nat} {v:Value} {xs:List Value}
theorem OwnO.nil(w:World)(base e size:Nat):OwnO w base e size (.slice none 0 0) 0 []:=⟨by simp, .inl ⟨rfl,rfl⟩⟩
theorem OwnO.form(h:OwnO w base e size v n xs):∃A cap,v= .slice A n cap∧n≤cap∧cap≤maxLen:=by
 rcases h.2 with ⟨rfl,rfl⟩|⟨g,o,cap,cur,rfl,_,_,h1,h2,_⟩
 ·exact⟨_,_,rfl,Nat.le_refl _,Nat.zero_le _⟩
 ·exact⟨_,_,rfl,h1,h2⟩
theorem OwnO.lt(h:OwnO w base e size v n xs):∀g,blkO v=some g→base≤g∧g<w.heap.size:=by
 intro g hg
 rcases h.2 with ⟨rfl,rfl⟩|⟨g',o,cap,cur,rfl,hb,hh,_⟩
 ·cases hg
 ·obtain rfl:g'=g:=by simpa [blkO] using hg
  exact⟨hb,lt_of_block hh⟩
theorem OwnO.keep(h:OwnO w base e size v n xs)(hk:∀g,blkO v=some g→w'.heap[g]? = w.heap[g]?):OwnO w' base e size v n xs:=by
 refine⟨h.1,?_⟩
 rcases h.2 with h2|⟨g,o,cap,cur,rfl,hb,hh,r⟩
 ·exact .inl h2
 ·exact .inr ⟨g,o,cap,cur,rfl,hb,(hk g rfl).trans hh,r⟩
theorem OwnO.ext(h:OwnO w base e size v n xs)(k:Ext w w'):OwnO w' base e size v n xs:=h.keep fun g hg=>k.block g (h.lt g hg).2
theorem OwnO.grown{row:Option Nat}(h:OwnO w base e size v n xs)(hg:w.grownBy w' row)(hn:∀g,blkO v=some g→some g≠row):OwnO w' base e size v n xs :=
 h.keep fun g hb=>hg.block g (h.lt g hb).2 (hn g hb)
theorem OwnO.type(h:OwnO w base e size v n xs){g:Nat}{cur:Array Value}{T:TypeId}{fz:Nat×Nat}(hg:blkO v=some g)(hh:w.heap[g]? = some (.cells cur T fz)):T=e:=by
 rcases h.2 with ⟨rfl,_⟩|⟨g',o,cap,cur',rfl,hb,hh',r⟩
 ·cases hg
 ·obtain rfl:g'=g:=by simpa [blkO] using hg
  rw[hh'] at hh
  injection hh with hh
  injection hh with _ e
  exact e.symm
theorem OwnO.cells{g o n' cap:Nat}(h:OwnO w base e size v n xs)(hv:v= .slice (some ⟨g,o,none⟩) n' cap):∀j u,xs[j]? = some u→w.cell? ⟨g,o+j,none⟩=some u:=by
 subst hv
 intro j u hu
 rcases h.2 with ⟨e,_⟩|⟨g',o',cap',cur,e,hb,hh,h1,h2,h3,h4⟩
 ·cases e
 ·simp only[Value.slice.injEq,Option.some.injEq,Addr.mk.injEq,and_true] at e
  obtain⟨⟨rfl,rfl⟩,rfl,rfl⟩:=e
  rw[cell_of_row w g (o+j) cur e (0,0) hh]
  rw[←h4,List.getElem?_take] at hu
  split at hu
  ·rw[List.getElem?_drop] at hu
   simpa using hu
  ·cases hu
theorem OwnO.tail{A:Option Addr}{cap:Nat}{x:Value}(h:OwnO w base e 1 (.slice A (n+1) cap) (n+1) (x::xs)):OwnO w base e 1 (.slice (cutA A 1 cap 1) n (cap-1)) n xs:=by
 refine⟨by have:=h.1;simp at this ⊢;omega, .inr ?_⟩
 rcases h.2 with ⟨_,h0⟩|⟨g,o,cap',cur,e',hb,hh,h1,h2,h3,h4⟩
 ·cases h0
 ·simp only[Value.slice.injEq,true_and] at e'
  obtain⟨rfl,rfl⟩:=e'
  have ht:(cur.toList.drop (o+1)).take n=xs:=by
   rw[Nat.mul_one] at h4
   have h5:=congrArg List.tail h4
   rw[List.tail_cons] at h5
   rw[←h5,←List.drop_one,List.drop_take,List.drop_drop,Nat.add_sub_cancel]
  by_cases hc:cap=1
  ·subst hc
   have hn0:n=0:=by omega
   subst hn0
   refine⟨g,o,0,cur,by simp[cutA],hb,hh,by omega,Nat.zero_le _,by omega,?_⟩
   have:xs=[]:=by have:=h.1;simp at this;exact this
   rw[this];simp
  ·refine⟨g,o+1,cap-1,cur,by unfold cutA;rw[if_neg hc];simp[add_plain],hb,hh,by omega,by omega,by omega,by rw[Nat.mul_one];exact ht⟩
end
section
variable {P:Program} {w:World}
theorem run_appO{t tx ty e:TypeId}{z:Value}{size bytes base n m:Nat}{v x:Value}{xs news:List Value}(T:ElemT P t e z size bytes)(hown:OwnO w base e size v n xs)(hs:Src P size tx x m news w)
 (h63:n+m≤maxLen) (hbytes:(n+m)*bytes≤140737488355328) (hbase:base≤w.heap.size) :
 ∃v' w',(Builtin.append_ #[t,tx] ty #[v,x]).run P w= .ok v' w'∧OwnO w' base e size v' (n+m) (xs++news)∧w.grownBy w' (blkO v)∧(blkO v'=blkO v∨blkO v'=some w.heap.size):=by
 obtain⟨ht,⟨i,hi,hz,hsize,hby⟩,hzs,hsz⟩:=T
 subst hsize
 subst hby
 have hsmall:n+m≤9223372036854775807:=by simp only[maxLen] at h63;omega
 have hlen:(xs++news).length=(n+m)*i.size:=by rw[List.length_append,hown.1,hs.newsLen,Nat.add_mul]
 have grown:∀(old:Nat),old<n+m→∀(row:Option Nat),
  OwnO (w.drew.alloc (.cells ((xs++news).toArray++Builtin.zeroCells z.cells (grownCap w (n+m) old e-(n+m))) e)) base e i.size
   (.slice (some ⟨w.heap.size,0,none⟩) (n+m) (grownCap w (n+m) old e)) (n+m) (xs++news) ∧
  w.grownBy (w.drew.alloc (.cells ((xs++news).toArray++Builtin.zeroCells z.cells (grownCap w (n+m) old e-(n+m))) e)) row:=by
  intro old ho row
  have hge:=grownCap_ge w (n+m) old e
  have hcm:grownCap w (n+m) old e≤maxLen:=grownCap_le_maxLen w (n+m) old e h63
  refine⟨⟨hlen, .inr ⟨w.heap.size,0,_,_,rfl,hbase,heap_alloc_new w.drew _,hge,hcm,?_,?_⟩⟩,⟨rfl,rfl,rfl,by simp,fun k hk _=>Below.heap_alloc w.drew _ k hk⟩⟩
  ·simp only[Array.size_append,List.size_toArray,size_zeroCells,hzs,hlen,←Nat.add_mul]
   rw[Nat.zero_add]
   exact Nat.mul_le_mul_right _ (by omega)
  ·simp only[Array.toList_append,List.drop_zero]
   rw[←hlen]
   exact List.take_left
 rcases hown.2 with ⟨rfl,rfl⟩|⟨g,o,cap,cur,rfl,hbg,hg,hnc,hcm,hcs,htake⟩
 ·have hx:xs=[]:=List.eq_nil_of_length_eq_zero (by simpa using hown.1)
  subst hx
  by_cases hm:m=0
  ·subst hm
   have hn:news=[]:=List.eq_nil_of_length_eq_zero (by simpa using hs.newsLen)
   subst hn
   refine⟨.slice none 0 0,w,?_,OwnO.nil w base e i.size,⟨rfl,rfl,rfl,Nat.le_refl _,fun _ _ _=>rfl⟩, .inl rfl⟩
   rcases hs.kind with ⟨e',hk⟩|hk<;>simp[Builtin.append_,run_underlying ht,run_underlying hk,sizeOf,typeInfo,hi,hs.len,hs.cells]
  ·have hr:=run_append_grow_src (P:=P) w t tx ty e i z ht hi hz none 0 0 [] (by simp[Builtin.firstCells]) x m news hs (by omega) (by omega) (growslice_fits (by omega) hbytes)
   have hgr:=grown 0 (by omega) (blkO (.slice none 0 0))
   simp only[Nat.zero_add,List.nil_append] at hgr hr ⊢
   exact⟨_,_,hr,hgr.1,hgr.2, .inr rfl⟩
 ·have hmul:n*i.size≤cap*i.size:=Nat.mul_le_mul_right _ hnc
  by_cases hroom:n+m≤cap
  ·have hfit:o+n*i.size+news.length≤cur.size:=by
    have h1:(n+m)*i.size≤cap*i.size:=Nat.mul_le_mul_right _ hroom
    rw[Nat.add_mul] at h1
    rw[hs.newsLen]
    omega
   have hst:=run_storeCells_at P g (o+n*i.size) e news 0 cur w hg (by simpa using hfit) hs.one
   simp only[Nat.add_zero] at hst
   have hr:(Builtin.append_ #[t,tx] ty #[.slice (some ⟨g,o,none⟩) n cap,x]).run P w =
    .ok (.slice (some ⟨g,o,none⟩) (n+m) cap) (w.setRow g (cur.toList.take (o+n*i.size)++news++cur.toList.drop (o+n*i.size+news.length)).toArray):=by
    rcases hs.kind with ⟨e',hk⟩|hk<;>simp[Builtin.append_,run_underlying ht,run_underlying hk,sizeOf,typeInfo,hi,hs.len,hroom,hs.cells,Addr.add_lit,hst]
   refine⟨_,_,hr,⟨hlen, .inr ⟨g,o,cap,_,rfl,hbg,setRow_heap w g cur _ e _ hg,hroom,hcm,?_,?_⟩⟩,⟨rfl,rfl,rfl,by simp,fun k _ hk=>setRow_other w g k _ (fun e=>hk (by simp[blkO,e]))⟩, .inl rfl⟩
   ·simp only[List.size_toArray,List.length_append,List.length_take,List.length_drop,Array.length_toList]
    omega
   ·rw[←hlen]
    have hd:(cur.toList.take (o+n*i.size)++news++cur.toList.drop (o+n*i.size+news.length)).drop o=xs++(news++cur.toList.drop (o+n*i.size+news.length)):=by
     rw[List.append_assoc,List.drop_append_of_le_length (by rw[List.length_take,Array.length_toList];omega)]
     congr 1
     rw[List.drop_take,Nat.add_sub_cancel_left]
     exact htake
    rw[hd,←List.append_assoc]
    exact List.take_left
  ·have holds:∀j u,xs[j]? = some u→w.drew.cell? ((⟨g,o,none⟩:Addr).add j)=some u:=fun j u hu=>by
    rw[add_plain]
    exact hown.cells rfl j u hu
   have hr:=run_append_grow_src (P:=P) w t tx ty e i z ht hi hz (some ⟨g,o,none⟩) n cap xs (run_firstCells_some w.drew i.size n _ n cap xs hown.1 holds) x m news hs (by omega) (by omega) (growslice_fits (by omega) hbytes)
   have hgr:=grown cap (by omega) (blkO (.slice (some ⟨g,o,none⟩) n cap))
   exact⟨_,_,hr,hgr.1,hgr.2, .inr rfl⟩
theorem wpl_appO{ops:Array Oper}{rest:List Oper}{o:Oper}{a:Act}{Q:Exit→Act→World→Prop}{t tx e:TypeId}{z:Value}{size bytes base n m:Nat}{v x:Value}{xs news:List Value}(T:ElemT P t e z size bytes)
 (hgd:o.guard=none) (s y:Operand) (ho:o.op= .call { callee:= .builtin .append,args:= #[s,y],argTypes:= #[t,tx]}) (hv:a.eval s=v) (hown:OwnO w base e size v n xs) (hx:a.eval y=x) (hs:Src P size tx x m news w)
 (h63:n+m≤maxLen) (hbytes:(n+m)*bytes≤140737488355328) (hbase:base≤w.heap.size)
 (h:∀v' w',OwnO w' base e size v' (n+m) (xs++news)→w.grownBy w' (blkO v)→(blkO v'=blkO v∨blkO v'=some w.heap.size)→wpList P ops Q rest (a.put o.dst v') w'):wpList P ops Q (o::rest) a w:=by
 refine wpList_plain hgd fun K hK=>?_
 obtain⟨v',w',hr,h2,h3,h4⟩:=run_appO (ty:=o.type) T hown hs h63 hbytes hbase
 unfold Oper.wp execOp
 simp only[ho,resolve,invoke,builtin,Sem.run_bind,Sem.run_pure,Result.andThen_ok,List.map_toArray,List.map_cons,List.map_nil,hv,hx,hr]
 exact hK _ _ (h v' w' h2 h3 h4)
end
theorem tSpn:ElemT Tryz.prog 234 37 (.agg #[.int .i64 0, .int .i64 0]) 2 16:=ElemT.mk' Tryz.underlying234 (by kernel_rfl) rfl (by omega)
theorem buildS1(x:Jp)(w:World):(Instr.buildSlice 234 1 #[(0,jm x)]).run Tryz.prog w= .ok (.slice (some ⟨w.heap.size,0,none⟩) 1 1) (w.alloc (.cells #[.int .i64 x.1, .int .i64 x.2] 37)):=by
 simp[go_sem]
theorem oneS_new(x:Jp)(w:World):Jw (w.alloc (.cells #[.int .i64 x.1, .int .i64 x.2] 37)) [] (.slice (some ⟨w.heap.size,0,none⟩) 1 1) [x] :=
 Sl.own (World.ownsRow_lit (base:=w.heap.size) (e:=37) (size:=2) w #[.int .i64 x.1, .int .i64 x.2] 1 (Nat.le_refl _) (by decide) rfl) (by simp)
abbrev OwnSp(w:World)(base:Nat)(v:Value)(l:List Sp):Prop:=w.ownsRow base 37 2 v l.length (ps l)
abbrev OwnIo(w:World)(base:Nat)(v:Value)(l:List Int):Prop:=OwnO w base 3 1 v l.length (zc l)
theorem own_appS{w:World}{B:Nat}{v:Value}{l m:List Sp}(h:w.ownsRow B 37 2 v (l.length+m.length) (ps l++ps m)):OwnSp w B v (l++m):=by
 unfold OwnSp;rw[List.length_append,ps_append];exact h
theorem own_appIo{w:World}{B:Nat}{v:Value}{l:List Int}{x:Int}(h:OwnO w B 3 1 v (l.length+1) (zc l++[.int .i64 x])):OwnIo w B v (l++[x]):=by
 unfold OwnIo;rw[List.length_append,zc_append];exact h
section
variable {w w' w1:World} {base e size n:Nat} {v:Value} {xs:List Value}
theorem own_heap(h:w.ownsRow base e size v n xs){g:Nat}(hg:v.ownBlock=some g):∃cur,w.heap[g]? = some (.cells cur e (0,0)):=by
 rcases h.2 with ⟨rfl,_⟩|⟨g',cap,cur,rfl,hb,hh,_⟩
 ·cases hg
 ·obtain rfl:g'=g:=by simpa [Value.ownBlock] using hg
  exact⟨cur,hh⟩
theorem own_keep(h:w.ownsRow base e size v n xs)(hk:∀g,v.ownBlock=some g→w'.heap[g]? = w.heap[g]?):w'.ownsRow base e size v n xs:=by
 refine⟨h.1,?_⟩
 rcases h.2 with h2|⟨g,cap,cur,rfl,hb,hh,r⟩
 ·exact .inl h2
 ·exact .inr ⟨g,cap,cur,rfl,hb,(hk g (by simp[Value.ownBlock])).trans hh,r⟩
theorem OwnO.not_box(h:OwnO w base e size v n xs){b:Nat}{T:TypeId}{vs:List Value}(o:Ob w b T vs)(hT:T≠e):blkO v≠some b:=fun hb=>hT (h.type hb o)
theorem OwnO.set(h:OwnO w base e size v n xs){b:Nat}{T:TypeId}{vs:List Value}(o:Ob w b T vs)(hT:T≠e)(u:Value):OwnO (w.setCell ⟨b,0,none⟩ u) base e size v n xs :=
 h.keep fun g hg=>Below.heap_setCell w ⟨b,0,none⟩ u g fun e=>h.not_box o hT (by rw[hg];exact congrArg some e)
theorem own_setB(h:w.ownsRow base e size v n xs){b:Nat}{T:TypeId}{vs:List Value}(o:Ob w b T vs)(hT:e≠T)(u:Value):(w.setCell ⟨b,0,none⟩ u).ownsRow base e size v n xs :=
 own_keep h fun g hg=>Below.heap_setCell w ⟨b,0,none⟩ u g fun q=>o.not_own h hT (by rw[hg];exact congrArg some q)
end
structure LS (w0 w:World) (bo bm:Nat) (uo um:Value) (O:List Int) (M:List Sp):Prop where
 oo:Ob w bo 275 [uo]
 om:Ob w bm 234 [um]
 ho:OwnIo w w0.heap.size uo O
 hm:OwnSp w w0.heap.size um M
 X:Ext w0 w
 bo':w0.heap.size≤bo
 bm':w0.heap.size≤bm
section
variable {w0 w w1:World} {bo bm:Nat} {uo um v1:Value} {O O1:List Int} {M M1:List Sp}
theorem LS.ext(h:LS w0 w bo bm uo um O M)(k:Ext w w1):LS w0 w1 bo bm uo um O M:=⟨h.oo.ext k,h.om.ext k,h.ho.ext k,own_ext h.hm k,h.X.trans k,h.bo',h.bm'⟩
theorem LS.boxO(h:LS w0 w bo bm uo um O M)(hg:w.grownBy w1 (blkO uo)){b:Nat}{T:TypeId}{vs:List Value}(o:Ob w b T vs)(hT:T≠3):Ob w1 b T vs:=o.grown hg fun e=>h.ho.not_box o hT e.symm
theorem LS.boxM(h:LS w0 w bo bm uo um O M)(hg:w.grownBy w1 um.ownBlock){b:Nat}{T:TypeId}{vs:List Value}(o:Ob w b T vs)(hT:37≠T):Ob w1 b T vs:=o.grown hg fun e=>o.not_own h.hm hT e.symm
theorem LS.ne(h:LS w0 w bo bm uo um O M):bo≠bm:=h.oo.ne h.om (by decide)
theorem LS.openApp(h:LS w0 w bo bm uo um O M)(hg:w.grownBy w1 (blkO uo))(ho1:OwnIo w1 w0.heap.size v1 O1):LS w0 (w1.setCell ⟨bo,0,none⟩ v1) bo bm v1 um O1 M:=by
 have o1:=h.boxO hg h.oo (by decide)
 have o2:=h.boxO hg h.om (by decide)
 have hm1:OwnSp w1 w0.heap.size um M:=own_keep h.hm fun g hgm=>by
  obtain⟨cur,hh⟩:=own_heap h.hm hgm
  exact hg.block g (lt_of_block hh) fun e=>absurd (h.ho.type e.symm hh) (by decide)
 exact⟨o1.set 0 _,o2.far _ _ (Ne.symm h.ne),ho1.set o1 (by decide) _,own_setB hm1 o1 (by decide) _,(ext_grown h.X hg fun k hk=>(h.ho.lt k hk).1).setCell (p:=⟨bo,0,none⟩) h.bo' _,h.bo',h.bm'⟩
theorem LS.madeApp(h:LS w0 w bo bm uo um O M)(hg:w.grownBy w1 um.ownBlock)(hm1:OwnSp w1 w0.heap.size v1 M1):LS w0 (w1.setCell ⟨bm,0,none⟩ v1) bo bm uo v1 O M1:=by
 have o1:=h.boxM hg h.oo (by decide)
 have o2:=h.boxM hg h.om (by decide)
 have ho1:OwnIo w1 w0.heap.size uo O:=h.ho.grown hg fun g hgo e=>by
  obtain⟨cur,hh⟩:=own_heap h.hm e.symm
  exact absurd (h.ho.type hgo hh) (by decide)
 exact⟨o1.far _ _ h.ne,o2.set 0 _,ho1.set o2 (by decide) _,own_setB hm1 o2 (by decide) _,(ext_grown h.X hg fun k hk=>(h.hm.lt k hk).1).setCell (p:=⟨bm,0,none⟩) h.bm' _,h.bo',h.bm'⟩
theorem LS.openCut(h:LS w0 w bo bm uo um O M)(ho1:OwnIo w w0.heap.size v1 O1):LS w0 (w.setCell ⟨bo,0,none⟩ v1) bo bm v1 um O1 M :=
 ⟨h.oo.set 0 _,h.om.far _ _ (Ne.symm h.ne),ho1.set h.oo (by decide) _,own_setB h.hm h.oo (by decide) _,h.X.setCell (p:=⟨bo,0,none⟩) h.bo' _,h.bo',h.bm'⟩
end
end Go.Proofs.YtajelkkiijdegaaGreat
namespace Go.Proofs.YtajelkkiijdegaaGreat
open Go.RowKit
attribute [local go_sem] GW.cell GW.frozen In.eq_true In.le_true In.ne In.ne' In.ne_add In.ne_add' In.lt_add Upto.le_true Upto.le_add Upto.lt_add
theorem eql_spn(a b c d:Int)(w:World):(binOp .eql 37 (jm (a,b)) (jm (c,d))).run Tryz.prog w= .ok (.bool (a == c && b == d)) w:=by
 by_cases h1:a=c<;>by_cases h2:b=d<;>simp[go_sem,h1,h2]
theorem neq_spn(a b c d:Int)(w:World):(binOp .neq 37 (jm (a,b)) (jm (c,d))).run Tryz.prog w= .ok (.bool (!(a == c && b == d))) w:=by
 by_cases h1:a=c<;>by_cases h2:b=d<;>simp[go_sem,h1,h2]
def fbB(j:Jp):Bool:=decide (j.1= -1∧0≤j.2∧j.2≤1125899906842624)
def mayPc(e:Ed):Bool:=mayR e.1 && (smayB e.2.1 e.2.2 || fbB e.2)
theorem fromBefore_c(a b:Int)(w:World):Calls Tryz.prog 184 #[.agg #[.int .i64 a, .int .i64 b]] w fun e w'=>e= .returned (.bool (fbB (a,b)))∧Ext w w':=by
 obtain⟨R,hR⟩:∃R,R=fbB (a,b):=⟨_,rfl⟩
 rw[←hR]
 unfold fbB at hR
 simp only at hR
 by_cases h1:a= -1
 ·subst h1
  by_cases h2:0≤b
  ·by_cases h3:b≤1125899906842624
   ·have hf:=hide (show R=true by rw[hR,decide_eq_true_iff];omega)
    clear hR
    have d2:decide (0≤b)=true:=decide_eq_true h2
    have d3:decide (b≤1125899906842624)=true:=decide_eq_true h3
    go_enter Tryz.func184,Tryz.ntmps184
    go_wp2_with fail
    go_returns
    exact⟨by rw[hf.out];first|rfl|simp[d2,d3],(Ext.refl w).alloc _⟩
   ·have hf:=hide (show R=false by rw[hR,decide_eq_false_iff_not];omega)
    clear hR
    have d2:decide (0≤b)=true:=decide_eq_true h2
    have d3:decide (b≤1125899906842624)=false:=decide_eq_false h3
    go_enter Tryz.func184,Tryz.ntmps184
    go_wp2_with fail
    go_returns
    exact⟨by rw[hf.out];first|rfl|simp[d2,d3],(Ext.refl w).alloc _⟩
  ·have hf:=hide (show R=false by rw[hR,decide_eq_false_iff_not];omega)
   clear hR
   have d2:decide (0≤b)=false:=decide_eq_false h2
   go_enter Tryz.func184,Tryz.ntmps184
   go_wp2_with fail
   go_returns
   exact⟨by rw[hf.out];first|rfl|simp[d2],(Ext.refl w).alloc _⟩
 ·have hf:=hide (show R=false by rw[hR,decide_eq_false_iff_not];omega)
  have b1:(a == -1)=false:=by rw[beq_eq_false_iff_ne];exact h1
  clear hR
  replace h1:=hide h1
  go_enter Tryz.func184,Tryz.ntmps184
  go_wp2_with fail
  go_returns
  exact⟨by rw[hf.out];first|rfl|simp[b1],(Ext.refl w).alloc _⟩
theorem pcMay_c(q:List Vl)(j:Jp)(v:Value)(w:World)(h:Rw w [] v q):Calls Tryz.prog 131 #[em v j] w fun e w'=>e= .returned (.bool (mayPc (q,j)))∧Ext w w':=by
 obtain⟨a,b⟩:=j
 have h1:=hide (fun w' (hX:Ext w w')=>rowMay_c q v w' (Sl.ext h hX))
 have h2:=hide (fun w=>smay_c a b w)
 have h3:=hide (fun w=>fromBefore_c a b w)
 obtain⟨A,cap,rfl⟩:=rw_val h
 have hX0:=hide ((Ext.refl w).alloc (.cells #[.slice A q.length cap, .int .i64 a, .int .i64 b] 114))
 have he:mayPc (q,(a,b))=(mayR q && (smayB a b || fbB (a,b))):=rfl
 rw[he]
 generalize mayR q=m1 at *
 generalize smayB a b=m2 at *
 generalize fbB (a,b)=m3 at *
 clear h he
 cases m1
 ·go_enter Tryz.func131,Tryz.ntmps131
  go_wp2_with (go_at_call 55;(with_reducible refine seq_gw (h1.out _ hX0.out) ?_);intro g)
  go_returns
  exact⟨rfl,hX0.out.trans g.grown⟩
 cases m2
 ·go_enter Tryz.func131,Tryz.ntmps131
  go_wp2_with (first|(go_at_call 55;(with_reducible refine seq_gw (h1.out _ hX0.out) ?_);intro g)|(go_at_call 109;(with_reducible refine seq_gw' (h2.out _) ?_);intro g2)|(go_at_call 184;(with_reducible refine seq_gw' (h3.out _) ?_);intro g3))
  go_returns
  exact⟨by first|rfl|simp,hX0.out.trans g3.grown⟩
 ·go_enter Tryz.func131,Tryz.ntmps131
  go_wp2_with (first|(go_at_call 55;(with_reducible refine seq_gw (h1.out _ hX0.out) ?_);intro g)|(go_at_call 109;(with_reducible refine seq_gw' (h2.out _) ?_);intro g2))
  go_returns
  exact⟨by first|rfl|simp,hX0.out.trans g2.grown⟩
theorem pcNone_c(q:List Vl)(j:Jp)(v:Value)(w:World)(h:Rw w [] v q):Calls Tryz.prog 71 #[em v j] w fun e w'=>e= .returned (.bool (!mayPc (q,j)))∧Ext w w':=by
 have h1:=hide (fun w' (hX:Ext w w')=>pcMay_c q j v w' (Sl.ext h hX))
 obtain⟨a,b⟩:=j
 obtain⟨A,cap,rfl⟩:=rw_val h
 have hX0:=hide ((Ext.refl w).alloc (.cells #[.slice A q.length cap, .int .i64 a, .int .i64 b] 114))
 generalize mayPc (q,(a,b))=m at *
 clear h
 go_enter Tryz.func71,Tryz.ntmps71
 go_wp2_with (go_at_call 131;(with_reducible refine seq_gw (h1.out _ hX0.out) ?_);intro g)
 go_returns
 exact⟨by first|rfl|simp,hX0.out.trans g.grown⟩
attribute [local go_sem] eql_spn neq_spn
theorem indexPc_c(L:List Ve)(v:Value)(w:World)(h:Ew w [] v L):Calls Tryz.prog 130 #[v, .func (.func 71) #[] #[]] w fun e w'=>e= .returned (.int .i64 (idxP (fun x:Ve=>mayPc x.2) 0 L))∧Ext w w':=by
 obtain⟨A,cap,rfl,hl,hm,hat⟩:=ew_form h
 unfold maxLen at hm
 replace hat:=hide hat
 have hrows:=hide h.2
 clear h
 obtain⟨R,hR⟩:∃R,R=idxP (fun x:Ve=>mayPc x.2) 0 L:=⟨_,rfl⟩
 rw[←hR]
 replace hR:=hide hR
 go_enter Tryz.func130,Tryz.ntmps130
 go_wp2_with fail
 go_loopg [8] L.length (fun gh i wr=>∃(k:Nat),i= .int .i64 k∧k+gh=L.length∧Hid (R=idxP (fun x:Ve=>mayPc x.2) k (L.drop k))∧Ext w wr)
 case atStart=>exact⟨0,rfl,by omega,by simpa using hR,Ext.refl w⟩
 case round =>
  obtain⟨k,rfl,hk,hRk,hX⟩:=hrel
  clear hR
  by_cases hlt:k<L.length
  ·obtain⟨x,hx⟩:∃x,L[k]? = some x:=⟨_,List.getElem?_eq_getElem hlt⟩
   obtain⟨b,o,rfl, -,hb,c0,c1,c2⟩:=hat.out k x hx
   have k0:=cell_later hX c0
   have k1:=cell_later hX c1
   have k2:=cell_later hX c2
   have hbr:b<wr.heap.size:=block_lt_of_cell k0
   have hrw:=Sl.ext (hrows.out x (List.mem_of_getElem? hx)) hX
   have hR2:=hRk.out
   rw[drop_cons hx] at hR2
   obtain⟨xv,xq,xa,xn⟩:=x
   simp only at k0 k1 k2 hrw
   have hin:=hide (fun w' (hXw:Ext wr w')=>pcNone_c xq (xa,xn) xv w' (Sl.ext hrw hXw))
   have hX00:=hide (Ext.refl wr)
   obtain⟨XA,xcap,rfl⟩:=rw_val hrw
   clear c0 c1 c2 hat hx hrows hrw
   cases hmx:mayPc (xq,(xa,xn))
   ·rw[hmx] at hin
    rw[idxP_no (p:=(fun x:Ve=>mayPc x.2)) (x:=(.slice XA xq.length xcap,xq,xa,xn)) hmx] at hR2
    replace hR2:=hide hR2
    replace hmx:=hide hmx
    go_wp2_with (go_at_call 71;(with_reducible refine seq_gw (hin.out _ hX00.out) ?_);intro g)
    go_returns
    exact⟨by rw[hR2.out];rfl,hX.trans g.grown⟩
   ·rw[hmx] at hin
    rw[idxP_yes (p:=(fun x:Ve=>mayPc x.2)) (x:=(.slice XA xq.length xcap,xq,xa,xn)) hmx] at hR2
    replace hR2:=hide hR2
    replace hmx:=hide hmx
    go_wp2_with (go_at_call 71;(with_reducible refine seq_gw (hin.out _ hX00.out) ?_);intro g)
    go_roundg (L.length-(k+1))
    case measure=>omega
    case rel=>exact⟨k+1,by go_num,by omega,hR2,hX.trans g.grown⟩
  ·have hk':k=L.length:=by omega
   have hge:(L.length:Int)≤k:=by omega
   have hR2:=hRk.out
   rw[hk',List.drop_length] at hR2
   replace hR2:=hide hR2
   replace hk':=hide hk'
   go_wp2_with fail
   go_returns
   exact⟨by rw[hR2.out];rfl,hX⟩
theorem containsPc_c(L:List Ve)(v:Value)(w:World)(h:Ew w [] v L):Calls Tryz.prog 70 #[v, .func (.func 71) #[] #[]] w fun e w'=>e= .returned (.bool (!L.all (fun x:Ve=>mayPc x.2)))∧Ext w w':=by
 have hc:=hide (indexPc_c L v w h)
 have e:=hide (idxP_ge (fun x:Ve=>mayPc x.2) 0 L)
 generalize idxP (fun x:Ve=>mayPc x.2) 0 L=z at *
 obtain⟨A,cap,rfl, -, -, -⟩:=ew_form h
 clear h
 go_enter Tryz.func70,Tryz.ntmps70
 go_wp2_with (go_at_call 130;(with_reducible refine seq_gw hc.out ?_);intro g)
 go_returns
 exact⟨by rw[←e.out];first|rfl|simp,g.grown⟩
abbrev OwnPp(w:World)(base:Nat)(v:Value)(L:List Ve):Prop:=w.ownsRow base 114 3 v L.length (ec L)
theorem tPc:ElemT Tryz.prog 73 114 (.agg #[.slice none 0 0, .int .i64 0, .int .i64 0]) 3 40:=ElemT.mk' Tryz.underlying73 (by kernel_rfl) rfl (by omega)
theorem own_appP{w:World}{B:Nat}{v:Value}{L M:List Ve}(h:w.ownsRow B 114 3 v (L.length+M.length) (ec L++ec M)):OwnPp w B v (L++M):=by
 unfold OwnPp;rw[List.length_append,ec_append];exact h
def OwnPr(w:World)(base:Nat)(v:Value)(L:List Ve):Prop:=OwnPp w base v L∧∀p∈L,Rw w (ob v++List.range base) p.1 p.2.1
section
variable {w w':World} {base:Nat} {v v':Value} {L M:List Ve}
theorem OwnPr.nil(w:World)(base:Nat):OwnPr w base (.slice none 0 0) []:=⟨World.ownsRow_nil _ _ _ _,by simp⟩
theorem OwnPr.ext(h:OwnPr w base v L)(k:Ext w w'):OwnPr w' base v L:=⟨own_ext h.1 k,fun p hp=>Sl.ext (h.2 p hp) k⟩
theorem OwnPr.lower{b:Nat}(h:OwnPr w base v L)(hb:b≤base):OwnPr w b v L:=⟨own_base h.1 hb,fun p hp=>Sl.less (h.2 p hp) fun k hk=>by
 rcases List.mem_append.1 hk with hk|hk
 ·exact List.mem_append_left _ hk
 ·exact List.mem_append_right _ (List.mem_range.2 (by have:=List.mem_range.1 hk;omega))⟩
theorem OwnPr.ew(h:OwnPr w base v L):Ew w [] v L:=⟨Sl.own h.1 (by simp),fun p hp=>Sl.less (h.2 p hp) (by simp)⟩
theorem OwnPr.app(h:OwnPr w base v L)(ho:OwnPp w' base v' (L++M))(hg:w.grownBy w' v.ownBlock)(hv:v'.ownBlock=v.ownBlock∨v'.ownBlock=some w.heap.size)(hM:∀p∈M,∃S,Rw w S p.1 p.2.1∧∀k∈ob v++List.range base,k∈S):OwnPr w' base v' (L++M):=by
 refine⟨ho,fun p hp=>?_⟩
 rcases List.mem_append.1 hp with hp|hp
 ·exact rw_app (h.2 p hp) (fun k hk=>List.mem_append_left _ hk) (fun k hk=>List.mem_append_right _ hk) hg hv
 ·obtain⟨S,hS,hk⟩:=hM p hp
  exact rw_app hS (fun k h=>hk k (List.mem_append_left _ h)) (fun k h=>hk k (List.mem_append_right _ h)) hg hv
end
def pcF(S:List Nat)(r:List Vl)(j:Jp):Fact:= .st (fun u w=>∃A cp,u=em (.slice A r.length cp) j∧Rw w S (.slice A r.length cp) r) (fun _ _ _ h k=>by obtain⟨A,cp,e,h⟩:=h;exact⟨A,cp,e,Sl.ext h k⟩)
def oneP(S:List Nat)(r:List Vl)(j:Jp):Fact:= .st (fun v w=>∃u,Sl w [] 3 v 1 (ec1 (u,r,j))∧Rw w S u r) (fun _ _ _ h k=>by obtain⟨u,h1,h2⟩:=h;exact⟨u,Sl.ext h1 k,Sl.ext h2 k⟩)
theorem buildP1(A:Option Addr)(n cap:Nat)(x:Jp)(w:World):(Instr.buildSlice 73 1 #[(0,em (.slice A n cap) x)]).run Tryz.prog w= .ok (.slice (some ⟨w.heap.size,0,none⟩) 1 1) (w.alloc (.cells #[.slice A n cap, .int .i64 x.1, .int .i64 x.2] 114)):=by
 simp[go_sem]
theorem oneP_new(u:Value)(r:List Vl)(x:Jp)(w:World):Sl (w.alloc (.cells #[u, .int .i64 x.1, .int .i64 x.2] 114)) [] 3 (.slice (some ⟨w.heap.size,0,none⟩) 1 1) 1 (ec1 (u,r,x)) :=
 Sl.own (World.ownsRow_lit (base:=w.heap.size) (e:=114) (size:=3) w #[u, .int .i64 x.1, .int .i64 x.2] 1 (Nat.le_refl _) (by decide) rfl) (by simp)
theorem rw_box{W:World}{S:List Nat}{v:Value}{r:List Vl}{b:Nat}{T:TypeId}{A:Option Addr}{n cap:Nat}(h:Rw W S v r)(o:Ob W b T [.slice A n cap]):Rw W (b::S) v r:=by
 obtain⟨B,k,rfl,h1,h2,h3,h4⟩:=h
 refine⟨B,k,rfl,h1,h2,h3,?_⟩
 rcases h4 with h4|⟨c,p,e,hcS,hc⟩
 ·exact .inl h4
 ·rcases r with _|⟨x,r⟩
  ·exact .inl rfl
  ·refine .inr ⟨c,p,e,?_,hc⟩
   intro hcb
   rcases List.mem_cons.1 hcb with hcb|hcb
   ·subst hcb
    have q:=hc 0 (.int .i64 x.1) rfl
    rw[cell_of_row W c (p+0) _ T (0,0) o] at q
    rcases p with _|p
    ·simp at q
    ·simp at q
   ·exact hcS hcb
theorem rw_boxp{W:World}{S:List Nat}{v:Value}{r:List Vl}{b:Nat}{T:TypeId}{A:Option Addr}{n cap:Nat}{u:Value}(h:Rw W S v r)(o:Ob W b T [u])(hu:u= .slice A n cap):Rw W (b::S) v r:=by
 subst hu;exact rw_box h o
theorem ew_box{W:World}{S:List Nat}{v:Value}{L:List Ve}{b:Nat}{T:TypeId}{A:Option Addr}{n cap:Nat}(h:Ew W S v L)(o:Ob W b T [.slice A n cap]):Ew W (b::S) v L:=by
 refine⟨?_,fun p hp=>rw_box (h.2 p hp) o⟩
 obtain⟨B,k,rfl,h1,h2,h3,h4⟩:=h.1
 refine⟨B,k,rfl,h1,h2,h3,?_⟩
 rcases h4 with h4|⟨c,p,e,hcS,hc⟩
 ·exact .inl h4
 ·rcases L with _|⟨x,L⟩
  ·exact .inl rfl
  ·refine .inr ⟨c,p,e,?_,hc⟩
   intro hcb
   rcases List.mem_cons.1 hcb with hcb|hcb
   ·subst hcb
    have q:=hc 1 (.int .i64 x.2.2.1) rfl
    rw[cell_of_row W c (p+1) _ T (0,0) o] at q
    simp at q
   ·exact hcS hcb
def lifeP(q:List Vl)(f:List Jp):List Ed:=(lifeL f).map fun s=>(q,s)
def piecesL(G:List Gp):List Ed:=G.flatMap fun g=>lifeP g.1 g.2
theorem piecesL_snoc(G:List Gp)(g:Gp):piecesL (G++[g])=piecesL G++lifeP g.1 g.2:=by simp[piecesL]
theorem lifeL_len(f:List Jp):((lifeL f).length:Int)=cntJ f:=by unfold lifeL cntJ;rw[spL_length]
theorem piecesL_pre(G:List Gp)(k:Nat):(piecesL (G.take k)).length≤(piecesL G).length:=by
 conv=>rhs;rw[←List.take_append_drop k G]
 unfold piecesL
 rw[List.flatMap_append,List.length_append]
 omega
def pcE(l:List Ed):Int:=if mayE l then (if tabE l then (if 4096<(piecesL (grp l)).length then 7 else 0) else 20) else 2
def pcR(l:List Ed):List Ed:=if pcE l=0 then piecesL (grp l) else []
structure PS (B0 b4:Nat) (W wr:World) (mv0 mv:Value) (M:List Ve):Prop where
 fr:Fr (ob mv0++[b4]) W wr
 ob4:Ob wr b4 73 [mv]
 own:OwnPr wr B0 mv M
 blk:∀k,mv.ownBlock=some k→mv0.ownBlock=some k∨W.heap.size≤k
theorem PS.keep{B0 b4:Nat}{W wr w1 w8:World}{mv0 mv v8:Value}{M:List Ve}(h:PS B0 b4 W wr mv0 mv M)(hX:Ext wr w1)(hg:w1.grownBy w8 mv.ownBlock){base e size n:Nat}{v:Value}{xs:List Value}(ho:wr.ownsRow base e size v n xs)(he:e≠114)(hb:e≠73) :
 (w8.setCell ⟨b4,0,none⟩ v8).ownsRow base e size v n xs:=by
 have h1:=own_ext ho hX
 refine own_keep h1 fun g hgo=>?_
 obtain⟨cur,hh⟩:=own_heap h1 hgo
 have hlt:=lt_of_block hh
 have hne:g≠b4:=by
  rintro rfl
  have o4:=h.ob4.ext hX
  unfold Ob at o4
  rw[hh] at o4
  injection o4 with o4
  injection o4 with _ e2
  exact hb e2
 rw[Below.heap_setCell w8 ⟨b4,0,none⟩ v8 g hne]
 refine hg.block g hlt fun e2=>?_
 obtain⟨cur2,hh2⟩:=own_heap (own_ext h.own.1 hX) e2.symm
 rw[hh] at hh2
 injection hh2 with hh2
 injection hh2 with _ e3
 exact he e3
theorem PS.app{C0:Option Addr}{n0 c0:Nat}{B0 b4:Nat}{W wr w1 w8:World}{mv0 mv v8:Value}{M:List Ve}{p:Ve}{S:List Nat}(h:PS B0 b4 W wr mv0 mv M)(hX:Ext wr w1)(ho:OwnPp w8 B0 v8 (M++[p]))(hg:w1.grownBy w8 mv.ownBlock)(hb:v8.ownBlock=mv.ownBlock∨v8.ownBlock=some w1.heap.size)
 (hp:Rw w1 S p.1 p.2.1) (hS:∀k,k<wr.heap.size→k∈S) (hB:B0≤wr.heap.size) (hm:mv= .slice C0 n0 c0):PS B0 b4 W (w8.setCell ⟨b4,0,none⟩ v8) mv0 v8 (M++[p]):=by
 have hne:mv.ownBlock≠some b4:=(h.ob4.ext hX).not_own (own_ext h.own.1 hX) (by decide)
 have h8:OwnPr w8 B0 v8 (M++[p]):=(h.own.ext hX).app ho hg hb fun x hx=>by
  obtain rfl:=List.mem_singleton.1 hx
  refine⟨S,hp,fun k hk=>hS k ?_⟩
  rcases List.mem_append.1 hk with hk|hk
  ·exact (ob_ge h.own.1 k hk).2
  ·have:=List.mem_range.1 hk;omega
 have o8:Ob w8 b4 73 [mv]:=(h.ob4.ext hX).grown hg (Ne.symm hne)
 have hne8:=o8.not_own ho (by decide)
 have hlt:=h.ob4.lt
 refine⟨?_,o8.set 0 _,⟨own_setB ho o8 (by decide) _,fun x hx=>?_⟩,fun k hk=>?_⟩
 ·refine (((h.fr.then (S':=[]) (Fr.of_ext hX) (by simp)).grown hg fun k hk=>?_).setCell ⟨b4,0,none⟩ _ (.inl (by simp)))
  rcases h.blk k hk with e|e
  ·exact .inl (List.mem_append_left _ (by unfold ob;rw[e];simp))
  ·exact .inr e
 ·exact Sl.less (Sl.set (rw_boxp (h8.2 x hx) o8 hm) ⟨b4,0,none⟩ _ (by simp)) (fun y hy=>List.mem_cons_of_mem _ hy)
 ·rcases hb with e|e
  ·rw[e] at hk;exact h.blk k hk
  ·rw[e] at hk
   obtain rfl:w1.heap.size=k:=Option.some.inj hk
   exact .inr (Nat.le_trans h.fr.size hX.size)
end Go.Proofs.YtajelkkiijdegaaGreat
