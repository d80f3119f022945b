/-
  A helper of ours: no claim of its own. Layer 12 (bag): a bag's entries sorted by their rows (the library's sort, laid by the guide's shelf).
-/
import Derived.Test.YtajelkkiijdegaaGreatBagS
import Derived.Test.YtajelkkiijdegaaGreatBagI
import Derived.Test.YtajelkkiijdegaaGreatBagB
import Derived.Test.YtajelkkiijdegaaGreatStepE
import Derived.Test.YtajelkkiijdegaaGreatDrRowD
import Derived.Test.YtajelkkiijdegaaGreatStepV
import Derived.Test.YtajelkkiijdegaaGreatEdgEa
set_option linter.unusedVariables false
set_option linter.unusedSimpArgs false
set_option linter.unusedSectionVars false
set_option maxHeartbeats 64000000
set_option maxRecDepth 100000
namespace Go.Proofs.YtajelkkiijdegaaGreat
open Go.RowKit
theorem nodup_of_map{α β:Type}(f:α→β){l:List α}(h:(l.map f).Nodup):l.Nodup:=by
 unfold List.Nodup at h ⊢
 rw[List.pairwise_map] at h
 exact h.imp fun hab e=>hab (by rw[e])
theorem same_str(a b:List UInt8):(Lit.string a).sameKey (Lit.string b)=decide (a=b):=by
 cases h:(Lit.string a).sameKey (Lit.string b)
 ·symm
  rw[decide_eq_false_iff_not]
  rintro rfl
  revert h
  simp[Lit.sameKey]
 ·have:=WideAt.sameKey_eq h
  injection this with this
  rw[decide_eq_true this]
theorem same_ent(p q:Fe):(fent rowB p).1.sameKey (fent rowB q).1=decide (rowB p.2.2.1=rowB q.2.2.1):=same_str _ _
def rowOk(r:List Vl):Prop:=mayR r=true∧∀x∈r,inI x.2.1
def edsIn(X:List Ed):Prop:=∀e∈X,∀x∈e.1,inI x.2.1
theorem rowOk_inj{a b:List Vl}(ha:rowOk a)(hb:rowOk b):rowB a=rowB b↔a=b:=rowB_inj ha.1 hb.1 ha.2 hb.2
theorem rows_ok{X:List Ed}(hm:mayE X=true)(hi:edsIn X){r:List Vl}(h:r∈rowsL X):rowOk r:=by
 obtain⟨e,he,rfl⟩:=((rowsL_ok (mayE_rise hm).1).2 r).1 h
 exact⟨(mayE_rise hm).1 e he,hi e he⟩
theorem grp_iff{X:List Ed}(hm:mayE X=true)(g:Gp):g∈grp X↔g.2=jmps X g.1∧g.2≠[]:=by
 constructor
 ·intro h
  obtain⟨-, -,k⟩:=grp_rows (mayE_rise hm)
  exact k g h
 ·rintro⟨h1,h2⟩
  rw[grp_eq (mayE_rise hm)]
  rw[h1] at h2
  exact List.mem_map.2 ⟨g.1,(mem_rows (mayE_rise hm).1 g.1).2 h2,by rw[←h1]⟩
theorem grp_row{X:List Ed}(hm:mayE X=true){g:Gp}(h:g∈grp X):g.1∈rowsL X:=(grp_mem hm h).2
theorem grp_nodup{X:List Ed}(hm:mayE X=true):((grp X).map Prod.fst).Nodup:=rlt_nodup (grp_rows (mayE_rise hm)).1
def BagX(T:List Fe)(X:List Ed):Prop:=tabE X=true∧(T.map (·.2.2)).Perm (grp X)∧edsIn X
theorem BagX.may{T:List Fe}{X:List Ed}(h:BagX T X):mayE X=true:=by have:=h.1;unfold tabE at this;exact (Bool.and_eq_true_iff.1 this).1
theorem BagX.mem{T:List Fe}{X:List Ed}(h:BagX T X){p:Fe}(hp:p∈T):p.2.2∈grp X:=h.2.1.mem_iff.1 (List.mem_map.2 ⟨p,hp,rfl⟩)
theorem BagX.row{T:List Fe}{X:List Ed}(h:BagX T X){p:Fe}(hp:p∈T):rowOk p.2.2.1:=rows_ok h.may h.2.2 (grp_row h.may (h.mem hp))
theorem BagX.nil:BagX [] []:=⟨by decide +kernel,by simp[grp],by intro e he;cases he⟩
theorem jmpAt_x{T:List Fe}{X:List Ed}(h:BagX T X){q:List Vl}(hq:rowOk q):jmpAt T q=jmps X q:=by
 unfold jmpAt getM
 cases hf:T.find? (fun p=>(fent rowB p).1.sameKey (.string (rowB q))) with
 |some p =>
  have hp:=List.mem_of_find?_eq_some hf
  have hk:=List.find?_some hf
  simp only[fent,same_str,decide_eq_true_eq] at hk
  have e:=(rowOk_inj (h.row hp) hq).1 hk
  have:=((grp_iff h.may p.2.2).1 (h.mem hp)).1
  rw[e] at this
  exact this
 |none =>
  have hn:=List.find?_eq_none.1 hf
  by_cases hj:jmps X q=[]
  ·exact hj.symm
  ·exfalso
   have hg:(q,jmps X q)∈grp X:=(grp_iff h.may (q,jmps X q)).2 ⟨rfl,hj⟩
   obtain⟨p,hp,e⟩:=List.mem_map.1 (h.2.1.mem_iff.2 hg)
   have:=hn p hp
   simp only[fent,same_str,decide_eq_true_eq] at this
   exact this (by rw[e])
theorem inF_ok{l:List Jp}(h:∀j∈l,j.1<1125899906842624):inF l=l:=by
 unfold inF
 rw[List.filter_eq_self]
 intro j hj
 have:=h j hj
 rw[decide_eq_true_iff];omega
theorem nm_two{f g:List Jp}(hf:mayJ f=true)(hg:mayJ g=true):nmOp (f++g)=(twE addO f g,twR addO f g):=by
 have hl:∀j∈f++g,j.1<1125899906842624:=fun j hj=>(List.mem_append.1 hj).elim (fun h=>(mayJ_at hf j h).2) (fun h=>(mayJ_at hg j h).2)
 have e:nmL (f++g)=opd addO f g:=by
  unfold nmL opd
  rw[inF_ok hl]
  have e1:jv (f++g)=opv addO f g:=by funext t;rw[jv_append];rfl
  have e2:plc [] (f++g)=plc (plc [] f) g:=by unfold plc;rw[List.foldl_append]
  rw[e1,e2]
 have hfi:∀j∈f++g,tooJ j=false∧nowJ j=false:=fun j hj=>(List.mem_append.1 hj).elim (fineJ hf j) (fineJ hg j)
 have e3:nmE (f++g)=twE addO f g:=by
  rw[nmE_full hfi,e]
  unfold twE
  rw[hf,hg];rfl
 unfold nmOp nmR twR
 rw[e3,e]
theorem sum_one{T:List Fe}{X l:List Ed}(h:BagX T X)(hl:mayE l=true)(hi:edsIn l){g:Gp}(hg:g∈grp l):(sumE T g,(sumG T g).2)=addOne X g:=by
 have hr:=rows_ok hl hi (grp_row hl hg)
 have hj:mayJ g.2=true:=(mayE_iff.1 hl).2.2 g hg
 unfold sumE sumG addOne
 rw[jmpAt_x h hr,nm_two (mayJ_rows h.may _) hj]
theorem lenT_x{T:List Fe}{X:List Ed}(h:BagX T X):lenT T=X.length:=by
 rw[len_rowsI h.may]
 have e:lenT T=((T.map (·.2.2)).map fun g=>(g.2.length:Int)).sum:=by unfold lenT;rw[List.map_map];rfl
 rw[e,perm_sumI (h.2.1.map _),grp_eq (mayE_rise h.may)]
 unfold byRows
 rw[List.map_map]
 rfl
theorem lenAt_x{T:List Fe}{p:Fe}:lenAt rowB T p=(jmpAt T p.2.2.1).length:=by
 unfold lenAt jmpAt
 show (match getM (fent rowB) T (.string (rowB p.2.2.1)) with|some q=>q.2.2.2.length|none=>0)=_
 cases getM (fent rowB) T (.string (rowB p.2.2.1))<;>rfl
section
variable {T U:List Fe} {X l:List Ed} (h:BagX T X) (hl:mayE l=true) (hi:edsIn l) (hU:(U.map (·.2.2)).Perm ((grp l).map (sumG T)))
theorem u_mem{p:Fe}(hU:(U.map (·.2.2)).Perm ((grp l).map (sumG T)))(hp:p∈U):∃g∈grp l,p.2.2=sumG T g:=by
 obtain⟨g,hg,e⟩:=List.mem_map.1 (hU.mem_iff.1 (List.mem_map.2 ⟨p,hp,rfl⟩))
 exact⟨g,hg,e.symm⟩
include h hl hi hU
theorem u_row{p:Fe}(hp:p∈U):p.2.2.1∈rowsL l∧p.2.2.2=(addOne X (p.2.2.1,jmps l p.2.2.1)).2:=by
 obtain⟨g,hg,e⟩:=u_mem hU hp
 have h1:=grp_mem hl hg
 have h2:=sum_one h hl hi hg
 have e1:p.2.2.1=g.1:=by rw[e];rfl
 have e2:(g.1,jmps l g.1)=g:=by rw[←h1.1]
 rw[e1,e2,←h2,e]
 exact⟨h1.2,rfl⟩
theorem szW_x:szW rowB T U=((evL nmOp (byRows (X++l))).length:Int):=by
 unfold szW
 rw[up_len h.may hl,lenT_x h]
 congr 1
 have e:(U.map fun p=>(p.2.2.2.length:Int)-lenAt rowB T p)=(U.map (·.2.2)).map fun g=>(g.2.length:Int)-(jmps X g.1).length:=by
  rw[List.map_map]
  refine List.map_congr_left fun p hp=>?_
  obtain⟨k1, -⟩:=u_row h hl hi hU hp
  rw[lenAt_x,jmpAt_x h (rows_ok hl hi k1)]
  rfl
 rw[e,perm_sumI (hU.map _),List.map_map]
 congr 1
 refine List.map_congr_left fun g hg=>?_
 have:=sum_one h hl hi hg
 simp only[Function.comp]
 rw[←this]
 rfl
theorem belT_x(h0:neE (X++l)=0):belT U= !tabE (neR (X++l)):=by
 rw[up_tab h.1 hl h0]
 unfold belT
 have e:(U.any fun p=>decide (leV p.2.2.2<0))=(U.map (·.2.2)).any fun g=>decide (leV g.2<0):=by rw[List.any_map];rfl
 rw[e,any_permM hU,List.any_map]
 rw[Bool.eq_iff_iff,List.any_eq_true,Bool.not_eq_true',List.all_eq_false]
 constructor
 ·rintro⟨g,hg,k⟩
  refine⟨g,hg,?_⟩
  rw[←sum_one h hl hi hg]
  simp only[Function.comp,decide_eq_true_eq] at k
  simp only[decide_eq_true_eq]
  omega
 ·rintro⟨g,hg,k⟩
  refine⟨g,hg,?_⟩
  rw[←sum_one h hl hi hg] at k
  simp only[decide_eq_true_eq] at k
  simp only[Function.comp,decide_eq_true_eq]
  omega
theorem u_nodup:(U.map (·.2.2.1)).Nodup:=by
 have e:U.map (·.2.2.1)=(U.map (·.2.2)).map Prod.fst:=by rw[List.map_map];rfl
 rw[e]
 refine ((hU.map Prod.fst).nodup_iff).2 ?_
 rw[List.map_map]
 exact grp_nodup hl
theorem in_new(h0:neE (X++l)=0):edsIn (neR (X++l)):=by
 have hm:=ne_may h0
 intro e he x hx
 have hr:e.1∈rowsL (neR (X++l)):=((rowsL_ok (mayE_rise hm).1).2 _).2 ⟨e,he,rfl⟩
 by_cases hin:e.1∈rowsL l
 ·exact (rows_ok hl hi hin).2 x hx
 ·rw[mem_rows (mayE_rise hm).1,up_fn_out h.may hl h0 hin] at hr
  exact (rows_ok h.may h.2.2 ((mem_rows (mayE_rise h.may).1 _).2 hr)).2 x hx
theorem upd_x(h0:neE (X++l)=0)(ht:tabE (neR (X++l))=true):BagX (updT rowB T U) (neR (X++l)):=by
 have hm:=ne_may h0
 refine⟨ht,?_,in_new h hl hi hU h0⟩
 have hTn:(T.map (·.2.2.1)).Nodup:=by
  have e:T.map (·.2.2.1)=(T.map (·.2.2)).map Prod.fst:=by rw[List.map_map];rfl
  rw[e]
  exact ((h.2.1.map Prod.fst).nodup_iff).2 (grp_nodup h.may)
 have hUn:=u_nodup h hl hi hU
 -- an entry of the bag stays just if its row is none of the edges'
 have hstay:∀p∈T,(!U.any fun q=>(fent rowB p).1.sameKey (fent rowB q).1)=true↔p.2.2.1∉rowsL l:=by
  intro p hp
  rw[Bool.not_eq_true',List.any_eq_false]
  constructor
  ·intro k hin
   have hg:(p.2.2.1,jmps l p.2.2.1)∈grp l:=(grp_iff hl _).2 ⟨rfl,(mem_rows (mayE_rise hl).1 _).1 hin⟩
   obtain⟨u,hu,e⟩:=List.mem_map.1 (hU.mem_iff.2 (List.mem_map.2 ⟨_,hg,rfl⟩))
   have:=k u hu
   rw[same_ent,decide_eq_true_iff] at this
   exact this (by rw[e];rfl)
  ·intro k u hu
   rw[same_ent,decide_eq_true_iff]
   intro e
   have hur:=(u_row h hl hi hU hu).1
   exact k (by rw[(rowOk_inj (h.row hp) (rows_ok hl hi hur)).1 e];exact hur)
 refine (List.perm_ext_iff_of_nodup ?_ ?_).2 fun g=>?_
 ·refine nodup_of_map Prod.fst ?_
  unfold updT
  rw[List.map_append,List.map_append,List.map_map,List.map_map]
  refine List.nodup_append.2 ⟨(List.filter_sublist.map _).nodup hTn,(List.filter_sublist.map _).nodup hUn,?_⟩
  intro a ha b hb e
  obtain⟨p,hp,rfl⟩:=List.mem_map.1 ha
  obtain⟨u,hu,rfl⟩:=List.mem_map.1 hb
  obtain⟨hp1,hp2⟩:=List.mem_filter.1 hp
  have hu1:=(List.mem_filter.1 hu).1
  refine (hstay p hp1).1 hp2 ?_
  have e':p.2.2.1=u.2.2.1:=e
  rw[e']
  exact (u_row h hl hi hU hu1).1
 ·exact nodup_of_map Prod.fst (grp_nodup hm)
 ·rw[grp_iff hm]
  unfold updT
  rw[List.map_append,List.mem_append,List.mem_map,List.mem_map]
  constructor
  ·rintro (⟨p,hp,rfl⟩|⟨u,hu,rfl⟩)
   ·obtain⟨hp1,hp2⟩:=List.mem_filter.1 hp
    have hn:=(hstay p hp1).1 hp2
    rw[up_fn_out h.may hl h0 hn]
    exact (grp_iff h.may _).1 (h.mem hp1)
   ·obtain⟨hu1,hu2⟩:=List.mem_filter.1 hu
    obtain⟨k1,k2⟩:=u_row h hl hi hU hu1
    rw[up_fn_in h.may hl h0]
    refine⟨k2,fun e=>?_⟩
    rw[e] at hu2
    cases hu2
  ·rintro⟨h1,h2⟩
   by_cases hin:g.1∈rowsL l
   ·right
    have hg:(g.1,jmps l g.1)∈grp l:=(grp_iff hl _).2 ⟨rfl,(mem_rows (mayE_rise hl).1 _).1 hin⟩
    obtain⟨u,hu,e⟩:=List.mem_map.1 (hU.mem_iff.2 (List.mem_map.2 ⟨_,hg,rfl⟩))
    have e1:=sum_one h hl hi hg
    have e2:u.2.2=g:=by
     rw[e]
     have:(sumG T (g.1,jmps l g.1)).2=g.2:=by
      rw[h1,up_fn_in h.may hl h0,←e1]
     exact Prod.ext rfl this
    refine⟨u,List.mem_filter.2 ⟨hu,?_⟩,e2⟩
    rw[e2]
    cases hg2:g.2 with
    |nil=>exact absurd hg2 h2
    |cons _ _=>rfl
   ·left
    rw[up_fn_out h.may hl h0 hin] at h1
    obtain⟨p,hp,e⟩:=List.mem_map.1 (h.2.1.mem_iff.2 ((grp_iff h.may g).2 ⟨h1,h2⟩))
    exact⟨p,List.mem_filter.2 ⟨hp,(hstay p hp).2 (by rw[e];exact hin)⟩,e⟩
end
end Go.Proofs.YtajelkkiijdegaaGreat
namespace Go.Proofs.YtajelkkiijdegaaGreat.Dr
open Go.RowKit
attribute [local go_sem] GW.cell GW.frozen In.eq_true In.le_true In.ne In.ne' In.ne_add In.ne_add' In.lt_add Upto.le_true Upto.le_add Upto.lt_add
theorem bagByRow_d(q r:List Vl)(v j u k:Value)(hj:∃A n c,j= .slice A n c)(hk:∃A n c,k= .slice A n c)(w:World)(hq:Rw w [] v q)(hr:Rw w [] u r):Calls Tryz.prog 78 #[.agg #[v,j], .agg #[u,k]] w fun e w'=>e= .returned (.int .i64 (cmpR q r))∧Ext w w':=by
 have h1:=hide (fun w' (hX:Ext w w')=>rowCompare_c (Sl.ext hq hX.ext) (Sl.ext hr hX.ext))
 obtain⟨A,cap,rfl⟩:=rw_val hq
 obtain⟨B,cap2,rfl⟩:=rw_val hr
 obtain⟨A1,n1,c1,rfl⟩:=hj
 obtain⟨A2,n2,c2,rfl⟩:=hk
 have hX0:=hide (((Ext.refl w).alloc (.cells #[.slice A q.length cap, .slice A1 n1 c1] 124)).alloc (.cells #[.slice B r.length cap2, .slice A2 n2 c2] 124))
 generalize cmpR q r=m at *
 clear hq hr
 go_enter Tryz.func78,Tryz.ntmps78
 go_wp2_with (go_at_call 137;(with_reducible refine seq_gw (h1.out _ hX0.out) ?_);intro g)
 go_returns
 exact⟨rfl,hX0.out.trans g.grown⟩
end Go.Proofs.YtajelkkiijdegaaGreat.Dr
namespace Go.Proofs.YtajelkkiijdegaaGreat
open Go.RowKit
def f2(p:Fe):List Value:=[p.1,p.2.1]
theorem fcs_length:∀L:List Fe,(fcs L).length=L.length*2
 |[]=>rfl
 |p::L=>by have:=fcs_length L;unfold fcs at *;rw[List.flatMap_cons,List.length_append,this,List.length_cons];simp;omega
theorem fcs_get:∀(L:List Fe) (i:Nat) (p:Fe),L[i]? = some p→∀(j:Nat) (v:Value),(f2 p)[j]? = some v→(fcs L)[i*2+j]? = some v
 |[],_,_,h,_,_,_=>by simp at h
 |q::r,0,p,h,j,v,hv=>by
  simp at h;subst h
  have hj:j<(f2 q).length:=(List.getElem?_eq_some_iff.1 hv).1
  show (f2 q++fcs r)[0*2+j]? = _
  rw[List.getElem?_append_left (by omega),show 0*2+j=j by omega];exact hv
 |q::r,i+1,p,h,j,v,hv=>by
  have:=fcs_get r i p (by simpa using h) j v hv
  show (f2 q++fcs r)[(i+1)*2+j]? = _
  rw[show (i+1)*2+j=(f2 q).length+(i*2+j) by simp[f2];omega,List.getElem?_append_right (by omega),Nat.add_sub_cancel_left]
  exact this
def FeOk(w:World)(S:List Nat)(p:Fe):Prop:=Rw w S p.1 p.2.2.1∧(∃A n c,p.1= .slice A n c)∧(∃A n c,p.2.1= .slice A n c)∧mayR p.2.2.1=true
abbrev SF(w:World)(g:Nat):={ p:Fe // FeOk w [g] p}
instance (w:World) (g:Nat):Inhabited (SF w g):=⟨⟨(.slice none 0 0, .slice none 0 0,[],[]),Sl.nil w [g] 3,⟨_,_,_,rfl⟩,⟨_,_,_,rfl⟩,rfl⟩⟩
def encF{w:World}{g:Nat}(x:SF w g):List Value:=f2 x.1
def cfF{w:World}{g:Nat}(x y:SF w g):Int:=cmpT x.1.2.2.1 y.1.2.2.1
theorem lt_cmpF{w:World}{g:Nat}(x y:SF w g):Go.Proofs.ltOf cfF x y=decide (cmpT x.1.2.2.1 y.1.2.2.1<0):=rfl
theorem swo_fns{w:World}{g:Nat}:Go.Sort.SWO (Go.Proofs.ltOf (cfF (w:=w) (g:=g))) where
 irrefl x:=by rw[lt_cmpF,cmpT_self x.2.2.2.2];rfl
 trans x y z h1 h2:=by
  rw[lt_cmpF,decide_eq_true_iff] at *
  have:=cmpT_trans _ _ _ (mayR_iff.1 x.2.2.2.2).2 (mayR_iff.1 y.2.2.2.2).2 (mayR_iff.1 z.2.2.2.2).2 (by omega) (by omega)
  omega
 ntrans x y z h1 h2:=by
  rw[lt_cmpF,decide_eq_false_iff_not] at *
  have s1:=cmpT_swap x.1.2.2.1 y.1.2.2.1
  have s2:=cmpT_swap y.1.2.2.1 z.1.2.2.1
  have s3:=cmpT_swap x.1.2.2.1 z.1.2.2.1
  have:=cmpT_trans _ _ _ (mayR_iff.1 z.2.2.2.2).2 (mayR_iff.1 y.2.2.2.2).2 (mayR_iff.1 x.2.2.2.2).2 (by omega) (by omega)
  omega
theorem flat_fc{w:World}{g:Nat}(l:List (SF w g)):Go.Sort.flatK encF 2 l.toArray=(fcs (l.map Subtype.val)).toArray:=by
 apply Array.ext
 ·simp[fcs_length]
 ·intro t h1 h2
  have ht:t<l.length*2:=by simpa using h1
  have hi:t / 2<l.length:=by omega
  have hg:=fcs_get (l.map Subtype.val) (t / 2) l[t / 2].1 (by rw[List.getElem?_map,List.getElem?_eq_getElem (by omega)];rfl)
  have e:=Go.Sort.get_flatK encF 2 l.toArray t (by simpa using ht)
  rw[getElem!_pos _ t h1] at e
  have e2:l.toArray[t / 2]! = l[t / 2]:=by rw[getElem!_pos l.toArray (t / 2) (by simpa using hi)];simp
  rw[e,e2]
  have h2':t<(fcs (l.map Subtype.val)).length:=by rw[fcs_length,List.length_map];exact ht
  have e3:(fcs (l.map Subtype.val)).toArray[t]=(fcs (l.map Subtype.val))[t]:=by simp
  rw[e3]
  have hm:t % 2<2:=Nat.mod_lt _ (by decide)
  have key:∀j,j<2→t=t / 2*2+j→(encF l[t / 2])[t % 2]! = (fcs (l.map Subtype.val))[t]:=by
   intro j hj ej
   have hjm:t % 2=j:=by omega
   have hv:(f2 l[t / 2].1)[j]? = some ((f2 l[t / 2].1)[j]'(by simp[f2];omega)):=List.getElem?_eq_getElem _
   have:=hg j _ hv
   rw[←ej,List.getElem?_eq_getElem h2'] at this
   rw[Option.some.inj this,hjm]
   unfold encF
   rw[getElem!_pos _ j (by simp[f2];omega)]
  exact key (t % 2) hm (by omega)
theorem sub_listF{w:World}{g:Nat}:∀(L:List Fe),(∀p∈L,FeOk w [g] p)→∃D:List (SF w g),D.map Subtype.val=L
 |[],_=>⟨[],rfl⟩
 |p::L,h=>by
  obtain⟨D,hD⟩:=sub_listF L fun q hq=>h q (by simp[hq])
  exact⟨⟨p,h p (by simp)⟩::D,by rw[List.map_cons,hD]⟩
theorem sortF_c(base:Nat)(L:List Fe)(v:Value)(w:World)(h:OwnFs w base v L)(hrows:∀p∈L,FeOk w (ob v) p)(hn:L.length≤1000000000):Calls Tryz.prog 135 #[v, .func (.func 78) #[] #[]] w fun e w' =>
 e= .returned (.tuple #[])∧∃s:List Fe,s.Perm L∧s.Pairwise (fun a b=>cmpT a.2.2.1 b.2.2.1≤0)∧OwnFs w' base v s∧Fr (ob v) w w':=by
 rcases h.2 with ⟨rfl,h0⟩|⟨g,cap,cur,rfl,hb,hg,hnc,hcm,hcs,ht⟩
 ·obtain rfl:L=[]:=List.eq_nil_of_length_eq_zero (by simpa using h0)
  have hc:=AnyF.slices_SortFunc_none Tryz.sortB none 0 (.func (.func 78) #[] #[]) w
  refine hc.mono ?_
  rintro e w' ⟨rfl,rfl⟩
  exact⟨rfl,[],List.Perm.refl _,List.Pairwise.nil,h,Fr.refl _ _⟩
 ·have eg:∀args w,(callFunc 78 args).run Tryz.prog w= .ok (.enter 78 args) w:=enters_of Tryz.func78 (by kernel_rfl) rfl
  have hob:ob (Value.slice (some ⟨g,0,none⟩) L.length cap)=[g]:=rfl
  rw[hob] at hrows ⊢
  obtain⟨D,hD⟩:=sub_listF L hrows
  have hDl:D.length=L.length:=by rw[←hD,List.length_map]
  have hH:Go.Sort.HoldsK encF 2 w g 0 D.toArray:=by
   unfold Go.Sort.HoldsK
   rw[flat_fc,hD]
   intro j hj
   have hj':j<L.length*2:=by rw[←fcs_length];simpa using hj
   have h1:=World.ownsRow.cellAt h j hj'
   have h2:=World.ownsRow.frozenAt h j
   rw[Nat.zero_add]
   refine⟨?_,h2⟩
   rw[h1,getElem!_pos _ j hj]
   simp[List.getElem?_eq_getElem (show j<(fcs L).length by rw[fcs_length];exact hj')]
  have hgrows:∀(n:Nat) (d':Array (SF w g)) (os:Array Obj),w.grownBy (Go.Proofs.sortWorldK encF 2 w g 0 n d' os) (some g):=fun n d' os=>by
   unfold Go.Proofs.sortWorldK Go.Sort.putRowK;exact grownBy_put _
  have hcmp:Go.Proofs.CmpLays Tryz.prog 78 #[] (encF (w:=w) (g:=g)) 2 cfF g 0 D.toArray.size w:=by
   intro m os dk _ x y
   have hF:Fr [g] w (Go.Proofs.sortWorldK encF 2 w g 0 m dk os):=(Fr.refl [g] w).grown (hgrows m dk os) (fun k hk=>by cases hk;exact .inl (by simp))
   have hx:=Sl.less (S':=[]) (Sl.fr x.2.1 hF (by simp)) (by simp)
   have hy:=Sl.less (S':=[]) (Sl.fr y.2.1 hF (by simp)) (by simp)
   refine (Dr.bagByRow_d x.1.2.2.1 y.1.2.2.1 x.1.1 x.1.2.1 y.1.1 y.1.2.1 x.2.2.2.1 y.2.2.2.1 _ hx hy).mono ?_
   rintro e w' ⟨rfl,hE⟩
   exact⟨by rw[cmpR_of x.2.2.2.2 y.2.2.2.2];rfl,Dr.ext_grow hE⟩
  have hcon:=AnyQ.slices_SortFunc Tryz.sortB 2 Tryz.isAgg124 Tryz.sizeOf124 (encF (w:=w) (g:=g)) (fun _=>rfl) (fun x u hu=>by
   obtain⟨A1,n1,c1,e1⟩:=x.2.2.1
   obtain⟨A2,n2,c2,e2⟩:=x.2.2.2.1
   simp only[encF,f2,List.mem_cons,List.not_mem_nil,or_false] at hu
   rcases hu with rfl|rfl
   ·rw[e1];rfl
   ·rw[e2];rfl) cfF swo_fns 78 #[] g 0 cap D.toArray w eg hcmp hH (lt_of_block hg) (by simp;omega)
  have hsz:D.toArray.size=L.length:=by simp[hDl]
  rw[hsz] at hcon
  refine hcon.mono ?_
  rintro e w' ⟨rfl,d',n,os,hp,hs,rfl⟩
  obtain⟨p1,_,p3⟩:=hp
  have hd:d'.size=L.length:=by rw[p1,hsz]
  have e1:d'.extract 0 L.length=d':=by rw[←hd];simp
  have e2:D.toArray.extract 0 L.length=D.toArray:=by rw[←hsz];simp
  rw[e1,e2] at p3
  have hl:d'.toList.length=L.length:=by rw[Array.length_toList];exact hd
  have hflat:Go.Sort.flatK encF 2 d'=(fcs (d'.toList.map Subtype.val)).toArray:=by have:=flat_fc d'.toList;rwa [Array.toArray_toList] at this
  have hgr:=hgrows n d' os
  have hml:(d'.toList.map Subtype.val).length=L.length:=by rw[List.length_map];exact hl
  refine⟨rfl,d'.toList.map Subtype.val,?_,?_,?_,(Fr.refl [g] w).grown hgr (fun k hk=>by cases hk;exact .inl (by simp))⟩
  ·rw[←hD]
   exact (show d'.toList.Perm D by simpa using p3).map _
  ·rw[List.pairwise_map,List.pairwise_iff_getElem]
   intro i j hi hj hij
   have:=hs i j (Nat.zero_le _) hij (by rw[hl] at hj;exact hj)
   rw[lt_cmpF,decide_eq_false_iff_not,getElem!_pos d' j (by simpa using hj),getElem!_pos d' i (by simpa using hi)] at this
   simp only[Array.getElem_toList]
   have hsw:=cmpT_swap (d'[i]'(by simpa using hi)).1.2.2.1 (d'[j]'(by simpa using hj)).1.2.2.1
   omega
  ·refine⟨by rw[fcs_length], .inr ⟨g,cap,Go.Sort.putCells id 0 (fcs (d'.toList.map Subtype.val)).toArray cur,by rw[hml],hb,?_,by rw[hml];exact hnc,hcm,by simp[Go.Sort.putCells,hcs],?_⟩⟩
   ·unfold Go.Proofs.sortWorldK Go.Sort.putRowK
    rw[hflat]
    exact heap_put _ hg
   ·have:=take_put cur (fcs (d'.toList.map Subtype.val)) (by rw[fcs_length,hml,hcs];exact Nat.mul_le_mul_right _ hnc)
    rwa [fcs_length] at this
theorem sorted_grp{T s:List Fe}{X:List Ed}(h:BagX T X)(hp:s.Perm T)(hs:s.Pairwise (fun a b=>cmpT a.2.2.1 b.2.2.1≤0)):s.map (·.2.2)=grp X:=by
 have hg:=grp_rows (mayE_rise h.may)
 have hpp:(s.map (·.2.2)).Perm (grp X):=(hp.map _).trans h.2.1
 refine List.Perm.eq_of_pairwise (le:=fun a b:Gp=>cmpT a.1 b.1≤0) (fun a b ha hb h1 h2=>?_) (by rw[List.pairwise_map];exact hs) ?_ hpp
 ·have ra:=rows_ok h.may h.2.2 (grp_row h.may (hpp.mem_iff.1 ha))
  have rb:=rows_ok h.may h.2.2 (grp_row h.may hb)
  have hsw:=cmpT_swap a.1 b.1
  have e:a.1=b.1:=(row_eq ra.1 rb.1).1 (by omega)
  have ea:=((grp_iff h.may a).1 (hpp.mem_iff.1 ha)).1
  have eb:=((grp_iff h.may b).1 hb).1
  exact Prod.ext e (by rw[ea,eb,e])
 ·have:=hg.1
  rw[List.pairwise_map] at this
  exact this.imp fun {a b} k=>by have:=k.2;omega
end Go.Proofs.YtajelkkiijdegaaGreat
