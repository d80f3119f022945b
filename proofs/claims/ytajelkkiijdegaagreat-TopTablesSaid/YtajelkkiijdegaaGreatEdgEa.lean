/-
  A helper of ours: no claim of its own. Layer 10 (edge): what is made of each row's jumps (edge.each).
-/
import Derived.Test.YtajelkkiijdegaaGreatDrRowD
import Derived.Test.YtajelkkiijdegaaGreatEdgB
import Derived.Test.YtajelkkiijdegaaGreatSortE
import Derived.Test.YtajelkkiijdegaaGreatStepV
import Derived.Test.YtajelkkiijdegaaGreatEdgEn
import Derived.Test.YtajelkkiijdegaaGreatEdgO
import Derived.Lib.AppendZerosOnto
import Derived.Lib.LazyBuf
import Derived.WalkLawsBesides
import Derived.Laws.FloatArith
import Derived.Laws.ComplexArith
import Derived.Test.YtajelkkiijdegaaGreatRows
import Derived.Test.YtajelkkiijdegaaGreatMem
import Derived.Handy
import Derived.Test.YtajelkkiijdegaaGreatEdgA
import Derived.Test.YtajelkkiijdegaaGreatStepE
set_option linter.unusedVariables false
set_option linter.unusedSimpArgs false
set_option linter.unusedSectionVars false
set_option maxHeartbeats 64000000
set_option maxRecDepth 100000
namespace Go.Proofs.YtajelkkiijdegaaGreat.Dr
open Go.RowKit
attribute [local go_sem] GW.cell GW.frozen In.eq_true In.le_true In.ne In.ne' In.ne_add In.ne_add' In.lt_add Upto.le_true Upto.le_add Upto.lt_add
theorem byRow_d(q:List Vl)(j:Jp)(v:Value)(r:List Vl)(k:Jp)(u:Value)(w:World)(hq:Rw w [] v q)(hr:Rw w [] u r):Calls Tryz.prog 116 #[em v j,em u k] w fun e w'=>e= .returned (.int .i64 (cmpR q r))∧Ext w w':=by
 obtain⟨jp,jn⟩:=j
 obtain⟨kp,kn⟩:=k
 have h1:=hide (fun w' (hX:Ext w w')=>rowCompare_c (Sl.ext hq hX.ext) (Sl.ext hr hX.ext))
 obtain⟨A,cap,rfl⟩:=rw_val hq
 obtain⟨B,cap2,rfl⟩:=rw_val hr
 have hX0:=hide (((Ext.refl w).alloc (.cells #[.slice A q.length cap, .int .i64 jp, .int .i64 jn] 131)).alloc (.cells #[.slice B r.length cap2, .int .i64 kp, .int .i64 kn] 131))
 generalize cmpR q r=m at *
 clear hq hr
 go_enter Tryz.func116,Tryz.ntmps116
 go_wp2_with (go_at_call 137;(with_reducible refine seq_gw (h1.out _ hX0.out) ?_);intro g)
 go_returns
 exact⟨rfl,hX0.out.trans g.grown⟩
theorem ext_grow{W w:World}(h:Ext W w):∃q os',w=Go.Sort.grow (W.drewN q) os':=by
 obtain⟨⟨hos,htape,hout,hsize,hblock⟩,hd⟩:=h
 refine⟨w.drawn-W.drawn,w.heap.extract W.heap.size w.heap.size,?_⟩
 have hh:w.heap=W.heap++w.heap.extract W.heap.size w.heap.size:=by
  apply Array.ext_getElem?
  intro i
  by_cases hi:i<W.heap.size
  ·rw[Array.getElem?_append_left hi,hblock i hi]
  ·rw[Array.getElem?_append_right (by omega),Array.getElem?_extract]
   by_cases hj:i<w.heap.size
   ·rw[if_pos (by omega)];congr 1;omega
   ·rw[if_neg (by omega),Array.getElem?_eq_none (by omega)]
 obtain⟨wh,wt,wd,wo,wu⟩:=w
 obtain⟨Wh,Wt,Wd,Wo,Wu⟩:=W
 simp only at hos htape hout hd hh
 subst hos;subst htape;subst hout
 unfold Go.Sort.grow World.drewN
 simp only
 rw[show Wd+(wd-Wd)=wd by omega]
 congr 1
end Go.Proofs.YtajelkkiijdegaaGreat.Dr
namespace Go.Proofs.YtajelkkiijdegaaGreat
open Go.RowKit
abbrev SE(w:World)(g:Nat):={ p:Ve // Rw w [g] p.1 p.2.1∧mayR p.2.1=true}
instance (w:World) (g:Nat):Inhabited (SE w g):=⟨⟨(.slice none 0 0,[],(0,0)),Sl.nil w [g] 3,rfl⟩⟩
def encE{w:World}{g:Nat}(x:SE w g):List Value:=ec1 x.1
def cfE{w:World}{g:Nat}(x y:SE w g):Int:=cmpT x.1.2.1 y.1.2.1
theorem lt_cmpE{w:World}{g:Nat}(x y:SE w g):Go.Proofs.ltOf cfE x y=decide (cmpT x.1.2.1 y.1.2.1<0):=rfl
theorem swo_rows{w:World}{g:Nat}:Go.Sort.SWO (Go.Proofs.ltOf (cfE (w:=w) (g:=g))) where
 irrefl x:=by rw[lt_cmpE,cmpT_self x.2.2];rfl
 trans x y z h1 h2:=by
  rw[lt_cmpE,decide_eq_true_iff] at *
  have:=cmpT_trans _ _ _ (mayR_iff.1 x.2.2).2 (mayR_iff.1 y.2.2).2 (mayR_iff.1 z.2.2).2 (by omega) (by omega)
  omega
 ntrans x y z h1 h2:=by
  rw[lt_cmpE,decide_eq_false_iff_not] at *
  have s1:=cmpT_swap x.1.2.1 y.1.2.1
  have s2:=cmpT_swap y.1.2.1 z.1.2.1
  have s3:=cmpT_swap x.1.2.1 z.1.2.1
  have:=cmpT_trans _ _ _ (mayR_iff.1 z.2.2).2 (mayR_iff.1 y.2.2).2 (mayR_iff.1 x.2.2).2 (by omega) (by omega)
  omega
theorem flat_ec{w:World}{g:Nat}(l:List (SE w g)):Go.Sort.flatK encE 3 l.toArray=(ec (l.map Subtype.val)).toArray:=by
 apply Array.ext
 ·simp[ec_length]
 ·intro t h1 h2
  have ht:t<l.length*3:=by simpa using h1
  have hi:t / 3<l.length:=by omega
  have hg:=ec_get (l.map Subtype.val) (t / 3) l[t / 3].1 (by rw[List.getElem?_map,List.getElem?_eq_getElem (by omega)];rfl)
  have e:=Go.Sort.get_flatK encE 3 l.toArray t (by simpa using ht)
  rw[getElem!_pos _ t h1] at e
  have e2:l.toArray[t / 3]! = l[t / 3]:=by rw[getElem!_pos l.toArray (t / 3) (by simpa using hi)];simp
  rw[e,e2]
  have h2':t<(ec (l.map Subtype.val)).length:=by rw[ec_length,List.length_map];exact ht
  have e3:(ec (l.map Subtype.val)).toArray[t]=(ec (l.map Subtype.val))[t]:=by simp
  rw[e3]
  have hm:t % 3<3:=Nat.mod_lt _ (by decide)
  have key:∀j,j<3→t=t / 3*3+j→(encE l[t / 3])[t % 3]! = (ec (l.map Subtype.val))[t]:=by
   intro j hj ej
   have hjm:t % 3=j:=by omega
   have hv:(ec1 l[t / 3].1)[j]? = some ((ec1 l[t / 3].1)[j]'(by simp[ec1];omega)):=List.getElem?_eq_getElem _
   have:=hg j _ hv
   rw[←ej,List.getElem?_eq_getElem h2'] at this
   rw[Option.some.inj this,hjm]
   unfold encE
   rw[getElem!_pos _ j (by simp[ec1];omega)]
  exact key (t % 3) hm (by omega)
theorem sub_list{w:World}{g:Nat}:∀(L:List Ve),(∀p∈L,Rw w [g] p.1 p.2.1∧mayR p.2.1=true)→∃D:List (SE w g),D.map Subtype.val=L
 |[],_=>⟨[],rfl⟩
 |p::L,h=>by
  obtain⟨D,hD⟩:=sub_list L fun q hq=>h q (by simp[hq])
  exact⟨⟨p,h p (by simp)⟩::D,by rw[List.map_cons,hD]⟩
theorem sortE_c(W0:World)(L:List Ve)(v:Value)(w:World)(h:OwnE w W0.heap.size v L)(hrows:∀p∈L,Rw w (ob v) p.1 p.2.1∧mayR p.2.1=true)(hX:Ext W0 w)(hn:L.length≤1000000000):Calls Tryz.prog 115 #[v, .func (.func 116) #[] #[]] w fun e w' =>
 e= .returned (.tuple #[])∧∃s:List Ve,s.Perm L∧Rise (eds s)∧OwnE w' W0.heap.size v s∧Ext W0 w'∧∀p∈s,Rw w' (ob v) p.1 p.2.1:=by
 rcases h.2 with ⟨rfl,h0⟩|⟨g,cap,cur,rfl,hb,hg,hnc,hcm,hcs,ht⟩
 ·obtain rfl:L=[]:=List.eq_nil_of_length_eq_zero (by simpa using h0)
  have hc:=AnyF.slices_SortFunc_none Tryz.sortE none 0 (.func (.func 116) #[] #[]) w
  refine hc.mono ?_
  rintro e w' ⟨rfl,rfl⟩
  exact⟨rfl,[],List.Perm.refl _,⟨by simp[eds],List.Pairwise.nil⟩,h,hX,by simp⟩
 ·have eg:∀args w,(callFunc 116 args).run Tryz.prog w= .ok (.enter 116 args) w:=enters_of Tryz.func116 (by kernel_rfl) rfl
  have hob:ob (Value.slice (some ⟨g,0,none⟩) L.length cap)=[g]:=rfl
  rw[hob] at hrows
  obtain⟨D,hD⟩:=sub_list L hrows
  have hDl:D.length=L.length:=by rw[←hD,List.length_map]
  have hH:Go.Sort.HoldsK encE 3 w g 0 D.toArray:=by
   unfold Go.Sort.HoldsK
   rw[flat_ec,hD]
   intro j hj
   have hj':j<L.length*3:=by rw[←ec_length];simpa using hj
   have h1:=World.ownsRow.cellAt h j hj'
   have h2:=World.ownsRow.frozenAt h j
   rw[Nat.zero_add]
   refine⟨?_,h2⟩
   rw[h1,getElem!_pos _ j hj]
   simp[List.getElem?_eq_getElem (show j<(ec L).length by rw[ec_length];exact hj')]
  have hgrows:∀(n:Nat) (d':Array (SE w g)) (os:Array Obj),w.grownBy (Go.Proofs.sortWorldK encE 3 w g 0 n d' os) (some g):=fun n d' os=>by
   unfold Go.Proofs.sortWorldK Go.Sort.putRowK;exact grownBy_put _
  have hcmp:Go.Proofs.CmpLays Tryz.prog 116 #[] (encE (w:=w) (g:=g)) 3 cfE g 0 D.toArray.size w:=by
   intro m os dk _ x y
   have hF:Fr [g] w (Go.Proofs.sortWorldK encE 3 w g 0 m dk os):=(Fr.refl [g] w).grown (hgrows m dk os) (fun k hk=>by cases hk;exact .inl (by simp))
   have hx:=Sl.less (S':=[]) (Sl.fr x.2.1 hF (by simp)) (by simp)
   have hy:=Sl.less (S':=[]) (Sl.fr y.2.1 hF (by simp)) (by simp)
   refine (Dr.byRow_d x.1.2.1 x.1.2.2 x.1.1 y.1.2.1 y.1.2.2 y.1.1 _ hx hy).mono ?_
   rintro e w' ⟨rfl,hE⟩
   exact⟨by rw[cmpR_of x.2.2 y.2.2];rfl,Dr.ext_grow hE⟩
  have hcon:=AnyQ.slices_SortFunc Tryz.sortE 3 Tryz.isAgg131 Tryz.sizeOf131 (encE (w:=w) (g:=g)) (fun _=>rfl) (fun x u hu=>by simp[encE,ec1] at hu;rcases hu with rfl|rfl|rfl;exact row_one x.2.1;rfl;rfl) cfE swo_rows 116 #[] g 0 cap D.toArray w eg hcmp hH (lt_of_block hg) (by simp;omega)
  have hsz:D.toArray.size=L.length:=by simp[hDl]
  rw[hsz] at hcon
  refine hcon.mono ?_
  rintro e w' ⟨rfl,d',n,os,hp,hs,rfl⟩
  obtain⟨p1,_,p3⟩:=hp
  have hd:d'.size=L.length:=by rw[p1,hsz]
  have e1:d'.extract 0 L.length=d':=by rw[←hd];simp
  have e2:D.toArray.extract 0 L.length=D.toArray:=by rw[←hsz];simp
  rw[e1,e2] at p3
  have hl:d'.toList.length=L.length:=by rw[Array.length_toList];exact hd
  have hflat:Go.Sort.flatK encE 3 d'=(ec (d'.toList.map Subtype.val)).toArray:=by have:=flat_ec d'.toList;rwa [Array.toArray_toList] at this
  have hgr:=hgrows n d' os
  have hB:W0.heap.size≤g:=hb
  have hml:(d'.toList.map Subtype.val).length=L.length:=by rw[List.length_map];exact hl
  have hF:Fr [g] w (Go.Proofs.sortWorldK encE 3 w g 0 n d' os):=(Fr.refl [g] w).grown hgr (fun k hk=>by cases hk;exact .inl (by simp))
  refine⟨rfl,d'.toList.map Subtype.val,?_,?_,?_,ext_grown hX hgr (fun k hk=>by cases hk;exact hB),?_⟩
  ·rw[←hD]
   exact (show d'.toList.Perm D by simpa using p3).map _
  ·refine⟨fun e he=>?_,?_⟩
   ·simp only[eds,List.map_map,List.mem_map] at he
    obtain⟨x, -,rfl⟩:=he
    exact x.2.2
   ·rw[eds,List.map_map,List.pairwise_map,List.pairwise_iff_getElem]
    intro i j hi hj hij
    have:=hs i j (Nat.zero_le _) hij (by rw[hl] at hj;exact hj)
    rw[lt_cmpE,decide_eq_false_iff_not,getElem!_pos d' j (by simpa using hj),getElem!_pos d' i (by simpa using hi)] at this
    simp only[Array.getElem_toList,Function.comp_def]
    have hsw:=cmpT_swap (d'[i]'(by simpa using hi)).1.2.1 (d'[j]'(by simpa using hj)).1.2.1
    omega
  ·refine⟨by rw[ec_length], .inr ⟨g,cap,Go.Sort.putCells id 0 (ec (d'.toList.map Subtype.val)).toArray cur,by rw[hml],hb,?_,by rw[hml];exact hnc,hcm,by simp[Go.Sort.putCells,hcs],?_⟩⟩
   ·unfold Go.Proofs.sortWorldK Go.Sort.putRowK
    rw[hflat]
    exact heap_put _ hg
   ·have:=take_put cur (ec (d'.toList.map Subtype.val)) (by rw[ec_length,hml,hcs];exact Nat.mul_le_mul_right _ hnc)
    rwa [ec_length] at this
  ·intro p hp
   obtain⟨x, -,rfl⟩:=List.mem_map.1 hp
   exact show Rw _ [g] _ _ from Sl.fr x.2.1 hF (fun b hb=>hb)
end Go.Proofs.YtajelkkiijdegaaGreat
namespace Go.Proofs.YtajelkkiijdegaaGreat
open Go.RowKit
attribute [local go_sem] GW.cell GW.frozen In.eq_true In.le_true In.ne In.ne' In.ne_add In.ne_add' In.lt_add Upto.le_true Upto.le_add Upto.lt_add
theorem any_bad:∀L:List Ve,(eds L).any badE=(!(L.all fun x=>mayR x.2.1) || !(L.all fun x=> !tooJ x.2.2))
 |[]=>rfl
 |x::L=>by
  have ih:=any_bad L
  simp only[eds,List.map_cons,List.any_cons,List.all_cons] at ih ⊢
  rw[ih]
  unfold badE
  cases mayR x.2.1<;>cases tooJ x.2.2<;>cases (L.all fun x=>mayR x.2.1)<;>cases (L.all fun x=> !tooJ x.2.2)<;>rfl
theorem any_now:∀L:List Ve,(eds L).any (fun e=>nowJ e.2)= !(L.all fun x=> !nowJ x.2.2)
 |[]=>rfl
 |x::L=>by
  have ih:=any_now L
  simp only[eds,List.map_cons,List.any_cons,List.all_cons] at ih ⊢
  rw[ih]
  cases nowJ x.2.2<;>cases (L.all fun x=> !nowJ x.2.2)<;>rfl
theorem mayR_len{r:List Vl}(h:mayR r=true):r.length≤8:=(mayR_iff.1 h).1
theorem edgeNorm_c(L:List Ve)(hL:L.length≤8192)(hJ:∀r,(jmps (eds L) r).length≤8192)(v:Value)(w:World)(hC:Ew w [] v L):Calls Tryz.prog 61 #[v] w fun e w'=>∃v' M,e= .returned (.tuple #[v', .int .i64 (neE (eds L))])∧eds M=neR (eds L)∧OwnEr w' w.heap.size v' M∧Ext w w':=by
 have h1:=hide (fun w' (hX:Ext w w')=>containsERow_c L v w' (hC.ext hX))
 have h2:=hide (fun w' (hX:Ext w w')=>containsEToo_c L v w' (hC.ext hX))
 have h3:=hide (fun w' (hX:Ext w w')=>containsENow_c L v w' (hC.ext hX))
 have h4:=hide (fun w' (hX:Ext w w')=>edgClone_c L v w' (hC.ext hX) (by omega))
 have hX0:=hide (Ext.refl w)
 obtain⟨A,cap,rfl,hlc,hlm, -⟩:=ew_form hC
 unfold maxLen at hlm
 obtain⟨E,hE⟩:∃E,E=neE (eds L):=⟨_,rfl⟩
 obtain⟨R,hR⟩:∃R,R=neR (eds L):=⟨_,rfl⟩
 rw[←hE,←hR]
 have hR':R=if E=0 then eachR nmOp (byRows (eds L)) else []:=by rw[hR,hE];rfl
 unfold neE at hE
 rw[any_bad,any_now] at hE
 clear hR
 cases ha:L.all fun x=>mayR x.2.1
 ·rw[ha] at hE h1
  replace hE:E=2:=by simpa using hE
  subst hE
  replace hR':R=[]:=by rw[hR',if_neg (by decide)]
  replace hR':=hide hR'
  go_enter Tryz.func61,Tryz.ntmps61
  go_wp2_with (go_at_call 63;(with_reducible refine seq_gw (h1.out _ hX0.out) ?_);intro g)
  go_returns
  exact⟨_,[],rfl,by rw[hR'.out];rfl,OwnEr.nil _ _,g.grown⟩
 cases hb:L.all fun x=> !tooJ x.2.2
 ·rw[ha,hb] at hE
  rw[ha] at h1
  rw[hb] at h2
  replace hE:E=2:=by simpa using hE
  subst hE
  replace hR':R=[]:=by rw[hR',if_neg (by decide)]
  replace hR':=hide hR'
  go_enter Tryz.func61,Tryz.ntmps61
  go_wp2_with (first|(go_at_call 63;(with_reducible refine seq_gw (h1.out _ hX0.out) ?_);intro g)|(go_at_call 63;(with_reducible refine seq_gw' (h2.out _ g.grown) ?_);intro g2))
  go_returns
  exact⟨_,[],rfl,by rw[hR'.out];rfl,OwnEr.nil _ _,g2.grown⟩
 cases hc:L.all fun x=> !nowJ x.2.2
 ·rw[ha,hb,hc] at hE
  rw[ha] at h1
  rw[hb] at h2
  rw[hc] at h3
  replace hE:E=13:=by simpa using hE
  subst hE
  replace hR':R=[]:=by rw[hR',if_neg (by decide)]
  replace hR':=hide hR'
  go_enter Tryz.func61,Tryz.ntmps61
  go_wp2_with (first|(go_at_call 63;(with_reducible refine seq_gw (h1.out _ hX0.out) ?_);intro g)|(go_at_call 63;(with_reducible refine seq_gw' (h2.out _ g.grown) ?_);intro g2)|(go_at_call 63;(with_reducible refine seq_gw' (h3.out _ g2.grown) ?_);intro g3))
  go_returns
  exact⟨_,[],rfl,by rw[hR'.out];rfl,OwnEr.nil _ _,g3.grown⟩
 rw[ha,hb,hc] at hE
 replace hE:E=eachE nmOp (byRows (eds L)):=by simpa using hE
 rw[ha] at h1
 rw[hb] at h2
 rw[hc] at h3
 have hvr:∀p∈L,mayR p.2.1=true:=fun p hp=>List.all_eq_true.1 ha p hp
 have hsort:=hide (fun (v1:Value) (w1:World) (ho:OwnE w1 w.heap.size v1 L) (hX:Ext w w1)=>sortE_c w L v1 w1 ho (fun p hp=>⟨Sl.ext (Sl.new (S':=ob v1) (hC.2 p hp) (fun k hk=> .inr (ob_ge ho k hk).1)) hX,hvr p hp⟩) hX (by omega))
 have heach:=hide (fun (s:List Ve) (hp:s.Perm L) (hs:Rise (eds s)) (v1:Value) (w1:World) (ho:OwnE w1 w.heap.size v1 s) (hrw:∀p∈s,Rw w1 (ob v1) p.1 p.2.1) =>
  eachNorm_c s v1 w1 ⟨Sl.own ho (by simp),fun p hp=>Sl.less (hrw p hp) (by simp)⟩ (by rw[hp.length_eq];exact hL) (fun g hg=>by
   obtain⟨k1,k2,k3⟩:=grp_rows hs
   obtain⟨e,he,hee⟩:=(k2 g.1).1 (List.mem_map.2 ⟨g,hg,rfl⟩)
   refine⟨by rw[←hee];exact mayR_len (hs.1 e he),?_⟩
   rw[(k3 g hg).1,(jmps_perm (hp.map Prod.snd) g.1).length_eq]
   exact hJ g.1))
 have hcode:=hide (fun (s:List Ve) (hp:s.Perm L) (hs:Rise (eds s))=>norm_code_e (l:=eds L) (s:=eds s) (hp.map Prod.snd) hs)
 have hRr:Hid (R=eachR nmOp (byRows (eds L))):=by
  show R=_
  rw[hR',hE]
  split
  ·rfl
  ·rename_i h;unfold eachR;rw[if_neg h]
 replace hE:=hide hE
 clear hR' ha hb hc hvr hJ hC
 go_enter Tryz.func61,Tryz.ntmps61
 go_wp2_with (first|(go_at_call 63;(with_reducible refine seq_gw (h1.out _ hX0.out) ?_);intro g)|(go_at_call 63;(with_reducible refine seq_gw' (h2.out _ g.grown) ?_);intro g2)|(go_at_call 63;(with_reducible refine seq_gw' (h3.out _ g2.grown) ?_);intro g3)|(go_at_call 114;refine (h4.out _ g3.grown).mono ?_;rintro ee w1 ⟨v1,rfl,ho1,hx1⟩;have hX1:=g3.grown.trans hx1;replace ho1:=own_base ho1 g3.grown.size)|(go_at_call 115;refine (hsort.out v1 w1 ho1 hX1).mono ?_;rintro ee w2 ⟨rfl,s,hp,hs,ho2,hX2,hrw2⟩)|(go_at_call 72;refine (heach.out s hp hs v1 w2 ho2 hrw2).mono ?_;rintro ee w3 ⟨v3,M,rfl,hM,ho3,hX3⟩))
 go_returns
 exact⟨_,M,by rw[(hcode.out s hp hs).1,←hE.out];rfl,by rw[hM,(hcode.out s hp hs).2,←hRr.out],ho3.lower hX2.size,hX2.trans hX3⟩
end Go.Proofs.YtajelkkiijdegaaGreat
namespace Go.Proofs.YtajelkkiijdegaaGreat
open Go.RowKit
attribute [local go_sem] GW.cell GW.frozen In.eq_true In.le_true In.ne In.ne' In.ne_add In.ne_add' In.lt_add Upto.le_true Upto.le_add Upto.lt_add Oper.semAt_some wide_depth wide_fn
theorem ret_plain{P:Program}{fn:Func}{R:Ending→World→Prop}{tmps:Array Value}{W:World}{v:Value}(hr:(results fn tmps).run P W= .ok v W)(hR:R (.returned v) W) :
 bodyPostM Fence.wide 0 P fn R .ret { tmps:=tmps,defers:=[]} W:=⟨v,hr,hR⟩
theorem all_rows(L:List Ve):(eds L).all (fun e=>mayR e.1)=L.all fun x=>mayR x.2.1:=by rw[eds,List.all_map];rfl
theorem edgeMay_c(L:List Ve)(v:Value)(w:World)(hC:Ew w [] v L):Calls Tryz.prog 62 #[v] w fun e w'=>e= .returned (.bool (mayE (eds L)))∧Ext w w':=by
 have h1:=hide (fun w' (hX:Ext w w')=>containsERow_c L v w' (hC.ext hX))
 have h2:=hide (fun (hv:∀p∈L,mayR p.2.1=true) w' (hX:Ext w w')=>isSorted_c L hv v w' (hC.ext hX))
 obtain⟨A,cap,rfl,hlc,hlm, -⟩:=ew_form hC
 unfold maxLen at hlm
 obtain⟨R,hR⟩:∃R,R=mayE (eds L):=⟨_,rfl⟩
 rw[←hR]
 unfold mayE at hR
 rw[all_rows,List.length_map] at hR
 have ob0:Ob (w.alloc (.cells #[.bool false] 4)) w.heap.size 4 [.bool false]:=Ob.new w _ [.bool false]
 have hX0:Ext w (w.alloc (.cells #[.bool false] 4)):=(Ext.refl w).alloc _
 have hnw:Hid (∀k,k<w.heap.size+1→True):=fun _ _=>trivial
 refine calls_marks Tryz.func62 rfl ?_
 simp only[Tryz.ntmps62,List.size_toArray,List.length_cons,List.length_nil,Nat.reduceAdd,Nat.reduceSub,Array.replicate_succ,Array.replicate_zero,List.push_toArray,List.append_toArray,List.nil_append,List.cons_append]
 obtain⟨Wb,hWb⟩:∃Wb,Wb=w.alloc (.cells #[.bool false] 4):=⟨_,rfl⟩
 rw[←hWb] at ob0 hX0
 have hWs:Wb.heap.size=w.heap.size+1:=by rw[hWb];simp
 have hX0h:=hide hX0
 by_cases hl:4096<L.length
 ·have hf:=hide (show R=false by rw[hR,decide_eq_false (by omega),Bool.false_and])
  clear hR h1 h2
  go_wp2
  rw[←hWb]
  have q0:=ob0.cell 0 rfl
  exact ret_plain (v:= .bool false) (by simp[results,Tryz.f62,go_sem,q0]) ⟨by rw[hf.out],hX0⟩
 have hlI:(L.length:Int)≤4096:=by omega
 rw[decide_eq_true (by omega),Bool.true_and] at hR
 cases ha:L.all fun x=>mayR x.2.1
 ·rw[ha,Bool.false_and] at hR
  rw[ha] at h1
  replace hR:=hide hR
  clear h2
  go_wp2_with (go_at_call 63;(with_reducible refine seq_gw (h1.out _ (by rw[←hWb];exact hX0h.out)) ?_);intro g)
  have o2:Ob (g.val.setCell ⟨w.heap.size,0,none⟩ (.bool false)) w.heap.size 4 [.bool false]:=((hWb ▸ ob0).ext g.grown).set 0 _
  have q2:=o2.cell 0 rfl
  exact ret_plain (v:= .bool false) (by simp[results,Tryz.f62,go_sem,q2]) ⟨by rw[hR.out],((hWb ▸ hX0).trans g.grown).setCell (p:=⟨w.heap.size,0,none⟩) (by simp) _⟩
 rw[ha,Bool.true_and] at hR
 rw[ha] at h1
 have hv:∀p∈L,mayR p.2.1=true:=fun p hp=>List.all_eq_true.1 ha p hp
 have h3:=hide (h2.out hv)
 clear h2 ha
 cases hs:riseB (eds L)
 ·rw[hs,Bool.false_and] at hR
  rw[hs] at h3
  replace hR:=hide hR
  go_wp2_with (first|(go_at_call 63;(with_reducible refine seq_gw (h1.out _ (by rw[←hWb];exact hX0h.out)) ?_);intro g)|(go_at_call 119;(with_reducible refine seq_gw' (h3.out _ ((by rw[←hWb];exact hX0h.out:Ext w (w.alloc (.cells #[.bool false] 4))).trans g.grown)) ?_);intro g2))
  have o2:Ob (g2.val.setCell ⟨w.heap.size,0,none⟩ (.bool false)) w.heap.size 4 [.bool false]:=((hWb ▸ ob0).ext g2.grown).set 0 _
  have q2:=o2.cell 0 rfl
  exact ret_plain (v:= .bool false) (by simp[results,Tryz.f62,go_sem,q2]) ⟨by rw[hR.out],((hWb ▸ hX0).trans g2.grown).setCell (p:=⟨w.heap.size,0,none⟩) (by simp) _⟩
 rw[hs,Bool.true_and] at hR
 rw[hs] at h3
 have hRf:Hid (∀g∈grp (eds L),mayJ g.2=false→R=false):=fun g hg h=>by
  rw[hR,←Bool.not_eq_true,List.all_eq_true]
  intro k
  have:=k g hg
  rw[h] at this;cases this
 have hRt:Hid ((∀g∈grp (eds L),mayJ g.2=true)→R=true):=fun h=>by rw[hR,List.all_eq_true];exact h
 clear hR hs
 replace hv:=hide hv
 replace hC:=hide hC
 go_wp2_with (first|(go_at_call 63;(with_reducible refine seq_gw (h1.out _ (by rw[←hWb];exact hX0h.out)) ?_);intro g)|(go_at_call 119;(with_reducible refine seq_gw' (h3.out _ ((by rw[←hWb];exact hX0h.out:Ext w (w.alloc (.cells #[.bool false] 4))).trans g.grown)) ?_);intro g2)|(go_at_call 120;refine (functions_c _ _ _ _).mono ?_;rintro ee w1 ⟨b,rfl,hb,hle,hX1⟩))
 have hX2:=hide (((hWb ▸ hX0:Ext w (w.alloc (.cells #[.bool false] 4))).trans g2.grown).trans hX1)
 have o1:Ob w1 w.heap.size 4 [.bool false]:=(((hWb ▸ ob0:Ob (w.alloc (.cells #[.bool false] 4)) w.heap.size 4 [.bool false])).ext g2.grown).ext hX1
 have hz2:=hX2.out.size
 have hlw:=o1.lt
 clear h1 h3 hX1 hle hWs hWb ob0 hX0 hX0h
 refine wp_range (xs:=grp (eds L)) rfl (enters_of Tryz.func173 (by kernel_rfl) rfl) (functions_seq L _ w w1 b hC.out (by omega) hX2.out hb) (Ext.refl _) hX2.out.size (fun x vs W h=>h.size) (fun x vs=>Hg.stab x vs)
  (fun k W=>Ob W w.heap.size 4 [.bool false]∧(Ext w W∧∀g∈(grp (eds L)).take k,mayJ g.2=true))
  (fun c k W=>((c= .ret∧R=false)∧Ob W w.heap.size 4 [.bool false])∧Ext w W)
  (fun k=>(Stab.ob _ _ _).and ((Stab.of_ext hz2).and (Stab.pure _)))
  (fun c k=>((Stab.pure _).and (Stab.ob _ _ _)).and (Stab.of_ext hz2))
  ⟨o1,hX2.out,by simp⟩
  (fun k x vs a' _=>∃r f,vs= #[r,f]∧a'={ tmps:= #[.slice A L.length cap,undef, .pointer (some ⟨w.heap.size,0,none⟩),undef,f, .slice A L.length cap, .int .i64 L.length, .bool (decide ((4096:Int)<L.length)), .bool (decide ((4096:Int)<L.length)), .slice A L.length cap, .bool false, .bool (decide ((4096:Int)<L.length)), .bool (decide ((4096:Int)<L.length)), .slice A L.length cap, .bool true, .bool false, .bool (decide ((4096:Int)<L.length)), .slice A L.length cap, .func (.func 173) #[] #[.pointer (some ⟨b,0,none⟩)],r,f,undef,undef,undef],defers:=[]})
  (fun k x vs a'=>Stab.pure _) ?assign ?body ?done ?stop
 case assign =>
  rintro LL k x vs W K _ ⟨r,f,rfl, -, -⟩ hK
  gi_wp2
  exact hK _ _ (Ext.refl _) ⟨r,f,rfl,rfl⟩
 case body =>
  rintro LL k x vs a' W hx ⟨o0,hXw,hno⟩ ⟨r',f',e',hr,hf⟩ ⟨r,f,rfl,rfl⟩
  obtain⟨rfl,rfl⟩:r=r'∧f=f':=by simpa using e'
  obtain⟨q,J⟩:=x
  have q0:=o0.cell 0 rfl
  have hfr:=o0.free 0
  have hcall:=hide (stepMay_c J f W hf)
  have hzW:=hXw.size
  have hmem:∀y∈[w.heap.size],∃T vs,Ob W y T vs:=by intro y hy;simp at hy;subst hy;exact⟨_,_,o0⟩
  replace hmem:=hide hmem
  have hltW:=o0.lt
  have hgm:(q,J)∈grp (eds L):=List.mem_of_getElem? hx
  haveI:In w.heap.size W:=⟨hltW⟩
  obtain⟨JA,jcap,rfl, -, -, -⟩:=jw_form hf
  cases hm:mayJ J
  ·rw[hm] at hcall
   have hR0:=hide (hRf.out (q,J) hgm hm)
   clear hx hm hgm
   gi_wp2_with (gi_at_call 106;(with_reducible refine seq_gi hcall.out ?_);intro g)
   exact⟨keeps_fr (S:=[w.heap.size]) ((Fr.of_ext g.grown).setCell _ _ (.inl (by simp))) hmem.out,⟨⟨rfl,hR0.out⟩,(o0.ext g.grown).set 0 _⟩,(hXw.trans g.grown).setCell (p:=⟨w.heap.size,0,none⟩) (by simp) _⟩
  ·rw[hm] at hcall
   have hno2:=hide (show ∀g∈(grp (eds L)).take (k+1),mayJ g.2=true from fun g hg=>by
    rw[List.take_add_one,hx] at hg
    rcases List.mem_append.1 hg with hg|hg
    ·exact hno g hg
    ·obtain rfl:g=(q,J):=by simpa using hg
     exact hm)
   clear hx hm hgm hno
   gi_wp2_with (gi_at_call 106;(with_reducible refine seq_gi hcall.out ?_);intro g)
   exact⟨keeps_ext g.grown,below_fr (S:=[]) (Fr.of_ext g.grown) hzW (by simp),o0.ext g.grown,hXw.trans g.grown,hno2.out⟩
 case done =>
  rintro D W hD ⟨o0,hXw,hno⟩ hK
  rw[List.take_of_length_le (Nat.le_refl _)] at hno
  have hRf2:=hide (hRt.out hno)
  have q1:=o0.cell 0 rfl
  have hfr:=o0.free 0
  clear hno
  go_wp2
  have hK2:=(KeepsOthers.setCell W ⟨w.heap.size,0,none⟩ (.bool true)).same D _ hK rfl
  have o2:Ob (W.setCell ⟨w.heap.size,0,none⟩ (.bool true)) w.heap.size 4 [.bool true]:=o0.set 0 _
  have q2:=(ob_put (o':= .deferred none) hK2 rfl o2).cell 0 rfl
  refine ret_mark hK2 (v:= .bool true) ?_ ⟨by rw[hRf2.out],put_ext (hXw.setCell (p:=⟨w.heap.size,0,none⟩) (by simp) _) (by omega) _⟩
  simp[results,Tryz.f62,go_sem,q2]
 case stop =>
  rintro D c k W hD hk ⟨⟨⟨rfl,hna⟩,o0⟩,hXw⟩ hK
  have hRf2:=hide hna
  go_wp2
  have q2:=(ob_put (o':= .deferred none) hK rfl o0).cell 0 rfl
  refine ret_mark hK (v:= .bool false) ?_ ⟨by rw[hRf2.out],put_ext hXw (by omega) _⟩
  simp[results,Tryz.f62,go_sem,q2]
theorem edgeTable_c(L:List Ve)(v:Value)(w:World)(hC:Ew w [] v L):Calls Tryz.prog 181 #[v] w fun e w'=>e= .returned (.bool (tabE (eds L)))∧Ext w w':=by
 have h1:=hide (fun w' (hX:Ext w w')=>edgeMay_c L v w' (hC.ext hX))
 obtain⟨A,cap,rfl,hlc,hlm, -⟩:=ew_form hC
 unfold maxLen at hlm
 obtain⟨R,hR⟩:∃R,R=tabE (eds L):=⟨_,rfl⟩
 rw[←hR]
 unfold tabE at hR
 have ob0:Ob (w.alloc (.cells #[.bool false] 4)) w.heap.size 4 [.bool false]:=Ob.new w _ [.bool false]
 have hX0:Ext w (w.alloc (.cells #[.bool false] 4)):=(Ext.refl w).alloc _
 have hX0h:=hide hX0
 refine calls_marks Tryz.func181 rfl ?_
 simp only[Tryz.ntmps181,List.size_toArray,List.length_cons,List.length_nil,Nat.reduceAdd,Nat.reduceSub,Array.replicate_succ,Array.replicate_zero,List.push_toArray,List.append_toArray,List.nil_append,List.cons_append]
 cases ha:mayE (eds L)
 ·rw[ha,Bool.false_and] at hR
  rw[ha] at h1
  replace hR:=hide hR
  go_wp2_with (go_at_call 62;(with_reducible refine seq_gw (h1.out _ hX0h.out) ?_);intro g)
  have o2:Ob (g.val.setCell ⟨w.heap.size,0,none⟩ (.bool false)) w.heap.size 4 [.bool false]:=(ob0.ext g.grown).set 0 _
  have q2:=o2.cell 0 rfl
  exact ret_plain (v:= .bool false) (by simp[results,Tryz.f181,go_sem,q2]) ⟨by rw[hR.out],(hX0.trans g.grown).setCell (p:=⟨w.heap.size,0,none⟩) (by simp) _⟩
 have hL4:L.length≤4096:=by have:=(mayE_iff.1 ha).1;simpa [eds] using this
 rw[ha,Bool.true_and] at hR
 rw[ha] at h1
 have hRf:Hid (∀g∈grp (eds L),leV g.2<0→R=false):=fun g hg h=>by
  rw[hR,←Bool.not_eq_true,List.all_eq_true]
  intro k
  have:=k g hg
  rw[decide_eq_true_iff] at this;omega
 have hRt:Hid ((∀g∈grp (eds L),0≤leV g.2)→R=true):=fun h=>by rw[hR,List.all_eq_true];exact fun g hg=>decide_eq_true (h g hg)
 clear hR ha
 replace hC:=hide hC
 go_wp2_with (first|(go_at_call 62;(with_reducible refine seq_gw (h1.out _ hX0h.out) ?_);intro g2)|(go_at_call 120;refine (functions_c _ _ _ _).mono ?_;rintro ee w1 ⟨b,rfl,hb,hle,hX1⟩))
 have hX2:=hide ((hX0.trans g2.grown).trans hX1)
 have o1:Ob w1 w.heap.size 4 [.bool false]:=(ob0.ext g2.grown).ext hX1
 have hz2:=hX2.out.size
 have hlw:=o1.lt
 clear h1 hX1 hle ob0 hX0 hX0h
 refine wp_range (xs:=grp (eds L)) rfl (enters_of Tryz.func173 (by kernel_rfl) rfl) (functions_seq L _ w w1 b hC.out (by omega) hX2.out hb) (Ext.refl _) hX2.out.size (fun x vs W h=>h.size) (fun x vs=>Hg.stab x vs)
  (fun k W=>Ob W w.heap.size 4 [.bool false]∧(Ext w W∧∀g∈(grp (eds L)).take k,0≤leV g.2))
  (fun c k W=>((c= .ret∧R=false)∧Ob W w.heap.size 4 [.bool false])∧Ext w W)
  (fun k=>(Stab.ob _ _ _).and ((Stab.of_ext hz2).and (Stab.pure _)))
  (fun c k=>((Stab.pure _).and (Stab.ob _ _ _)).and (Stab.of_ext hz2))
  ⟨o1,hX2.out,by simp⟩
  (fun k x vs a' _=>∃r f,vs= #[r,f]∧a'={ tmps:= #[.slice A L.length cap,undef, .pointer (some ⟨w.heap.size,0,none⟩),undef,f, .slice A L.length cap, .bool true, .bool false, .slice A L.length cap, .func (.func 173) #[] #[.pointer (some ⟨b,0,none⟩)],r,f,undef,undef,undef],defers:=[]})
  (fun k x vs a'=>Stab.pure _) ?assign ?body ?done ?stop
 case assign =>
  rintro LL k x vs W K _ ⟨r,f,rfl, -, -⟩ hK
  gi_wp2
  exact hK _ _ (Ext.refl _) ⟨r,f,rfl,rfl⟩
 case body =>
  rintro LL k x vs a' W hx ⟨o0,hXw,hno⟩ ⟨r',f',e',hr,hf⟩ ⟨r,f,rfl,rfl⟩
  obtain⟨rfl,rfl⟩:r=r'∧f=f':=by simpa using e'
  obtain⟨q,J⟩:=x
  have q0:=o0.cell 0 rfl
  have hfr:=o0.free 0
  have hcall:=hide (stepLeast_c J f W hf)
  have hzW:=hXw.size
  have hmem:∀y∈[w.heap.size],∃T vs,Ob W y T vs:=by intro y hy;simp at hy;subst hy;exact⟨_,_,o0⟩
  replace hmem:=hide hmem
  have hltW:=o0.lt
  have hgm:(q,J)∈grp (eds L):=List.mem_of_getElem? hx
  haveI:In w.heap.size W:=⟨hltW⟩
  obtain⟨JA,jcap,rfl, -, -, -⟩:=jw_form hf
  by_cases hm:leV J<0
  ·have hR0:=hide (hRf.out (q,J) hgm hm)
   generalize leV J=z at *
   clear hx hgm
   gi_wp2_with (gi_at_call 125;(with_reducible refine seq_gi hcall.out ?_);intro g)
   exact⟨keeps_fr (S:=[w.heap.size]) ((Fr.of_ext g.grown).setCell _ _ (.inl (by simp))) hmem.out,⟨⟨rfl,hR0.out⟩,(o0.ext g.grown).set 0 _⟩,(hXw.trans g.grown).setCell (p:=⟨w.heap.size,0,none⟩) (by simp) _⟩
  ·have hno2:=hide (show ∀g∈(grp (eds L)).take (k+1),0≤leV g.2 from fun g hg=>by
    rw[List.take_add_one,hx] at hg
    rcases List.mem_append.1 hg with hg|hg
    ·exact hno g hg
    ·obtain rfl:g=(q,J):=by simpa using hg
     exact Int.not_lt.1 hm)
   replace hno:=hide hno
   have hm':0≤leV J:=Int.not_lt.1 hm
   generalize leV J=z at *
   clear hx hgm
   gi_wp2_with (gi_at_call 125;(with_reducible refine seq_gi hcall.out ?_);intro g)
   exact⟨keeps_ext g.grown,below_fr (S:=[]) (Fr.of_ext g.grown) hzW (by simp),o0.ext g.grown,hXw.trans g.grown,hno2.out⟩
 case done =>
  rintro D W hD ⟨o0,hXw,hno⟩ hK
  rw[List.take_of_length_le (Nat.le_refl _)] at hno
  have hRf2:=hide (hRt.out hno)
  have q1:=o0.cell 0 rfl
  have hfr:=o0.free 0
  clear hno
  go_wp2
  have hK2:=(KeepsOthers.setCell W ⟨w.heap.size,0,none⟩ (.bool true)).same D _ hK rfl
  have o2:Ob (W.setCell ⟨w.heap.size,0,none⟩ (.bool true)) w.heap.size 4 [.bool true]:=o0.set 0 _
  have q2:=(ob_put (o':= .deferred none) hK2 rfl o2).cell 0 rfl
  refine ret_mark hK2 (v:= .bool true) ?_ ⟨by rw[hRf2.out],put_ext (hXw.setCell (p:=⟨w.heap.size,0,none⟩) (by simp) _) (by omega) _⟩
  simp[results,Tryz.f181,go_sem,q2]
 case stop =>
  rintro D c k W hD hk ⟨⟨⟨rfl,hna⟩,o0⟩,hXw⟩ hK
  have hRf2:=hide hna
  go_wp2
  have q2:=(ob_put (o':= .deferred none) hK rfl o0).cell 0 rfl
  refine ret_mark hK (v:= .bool false) ?_ ⟨by rw[hRf2.out],put_ext hXw (by omega) _⟩
  simp[results,Tryz.f181,go_sem,q2]
end Go.Proofs.YtajelkkiijdegaaGreat
namespace Go.Proofs.YtajelkkiijdegaaGreat
open Go.RowKit
attribute [local go_sem] GW.cell GW.frozen In.eq_true In.le_true In.ne In.ne' In.ne_add In.ne_add' In.lt_add Upto.le_true Upto.le_add Upto.lt_add
end Go.Proofs.YtajelkkiijdegaaGreat
namespace Go.Proofs.YtajelkkiijdegaaGreat.Floats
open Ieee
end Go.Proofs.YtajelkkiijdegaaGreat.Floats
namespace Go.Proofs.YtajelkkiijdegaaGreat
open Go.RowKit
attribute [local go_sem] GW.cell GW.frozen In.eq_true In.le_true In.ne In.ne' In.ne_add In.ne_add' In.lt_add Upto.le_true Upto.le_add Upto.lt_add
def isTickB(t:Int):Bool:=decide (0≤t) && decide (t≤1125899906842624)
def smayB(a b:Int):Bool:=isTickB a && isTickB b && decide (a<b)
def sokF(ok:Bool)(a:Int):Int:=if ok then a else 0
theorem mayB_lt{a b:Int}(h:smayB a b=true):a<b∧0≤a∧a≤1125899906842624∧0≤b∧b≤1125899906842624:=by
 simp[smayB,isTickB] at h;omega
theorem mayB_mk{a b:Int}(h:a<b∧0≤a∧a≤1125899906842624∧0≤b∧b≤1125899906842624):smayB a b=true:=by
 simp[smayB,isTickB];omega
theorem isTick_c(t:Int)(w:World):Calls Tryz.prog 163 #[.int .i64 t] w fun e w'=>e= .returned (.bool (isTickB t))∧w=w':=by
 by_cases h0:0≤t<;>by_cases h1:t≤1125899906842624
 all_goals
  go_enter Tryz.func163,Tryz.ntmps163
  go_wp2_with fail
  all_goals
   go_returns
   refine⟨by first|rfl|(simp [isTickB,h0,h1];done)|(simp [isTickB,h0,h1];omega),?_⟩
   exact rfl
theorem smay_c(a b:Int)(w:World):Calls Tryz.prog 109 #[.agg #[.int .i64 (a), .int .i64 (b)]] w fun e w'=>e= .returned (.bool (smayB a b))∧Ext w w':=by
 cases h0:isTickB a<;>cases h1:isTickB b<;>by_cases h2:a<b
 all_goals
  go_enter Tryz.func109,Tryz.ntmps109
  go_wp2_with (go_at_call 163;refine (isTick_c _ _).mono ?_;rintro e w' ⟨rfl,rfl⟩)
  all_goals
   go_returns
   refine⟨by first|rfl|(simp [smayB,h0,h1,h2];done)|(simp [smayB,h0,h1,h2];omega),?_⟩
   repeat (first|exact Ext.refl _|with_reducible assumption|refine Ext.alloc ?_ _|refine Ext.drew ?_|refine Ext.drewN ?_ _|refine ext_gw ?_ _|refine Ext.setCell ?_ (by first|(simp;done)|(simp [Upto.le_true,Upto.le_add];done)|(simp;omega)) _)
theorem unless_c(a b:Int)(w:World):Calls Tryz.prog 239 #[.int .i64 a, .int .i64 b] w fun e w'=>e= .returned (.tuple #[.agg #[.int .i64 (sokF (decide (a<b)) (a)), .int .i64 (sokF (decide (a<b)) (b))], .bool (decide (a<b))])∧Ext w w':=by
 by_cases h:a<b
 all_goals
  go_enter Tryz.func239,Tryz.ntmps239
  go_wp2_with fail
  all_goals
   go_returns
   refine⟨by first|rfl|(simp [sokF,h];done)|(simp [sokF,h];omega),?_⟩
   repeat (first|exact Ext.refl _|with_reducible assumption|refine Ext.alloc ?_ _|refine Ext.drew ?_|refine Ext.drewN ?_ _|refine ext_gw ?_ _|refine Ext.setCell ?_ (by first|(simp;done)|(simp [Upto.le_true,Upto.le_add];done)|(simp;omega)) _)
def aheadB(a b t:Int):Bool:=smayB a b && decide (a<t)
theorem ahead_c(a b t:Int)(w:World):Calls Tryz.prog 201 #[.agg #[.int .i64 (a), .int .i64 (b)], .int .i64 t] w fun e w'=>e= .returned (.tuple #[.agg #[.int .i64 (sokF (aheadB a b t) (a)), .int .i64 (sokF (aheadB a b t) (min b t))], .bool (aheadB a b t)])∧Ext w w':=by
 cases h0:smayB a b
 ·go_enter Tryz.func201,Tryz.ntmps201
  go_wp2_with (first|(go_at_call 109;(first|refine seq_gw' (smay_c _ _ _) ?_|refine seq_gw (smay_c _ _ _) ?_);intro g)|(go_at_call 239;(first|refine seq_gw' (unless_c _ _ _) ?_|refine seq_gw (unless_c _ _ _) ?_);intro g))
  all_goals
   go_returns
   refine⟨by first|rfl|(simp [aheadB,sokF, *];done)|(simp [aheadB,sokF, *];omega),?_⟩
   repeat (first|exact Ext.refl _|with_reducible assumption|refine Ext.alloc ?_ _|refine Ext.drew ?_|refine Ext.drewN ?_ _|refine ext_gw ?_ _|refine Ext.setCell ?_ (by first|(simp;done)|(simp [Upto.le_true,Upto.le_add];done)|(simp;omega)) _)
 obtain⟨l1,l2,l3,l4,l5⟩:=mayB_lt h0
 by_cases h1:a<t
 ·go_enter Tryz.func201,Tryz.ntmps201
  go_wp2_with (first|(go_at_call 109;(first|refine seq_gw' (smay_c _ _ _) ?_|refine seq_gw (smay_c _ _ _) ?_);intro g)|(go_at_call 239;(first|refine seq_gw' (unless_c _ _ _) ?_|refine seq_gw (unless_c _ _ _) ?_);intro g))
  all_goals
   go_returns
   refine⟨by first|rfl|(simp [aheadB,sokF, *];done)|(simp [aheadB,sokF, *];omega),?_⟩
   repeat (first|exact Ext.refl _|with_reducible assumption|refine Ext.alloc ?_ _|refine Ext.drew ?_|refine Ext.drewN ?_ _|refine ext_gw ?_ _|refine Ext.setCell ?_ (by first|(simp;done)|(simp [Upto.le_true,Upto.le_add];done)|(simp;omega)) _)
 go_enter Tryz.func201,Tryz.ntmps201
 go_wp2_with (first|(go_at_call 109;(first|refine seq_gw' (smay_c _ _ _) ?_|refine seq_gw (smay_c _ _ _) ?_);intro g)|(go_at_call 239;(first|refine seq_gw' (unless_c _ _ _) ?_|refine seq_gw (unless_c _ _ _) ?_);intro g))
 all_goals
  go_returns
  refine⟨by first|rfl|(simp [aheadB,sokF, *];done)|(simp [aheadB,sokF, *];omega),?_⟩
  repeat (first|exact Ext.refl _|with_reducible assumption|refine Ext.alloc ?_ _|refine Ext.drew ?_|refine Ext.drewN ?_ _|refine ext_gw ?_ _|refine Ext.setCell ?_ (by first|(simp;done)|(simp [Upto.le_true,Upto.le_add];done)|(simp;omega)) _)
theorem jmps_le(l:List Ed)(r:List Vl):(jmps l r).length≤l.length:=by unfold jmps;rw[List.length_map];exact List.length_filter_le _ _
theorem mayE_len{l:List Ed}(h:mayE l=true):l.length≤4096:=(mayE_iff.1 h).1
theorem lit2(u:Value)(r:List Vl)(j k:Jp)(w:World)(h:Rw w [] u r):Ew (w.alloc (.cells #[u, .int .i64 j.1, .int .i64 j.2,u, .int .i64 k.1, .int .i64 k.2] 131)) [] (.slice (some ⟨w.heap.size,0,none⟩) 2 2) [(u,r,j),(u,r,k)]:=by
 refine⟨Sl.own (World.ownsRow_lit (base:=w.heap.size) (e:=131) (size:=3) w #[u, .int .i64 j.1, .int .i64 j.2,u, .int .i64 k.1, .int .i64 k.2] 2 (Nat.le_refl _) (by decide) rfl) (by simp),fun p hp=>?_⟩
 simp only[List.mem_cons,List.not_mem_nil,or_false] at hp
 rcases hp with rfl|rfl<;>exact Sl.ext h ((Ext.refl w).alloc _)
theorem neR_bad{l:List Ed}(h:neE l≠0):neR l=[]:=by unfold neR;rw[if_neg h]
end Go.Proofs.YtajelkkiijdegaaGreat
namespace Go.Proofs.YtajelkkiijdegaaGreat
open Go.RowKit
attribute [local go_sem] GW.cell GW.frozen In.eq_true In.le_true In.ne In.ne' In.ne_add In.ne_add' In.lt_add Upto.le_true Upto.le_add Upto.lt_add Oper.semAt_some wide_depth wide_fn
end Go.Proofs.YtajelkkiijdegaaGreat
