/-
  A helper of ours: no claim of its own. Layer 8 (msg): what is wrong with a message, on both sides.
-/
import Derived.Test.YtajelkkiijdegaaGreatBagQ
import Derived.Test.YtajelkkiijdegaaGreatPakO
import Derived.Test.YtajelkkiijdegaaGreatBagS
import Derived.Test.YtajelkkiijdegaaGreatPakQ
import Derived.Test.YtajelkkiijdegaaGreatEdgA
import Derived.Test.YtajelkkiijdegaaGreatStepS
import Derived.Test.YtajelkkiijdegaaGreatReg
import Derived.Test.YtajelkkiijdegaaGreatValB
import Derived.WalkLawsBesides
set_option linter.unusedVariables false
set_option linter.unusedSimpArgs false
set_option linter.unusedSectionVars false
set_option maxHeartbeats 64000000
set_option maxRecDepth 100000
namespace Go.Proofs.YtajelkkiijdegaaGreat
open Go.RowKit
attribute [local go_sem] GW.cell GW.frozen In.eq_true In.le_true In.ne In.ne' In.ne_add In.ne_add' In.lt_add Upto.le_true Upto.le_add Upto.lt_add
theorem re_err{X:List Ed}(hX:mayE X=true){t:Int}(r:List Vl):reE (jmps X r) t=0∨reE (jmps X r) t=7:=by
 by_cases h:reE (jmps X r) t=0
 ·exact .inl h
 ·exact .inr (re_two (mayJ_rows hX r) h)
theorem mp_re{X:List Ed}{t:Int}(hX:mayE X=true)(ht:t<1125899906842624):((∀r,reE (jmps X r) t=0)∧mpE (reOp t) X=0∧mpR (reOp t) X=foX X t)∨((∃r,reE (jmps X r) t≠0)∧mpE (reOp t) X=7):=by
 have hgr:=grp_eq (mayE_rise hX)
 have h7:∀g∈grp X,((reOp t) g.2).1=0∨((reOp t) g.2).1=7:=fun g hg=>by
  rw[(grp_mem hX hg).1];exact re_err hX g.1
 rcases evE_seven h7 with ⟨h1,h2⟩|⟨h1,g,hg,h2⟩
 ·left
  have hall:∀r,reE (jmps X r) t=0:=fun r=>by
   by_cases hj:jmps X r=[]
   ·rw[hj];exact (reR_nil ht).1
   ·exact h2 (r,jmps X r) ((grp_iff hX _).2 ⟨rfl,hj⟩)
  have hlen:=mayE_len (fo_may hX ht hall)
  have e0:mpE (reOp t) X=0:=by
   unfold mpE
   rw[if_pos hX]
   unfold eachE
   rw[h1,if_pos rfl]
   have e:evL (reOp t) (grp X)=foX X t:=by unfold foX;rw[hgr]
   rw[e,if_neg (by omega)]
  exact⟨hall,e0,(mp_zero e0).2.2⟩
 ·right
  refine⟨⟨g.1,?_⟩,?_⟩
  ·rw[←(grp_mem hX hg).1]
   have:reE g.2 t=7:=h2
   rw[this];decide
  ·unfold mpE
   rw[if_pos hX]
   unfold eachE
   rw[h1,if_neg (by decide)]
end Go.Proofs.YtajelkkiijdegaaGreat
namespace Go.Proofs.YtajelkkiijdegaaGreat
open Go.RowKit
theorem reR_end{f:List Jp}{t:Int}(hf:mayJ f=true)(ht:1125899906842624≤t):reE f t=0∧reR f t=[]:=by
 have h2:reL f t=[]:=by unfold reL;rw[if_pos ht]
 have h3:reE f t=0:=reE_zero.2 ⟨hf,by rw[h2];decide⟩
 exact⟨h3,by unfold reR;rw[if_pos h3,h2]⟩
theorem foX_end{X:List Ed}{t:Int}(hX:mayE X=true)(ht:1125899906842624≤t):foX X t=[]:=by
 unfold foX evL byRows
 rw[List.flatMap_eq_nil_iff]
 intro g hg
 obtain⟨r, -,rfl⟩:=List.mem_map.1 hg
 have:((reOp t) (jmps X r)).2=[]:=(reR_end (mayJ_rows hX r) ht).2
 simp only[this,List.map_nil]
end Go.Proofs.YtajelkkiijdegaaGreat
namespace Go.Proofs.YtajelkkiijdegaaGreat
open Go.RowKit Go.Deep Go.ChangeShapes
section
variable {H:Type} {enc:TypeId×Value→H} {P:Program} {w:World} {base fuel:Nat} {held:Bool}
theorem rc_at(l:List Vl)(j:Nat)(u:Value)(h:(rc l)[j]? = some u):∃i a k,l[i]? = some a∧j=i*3+k∧(vc a)[k]? = some u:=by
 have hj:j<l.length*3:=by
  rcases Nat.lt_or_ge j (l.length*3) with h1|h1
  ·exact h1
  ·rw[List.getElem?_eq_none (by rw[rc_length];exact h1)] at h;cases h
 have hi:j / 3<l.length:=by omega
 refine⟨j / 3,l[j / 3],j % 3,List.getElem?_eq_getElem hi,by omega,?_⟩
 have hk:j % 3=0∨j % 3=1∨j % 3=2:=by omega
 obtain⟨v,hv⟩:∃v,(vc l[j / 3])[j % 3]? = some v:=by
  rcases hk with e|e|e<;>rw[e]<;>exact⟨_,rfl⟩
 have:=rc_get l (j / 3) _ (List.getElem?_eq_getElem hi) _ v hv
 rw[show j / 3*3+j % 3=j by omega,h] at this
 rw[hv,this]
theorem open_row{t e:TypeId}{f0 f1 f2:Field}{v:Value}{x:DataW H×List MemPlace}(ht:P.underlying t=some (.slice e))(he:P.underlying e=some (.struct #[f0,f1,f2]))
 (ce:P.cellsOf e=3) (o0:f0.offset=0) (o1:f1.offset=1) (o2:f2.offset=2) (c0:P.cellsOf f0.type=1) (c1:P.cellsOf f1.type=1) (c2:P.cellsOf f2.type=1)
 (u0:P.underlying f0.type=some (.int .i64)) (u1:P.underlying f1.type=some (.int .i64)) (u2:P.underlying f2.type=some .string)
 (h:DataW.trod enc P w base (fun _=>true) held fuel t [v]=some x):∃l:List Vl,l.length=sliceLen x.1∧Rw w [] v l∧∀a∈l,inI a.2.1:=by
 rcases open_slice ht h with ⟨h1,rfl⟩|⟨a,len,cap,m,n,D,Pl,h1,_,hl,hm,hmm,rfl,hel⟩
 ·obtain rfl:v= .slice none 0 0:=by simpa using h1
  exact⟨[],rfl,Sl.nil _ _ _,by simp⟩
 ·obtain rfl:v= .slice (some a) len cap:=by simpa using h1
  simp only[if_true] at hmm
  have each:∀i,i<len→∃p:Vl,(∀k u,(vc p)[k]? = some u→w.cell? ((a.add (i*3)).add k)=some u)∧inI p.2.1:=by
   intro i hi
   obtain⟨cs,hc,htr⟩:=hel i (by omega)
   rw[ce] at hc
   obtain⟨_,hlen,hat⟩:=World.cells?_some hc
   obtain⟨xs,k,_,_,_,hxl,hf⟩:=DataW.trod_struct he htr
   match cs,hlen with
   |[w0,w1,w2],_ =>
    match xs,hxl with
    |[y0,y1,y2],_ =>
     have g0:=hf 0 f0 rfl
     have g1:=hf 1 f1 rfl
     have g2:=hf 2 f2 rfl
     rw[o0,c0] at g0
     rw[o1,c1] at g1
     rw[o2,c2] at g2
     obtain⟨z0,q0,_,_⟩:=DataW.trod_int u0 g0
     obtain⟨z1,q1,_,k1⟩:=DataW.trod_int u1 g1
     obtain⟨z2,q2,_,_⟩:=DataW.trod_string u2 g2
     simp at q0 q1 q2
     subst q0;subst q1;subst q2
     refine⟨(z0,z1,z2),fun k u hu=>?_,wf_i64 k1⟩
     have hk:k<3:=by simpa [vc] using (List.getElem?_eq_some_iff.1 hu).1
     rw[hat k hk]
     exact hu
  obtain⟨p,hp⟩:=choose_lt (α:=Vl) (p:=fun i p=>(∀k u,(vc p)[k]? = some u→w.cell? ((a.add (i*3)).add k)=some u)∧inI p.2.1) each
  refine⟨(List.range len).map p,by simp[sliceLen],⟨some a,cap,by simp,by simpa using hl,hm,by rw[rc_length],?_⟩,?_⟩
  ·by_cases h0:len=0
   ·left;subst h0;rfl
   right
   have hz:=(hp 0 (by omega)).1 0 _ rfl
   obtain⟨b,o,rfl⟩:=addr_plain (i:=0) (a:=a) (by
    have e0:(a.add (0*3)).add 0=a.add 0:=by rw[Nat.zero_mul];exact (show (a.add 0).add 0=a.add (0+0) from Go.Deep.add_add ..)
    rw[e0] at hz;exact hz) rfl
   refine⟨b,o,rfl,by simp,fun j u hu=>?_⟩
   obtain⟨i,q,k,hq,rfl,hk⟩:=rc_at _ j u hu
   have hi:i<len:=by
    rcases Nat.lt_or_ge i len with h|h
    ·exact h
    ·rw[List.getElem?_eq_none (by simpa using h)] at hq;cases hq
   have hq':q=p i:=by simpa [hi] using hq.symm
   subst hq'
   have:=(hp i hi).1 k u hk
   rw[add_plain,add_plain,Nat.add_assoc] at this
   exact this
  ·intro q hq
   simp only[List.mem_map,List.mem_range] at hq
   obtain⟨i,hi,rfl⟩:=hq
   exact (hp i hi).2
theorem sized_elems{ts:List TypeId}{ds:List (DataW H)}(h:(DataW.weightsEach P ts ds).all (· ≤ reachBytes)=true){j:Nat}{t e:TypeId}{d:DataW H}{b:Nat}(ht:ts[j]? = some t)(hd:ds[j]? = some d)(hu:P.underlying t=some (.slice e))(hb:P.bytesOf e=b) :
 sliceLen d*b≤140737488351232:=by
 cases d with
 |slice elems spare =>
  have h1:=sized_slice h ht hd hu
  rw[hb] at h1
  have h2:=Nat.mul_le_mul_right b (Nat.le_add_right elems.length spare.length)
  simp only[sliceLen,reachBytes] at *
  omega
 |_=>simp[sliceLen]
end
section
variable {H:Type} {enc:TypeId×Value→H} {P:Program} {w:World} {base fuel:Nat} {held:Bool}
end
section
variable {H:Type} {enc:TypeId×Value→H} {P:Program} {w:World} {base fuel:Nat} {held:Bool}
end
end Go.Proofs.YtajelkkiijdegaaGreat
namespace Go.Proofs.YtajelkkiijdegaaGreat
open Go.RowKit Go.Deep Go.ChangeShapes
attribute [local go_sem] GW.cell GW.frozen In.eq_true In.le_true In.ne In.ne' In.ne_add In.ne_add' In.lt_add Upto.le_true Upto.le_add Upto.lt_add
section
variable {H:Type} {enc:TypeId×Value→H} {P:Program} {w:World} {base fuel:Nat} {held:Bool}
end
end Go.Proofs.YtajelkkiijdegaaGreat
namespace Go.Proofs.YtajelkkiijdegaaGreat
open Go.RowKit
section
variable {P:Program} {ops:Array Oper} {Φ:Nat→Value→World→Prop} {Q:Exit→Act→World→Prop} {a:Act} {W:World} {G:World→World→Prop} {J:(Nat→Bool)→World→Prop} {K:List Nat}
def done(Lf:Nat→Bool)(i:Nat):Nat→Bool:=fun j=>if j=i then true else Lf j
structure RAt2 (ops:Array Oper) (Φ:Nat→Value→World→Prop) (G:World→World→Prop) (J:(Nat→Bool)→World→Prop) (a:Act) (W:World) (i:Nat) (Lf:Nat→Bool) (b:Act) (w:World):Prop where
 ext:G W w
 defers:b.defers=a.defers
 size:b.tmps.size=a.tmps.size
 else_:∀t,t∉dstsOf ops→b.tmps.getD t undef=a.tmps.getD t undef
 dep:∀j o d,depB ops i j=true→ops[j]? = some o→o.dst=some d→Φ j (b.tmps.getD d undef) w
 deps:∀j,depB ops i j=true→Lf j=true
 fresh:Lf i=false
 obj:J Lf w
structure RInv2 (ops:Array Oper) (Φ:Nat→Value→World→Prop) (G:World→World→Prop) (J:(Nat→Bool)→World→Prop) (a:Act) (W:World) (listed:Array Bool) (b:Act) (w:World):Prop where
 ext:G W w
 defers:b.defers=a.defers
 size:b.tmps.size=a.tmps.size
 len:listed.size=ops.size
 else_:∀t,t∉dstsOf ops→b.tmps.getD t undef=a.tmps.getD t undef
 fact:∀j o d,ops[j]? = some o→listed.getD j false=true→o.dst=some d→Φ j (b.tmps.getD d undef) w
 obj:J (fun j=>listed.getD j false) w
inductive FactS (S:List Nat) where
 |is (v:Value)
 |st (p:Value→World→Prop) (h:∀v w w',p v w→Fr S w w'→p v w')
 |any
end
def aX(mk:Int)(X l:List Ed):List Ed:=if baE X mk l=0 then neR (X++l) else X
def fgE(mk:Int)(X:List Ed)(t:Int):Int:=if t≤mk then 0 else mpE (reOp t) X
def fX(mk:Int)(X:List Ed)(t:Int):List Ed:=if t≤mk then X else if mpE (reOp t) X=0 then mpR (reOp t) X else X
def fM(mk:Int)(X:List Ed)(t:Int):Int:=if t≤mk then mk else if mpE (reOp t) X=0 then t else mk
theorem mp_end{X:List Ed}{t:Int}(hX:mayE X=true)(ht:1125899906842624≤t):mpE (reOp t) X=0∧mpR (reOp t) X=[]:=by
 have hgr:=grp_eq (mayE_rise hX)
 have hz:∀g∈grp X,((reOp t) g.2).1=0:=fun g hg=>by
  rw[(grp_mem hX hg).1];exact (reR_end (mayJ_rows hX g.1) ht).1
 rcases evE_seven (fun g hg=> .inl (hz g hg)) with ⟨h1, -⟩|⟨-,g,hg,h2⟩
 ·have e:evL (reOp t) (grp X)=[]:=by rw[hgr];exact foX_end hX ht
  have e0:eachE (reOp t) (grp X)=0:=by unfold eachE;rw[h1,if_pos rfl,e];simp
  refine⟨by unfold mpE;rw[if_pos hX,e0],?_⟩
  unfold mpR eachR
  rw[if_pos hX,if_pos e0,e]
 ·have:=hz g hg
  have h3:((reOp t) g.2).1=7:=h2
  omega
theorem upd_end{T U:List Fe}{X:List Ed}{t:Int}(ht:1125899906842624≤t)(hx:BagX T X)(hU:(U.map (·.2.2)).Perm (T.map fun p=>restG t p.2.2)):updT rowB T U=[]:=by
 have hnone:(T.filter fun q=> !U.any fun p=>(fent rowB q).1.sameKey (fent rowB p).1)=[]:=by
  rw[List.filter_eq_nil_iff]
  intro p hp
  have hm:restG t p.2.2∈U.map (·.2.2):=hU.mem_iff.2 (List.mem_map.2 ⟨p,hp,rfl⟩)
  obtain⟨u,hu,e⟩:=List.mem_map.1 hm
  have hr:u.2.2.1=p.2.2.1:=by rw[e];rfl
  have:(U.any fun q=>(fent rowB p).1.sameKey (fent rowB q).1)=true:=List.any_eq_true.2 ⟨u,hu,by rw[same_ent,hr];simp⟩
  rw[this];decide
 unfold updT
 rw[hnone,List.nil_append,List.filter_eq_nil_iff]
 intro u hu
 obtain⟨p,hp,e⟩:=List.mem_map.1 (hU.mem_iff.1 (List.mem_map.2 ⟨u,hu,rfl⟩))
 have hj:mayJ p.2.2.2=true:=(mayE_iff.1 hx.may).2.2 _ (hx.mem hp)
 have:u.2.2.2=[]:=by rw[←e];exact (reR_end hj ht).2
 rw[this];decide
theorem mv_block{α:Type}{f:α→Lit×Value}{P:Program}{k:TypeId}{w w':World}{b n:Nat}{M:List α}(h:Mv w P k f b n M)(hb:w'.heap[b]? = w.heap[b]?):Mv w' P k f b n M:=by
 obtain⟨es,⟨es',c,g1,rst⟩,h2⟩:=h
 exact⟨es,⟨es',c,hb.trans g1,rst⟩,h2⟩
section
variable {B mb r i j N:Nat} {mk mk':Int} {X Y:List Ed}
end
end Go.Proofs.YtajelkkiijdegaaGreat
namespace Go.Proofs.YtajelkkiijdegaaGreat
open Go.RowKit
attribute [local go_sem] GW.cell GW.frozen In.eq_true In.le_true In.ne In.ne' In.ne_add In.ne_add' In.lt_add Upto.le_true Upto.le_add Upto.lt_add
abbrev mg(k i f t:Int)(v:Value):Value:= .agg #[.int .i64 k, .int .i64 i, .int .i64 f, .int .i64 t,v]
abbrev mO(k i f t:Int)(v:Value):Obj:= .cells #[.int .i64 k, .int .i64 i, .int .i64 f, .int .i64 t,v] 44
def tickB(t:Int):Bool:=decide (0≤t∧t≤1125899906842624)
def moreB(k i f t:Int)(n:Nat):Bool:=if k=2 then decide (f≠0∨0<n) else if k=3 then decide (i≠0∨t≠0∨0<n) else false
def tickE(k f t:Int):Int:=if tickB f && tickB t then (if k=1∧t≤f then 14 else 0) else 13
def idB(i:Int):Bool:=decide (1≤i∧i≤1099511627776)
def mchk(k i f t:Int)(l:List Vl):Int :=
 if k=1 then (if mayR l && idB i then tickE k f t else 2)
 else if k=2 then (if idB i && !moreB k i f t l.length then tickE k f t else 2)
 else if k=3 then (if moreB k i f t l.length then 2 else tickE k f t)
 else 12
theorem tick_yes{t:Int}(h:tickB t=true):0≤t∧t≤1125899906842624:=by unfold tickB at h;simpa using h
theorem tick_no{t:Int}(h:tickB t=false):t<0∨(0≤t∧1125899906842624<t):=by unfold tickB at h;rw[decide_eq_false_iff_not] at h;omega
theorem id_yes{t:Int}(h:idB t=true):1≤t∧t≤1099511627776:=by unfold idB at h;simpa using h
theorem id_no{t:Int}(h:idB t=false):t<1∨(1≤t∧1099511627776<t):=by unfold idB at h;rw[decide_eq_false_iff_not] at h;omega
theorem misTick_c(t:Int)(w:World):Calls Tryz.prog 197 #[.int .i64 t] w fun e w'=>e= .returned (.bool (tickB t))∧Ext w w':=by
 cases h:tickB t
 ·rcases tick_no h with h1|⟨h1,h2⟩
  ·clear h
   go_enter Tryz.func197,Tryz.ntmps197
   go_wp2_with fail
   go_returns
   exact⟨rfl,Ext.refl w⟩
  ·have h3:decide (t≤1125899906842624)=false:=by rw[decide_eq_false_iff_not];omega
   clear h h2
   go_enter Tryz.func197,Tryz.ntmps197
   go_wp2_with fail
   go_returns
   exact⟨rfl,Ext.refl w⟩
 ·obtain⟨h1,h2⟩:=tick_yes h
  clear h
  go_enter Tryz.func197,Tryz.ntmps197
  go_wp2_with fail
  go_returns
  exact⟨rfl,Ext.refl w⟩
theorem hasMore_c(k i f t:Int)(n c:Nat)(A:Option Addr)(hn:n≤9223372036854775807)(w:World):Calls Tryz.prog 142 #[mg k i f t (.slice A n c)] w fun e w'=>e= .returned (.bool (moreB k i f t n))∧Ext w w':=by
 obtain⟨R,hR⟩:∃R,R=moreB k i f t n:=⟨_,rfl⟩
 rw[←hR]
 unfold moreB at hR
 by_cases h2:k=2
 ·subst h2
  rw[if_pos rfl] at hR
  by_cases hf:f=0
  ·subst hf
   by_cases h0:n=0
   ·subst h0
    have e:R=false:=by rw[hR];decide
    subst e
    clear hR
    go_enter Tryz.func142,Tryz.ntmps142
    go_wp2_with fail
    go_returns
    exact⟨rfl,(Ext.refl w).alloc _⟩
   ·have hpos:0<n:=by omega
    have e:R=true:=by rw[hR,decide_eq_true_iff];exact .inr hpos
    subst e
    clear hR h0
    go_enter Tryz.func142,Tryz.ntmps142
    go_wp2_with fail
    go_returns
    exact⟨rfl,(Ext.refl w).alloc _⟩
  ·have e:R=true:=by rw[hR,decide_eq_true_iff];exact .inl hf
   have e1:(f != 0)=true:=by simp[hf]
   subst e
   clear hR hf
   go_enter Tryz.func142,Tryz.ntmps142
   go_wp2_with fail
   go_returns
   exact⟨rfl,(Ext.refl w).alloc _⟩
 ·rw[if_neg h2] at hR
  by_cases h3:k=3
  ·subst h3
   rw[if_pos rfl] at hR
   by_cases hi:i=0
   ·subst hi
    by_cases ht:t=0
    ·subst ht
     by_cases h0:n=0
     ·subst h0
      have e:R=false:=by rw[hR];decide
      subst e
      clear hR h2
      go_enter Tryz.func142,Tryz.ntmps142
      go_wp2_with fail
      go_returns
      exact⟨rfl,(Ext.refl w).alloc _⟩
     ·have hpos:0<n:=by omega
      have e:R=true:=by rw[hR,decide_eq_true_iff];exact .inr (.inr hpos)
      subst e
      clear hR h0 h2
      go_enter Tryz.func142,Tryz.ntmps142
      go_wp2_with fail
      go_returns
      exact⟨rfl,(Ext.refl w).alloc _⟩
    ·have e:R=true:=by rw[hR,decide_eq_true_iff];exact .inr (.inl ht)
     have e1:(t != 0)=true:=by simp[ht]
     subst e
     clear hR ht h2
     go_enter Tryz.func142,Tryz.ntmps142
     go_wp2_with fail
     go_returns
     exact⟨rfl,(Ext.refl w).alloc _⟩
   ·have e:R=true:=by rw[hR,decide_eq_true_iff];exact .inl hi
    have e1:(i != 0)=true:=by simp[hi]
    subst e
    clear hR hi h2
    go_enter Tryz.func142,Tryz.ntmps142
    go_wp2_with fail
    go_returns
    exact⟨rfl,(Ext.refl w).alloc _⟩
  ·rw[if_neg h3] at hR
   subst hR
   have e2:(k == 2)=false:=by simp[h2]
   have e3:(k == 3)=false:=by simp[h3]
   clear h2 h3
   go_enter Tryz.func142,Tryz.ntmps142
   go_wp2_with fail
   go_returns
   exact⟨rfl,(Ext.refl w).alloc _⟩
theorem checkTicks_c(k i f t:Int)(v:Value)(w:World):Calls Tryz.prog 143 #[mg k i f t v] w fun e w'=>e= .returned (.int .i64 (tickE k f t))∧Ext w w':=by
 have hf:=hide (fun w=>misTick_c f w)
 have ht:=hide (fun w=>misTick_c t w)
 obtain⟨R,hR⟩:∃R,R=tickE k f t:=⟨_,rfl⟩
 rw[←hR]
 unfold tickE at hR
 cases h1:tickB f
 ·rw[h1] at hf hR
  have e:R=13:=by rw[hR];rfl
  subst e
  clear hR h1 ht
  go_enter Tryz.func143,Tryz.ntmps143
  go_wp2_with (go_at_call 197;(with_reducible refine seq_gw (hf.out _) ?_);intro g)
  go_returns
  exact⟨rfl,((Ext.refl w).alloc _).trans g.grown⟩
 ·cases h2:tickB t
  ·rw[h1] at hf
   rw[h2] at ht
   rw[h1,h2] at hR
   have e:R=13:=by rw[hR];rfl
   subst e
   clear hR h1 h2
   go_enter Tryz.func143,Tryz.ntmps143
   go_wp2_with (first|(go_at_call 197;(with_reducible refine seq_gw (hf.out _) ?_);intro g)|(go_at_call 197;(with_reducible refine seq_gw' (ht.out _) ?_);intro g2))
   go_returns
   exact⟨rfl,((Ext.refl w).alloc _).trans g2.grown⟩
  ·rw[h1] at hf
   rw[h2] at ht
   rw[h1,h2] at hR
   replace hR:R=if k=1∧t≤f then 14 else 0:=hR
   clear h1 h2
   by_cases hk:k=1
   ·subst hk
    by_cases hlt:t≤f
    ·have e:R=14:=by rw[hR,if_pos ⟨rfl,hlt⟩]
     subst e
     clear hR
     go_enter Tryz.func143,Tryz.ntmps143
     go_wp2_with (first|(go_at_call 197;(with_reducible refine seq_gw (hf.out _) ?_);intro g)|(go_at_call 197;(with_reducible refine seq_gw' (ht.out _) ?_);intro g2))
     go_returns
     exact⟨rfl,((Ext.refl w).alloc _).trans g2.grown⟩
    ·have e:R=0:=by rw[hR,if_neg (fun h=>hlt h.2)]
     subst e
     clear hR
     go_enter Tryz.func143,Tryz.ntmps143
     go_wp2_with (first|(go_at_call 197;(with_reducible refine seq_gw (hf.out _) ?_);intro g)|(go_at_call 197;(with_reducible refine seq_gw' (ht.out _) ?_);intro g2))
     go_returns
     exact⟨rfl,((Ext.refl w).alloc _).trans g2.grown⟩
   ·have e:R=0:=by rw[hR,if_neg (fun h=>hk h.1)]
    have e1:(k == 1)=false:=by simp[hk]
    subst e
    clear hR hk
    go_enter Tryz.func143,Tryz.ntmps143
    go_wp2_with (first|(go_at_call 197;(with_reducible refine seq_gw (hf.out _) ?_);intro g)|(go_at_call 197;(with_reducible refine seq_gw' (ht.out _) ?_);intro g2))
    go_returns
    exact⟨rfl,((Ext.refl w).alloc _).trans g2.grown⟩
theorem check_c(k i f t:Int)(l:List Vl)(v:Value)(w:World)(hl:Rw w [] v l):Calls Tryz.prog 87 #[mg k i f t v] w fun e w'=>e= .returned (.int .i64 (mchk k i f t l))∧Ext w w':=by
 have hm:=hide (fun w' (hX:Ext w w')=>rowMay_c l v w' (Sl.ext hl hX))
 obtain⟨A,cap,rfl,hlc,hlm, -⟩:=rw_form hl
 unfold maxLen at hlm
 have hmo:=hide (fun w=>hasMore_c k i f t l.length cap A (by omega) w)
 have htk:=hide (fun w=>checkTicks_c k i f t (.slice A l.length cap) w)
 have hX0:=hide ((Ext.refl w).alloc (mO k i f t (.slice A l.length cap)))
 obtain⟨R,hR⟩:∃R,R=mchk k i f t l:=⟨_,rfl⟩
 rw[←hR]
 unfold mchk at hR
 clear hl
 by_cases h1:k=1
 ·subst h1
  rw[if_pos rfl] at hR
  rw[show moreB 1 i f t l.length=false from rfl] at hmo
  cases ha:mayR l
  ·rw[ha] at hm hR
   have e:R=2:=by rw[hR];rfl
   subst e
   clear hR ha
   go_enter Tryz.func87,Tryz.ntmps87
   go_wp2_with (go_at_call 55;(with_reducible refine seq_gw (hm.out _ hX0.out) ?_);intro g)
   go_returns
   exact⟨rfl,hX0.out.trans g.grown⟩
  ·rw[ha] at hm hR
   cases hi:idB i
   ·rw[hi] at hR
    have e:R=2:=by rw[hR];rfl
    subst e
    clear hR ha
    rcases id_no hi with h2|⟨h2,h3⟩
    ·clear hi
     go_enter Tryz.func87,Tryz.ntmps87
     go_wp2_with (go_at_call 55;(with_reducible refine seq_gw (hm.out _ hX0.out) ?_);intro g)
     go_returns
     exact⟨rfl,hX0.out.trans g.grown⟩
    ·clear hi
     go_enter Tryz.func87,Tryz.ntmps87
     go_wp2_with (go_at_call 55;(with_reducible refine seq_gw (hm.out _ hX0.out) ?_);intro g)
     go_returns
     exact⟨rfl,hX0.out.trans g.grown⟩
   ·rw[hi] at hR
    obtain⟨h2,h3⟩:=id_yes hi
    replace hR:R=tickE 1 f t:=hR
    rw[←hR] at htk
    clear hR ha hi
    go_enter Tryz.func87,Tryz.ntmps87
    go_wp2_with (first|(go_at_call 55;(with_reducible refine seq_gw (hm.out _ hX0.out) ?_);intro g)|(go_at_call 142;(first|(with_reducible refine seq_gw' (hmo.out _) ?_)|(with_reducible refine seq_gw (hmo.out _) ?_));intro g2)|(go_at_call 143;(with_reducible refine seq_gw' (htk.out _) ?_);intro g3))
    go_returns
    exact⟨rfl,hX0.out.trans g3.grown⟩
 ·rw[if_neg h1] at hR
  by_cases h2:k=2
  ·subst h2
   rw[if_pos rfl] at hR
   cases hi:idB i
   ·rw[hi] at hR
    have e:R=2:=by rw[hR];rfl
    subst e
    clear hR h1
    rcases id_no hi with h2|⟨h2,h3⟩
    ·clear hi
     go_enter Tryz.func87,Tryz.ntmps87
     go_wp2_with fail
     go_returns
     exact⟨rfl,hX0.out⟩
    ·clear hi
     go_enter Tryz.func87,Tryz.ntmps87
     go_wp2_with fail
     go_returns
     exact⟨rfl,hX0.out⟩
   ·rw[hi] at hR
    obtain⟨h2,h3⟩:=id_yes hi
    cases hb:moreB 2 i f t l.length
    ·rw[hb] at hR hmo
     replace hR:R=tickE 2 f t:=hR
     rw[←hR] at htk
     clear hR hi h1 hb
     go_enter Tryz.func87,Tryz.ntmps87
     go_wp2_with (first|(go_at_call 142;(first|(with_reducible refine seq_gw' (hmo.out _) ?_)|(with_reducible refine seq_gw (hmo.out _) ?_));intro g2)|(go_at_call 143;(with_reducible refine seq_gw' (htk.out _) ?_);intro g3))
     go_returns
     exact⟨rfl,hX0.out.trans g3.grown⟩
    ·rw[hb] at hR hmo
     have e:R=2:=by rw[hR];rfl
     subst e
     clear hR hi h1 hb
     go_enter Tryz.func87,Tryz.ntmps87
     go_wp2_with (go_at_call 142;(first|(with_reducible refine seq_gw' (hmo.out _) ?_)|(with_reducible refine seq_gw (hmo.out _) ?_));intro g2)
     go_returns
     exact⟨rfl,hX0.out.trans g2.grown⟩
  ·rw[if_neg h2] at hR
   by_cases h3:k=3
   ·subst h3
    rw[if_pos rfl] at hR
    cases hb:moreB 3 i f t l.length
    ·rw[hb] at hR hmo
     replace hR:R=tickE 3 f t:=hR
     rw[←hR] at htk
     clear hR h1 h2 hb
     go_enter Tryz.func87,Tryz.ntmps87
     go_wp2_with (first|(go_at_call 142;(first|(with_reducible refine seq_gw' (hmo.out _) ?_)|(with_reducible refine seq_gw (hmo.out _) ?_));intro g2)|(go_at_call 143;(with_reducible refine seq_gw' (htk.out _) ?_);intro g3))
     go_returns
     exact⟨rfl,hX0.out.trans g3.grown⟩
    ·rw[hb] at hR hmo
     have e:R=2:=by rw[hR];rfl
     subst e
     clear hR h1 h2 hb
     go_enter Tryz.func87,Tryz.ntmps87
     go_wp2_with (go_at_call 142;(first|(with_reducible refine seq_gw' (hmo.out _) ?_)|(with_reducible refine seq_gw (hmo.out _) ?_));intro g2)
     go_returns
     exact⟨rfl,hX0.out.trans g2.grown⟩
   ·rw[if_neg h3] at hR
    subst hR
    have e1:(k == 1)=false:=by simp[h1]
    have e2:(k == 2)=false:=by simp[h2]
    have e3:(k == 3)=false:=by simp[h3]
    clear h1 h2 h3
    go_enter Tryz.func87,Tryz.ntmps87
    go_wp2_with fail
    go_returns
    exact⟨rfl,hX0.out⟩
end Go.Proofs.YtajelkkiijdegaaGreat
