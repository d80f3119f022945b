/-
  A helper of ours: no claim of its own. Layer 13 (fold): a message's result, by the code.
-/
import Derived.Test.YtajelkkiijdegaaGreatMsgA
import Derived.Test.YtajelkkiijdegaaGreatFolS
import Derived.Test.YtajelkkiijdegaaGreatBagB
import Derived.Test.YtajelkkiijdegaaGreatEdgA
import Derived.Test.YtajelkkiijdegaaGreatEdgO
import Derived.Test.YtajelkkiijdegaaGreatReg
set_option linter.unusedVariables false
set_option linter.unusedSimpArgs false
set_option linter.unusedSectionVars false
set_option maxHeartbeats 64000000
set_option maxRecDepth 100000
namespace Go.Proofs.YtajelkkiijdegaaGreat
open Go.RowKit Go.Deep Go.ChangeShapes
abbrev Vm:=Value×PM
def pms(L:List Vm):List PM:=L.map Prod.snd
def mc1(p:Vm):List Value:=[.int .i64 p.2.1.1, .int .i64 p.2.1.2.1, .int .i64 p.2.1.2.2.1, .int .i64 p.2.1.2.2.2,p.1]
def mc(L:List Vm):List Value:=L.flatMap mc1
theorem mc_length(L:List Vm):(mc L).length=L.length*5:=by
 induction L with
 |nil=>rfl
 |cons p r ih=>simp only[mc,mc1,List.flatMap_cons,List.length_append,List.length_cons,List.length_nil] at ih ⊢;omega
theorem mc_get:∀(L:List Vm) (i:Nat) (p:Vm),L[i]? = some p→∀j v,(mc1 p)[j]? = some v→(mc L)[i*5+j]? = some v
 |q::r,0,p,h,j,v,hv=>by
  simp at h;subst h
  have hj:j<(mc1 q).length:=(List.getElem?_eq_some_iff.1 hv).1
  rw[show mc (q::r)=mc1 q++mc r by simp[mc],List.getElem?_append_left (by omega),show 0*5+j=j by omega];exact hv
 |q::r,i+1,p,h,j,v,hv=>by
  have:=mc_get r i p (by simpa using h) j v hv
  rw[show mc (q::r)=mc1 q++mc r by simp[mc],show (i+1)*5+j=(mc1 q).length+(i*5+j) by simp[mc1];omega,List.getElem?_append_right (by omega),Nat.add_sub_cancel_left]
  exact this
theorem mc_at(L:List Vm)(j:Nat)(u:Value)(h:(mc L)[j]? = some u):∃i q k,L[i]? = some q∧j=i*5+k∧(mc1 q)[k]? = some u:=by
 have hj:j<L.length*5:=by
  rcases Nat.lt_or_ge j (L.length*5) with h1|h1
  ·exact h1
  ·rw[List.getElem?_eq_none (by rw[mc_length];exact h1)] at h;cases h
 have hi:j / 5<L.length:=by omega
 refine⟨j / 5,L[j / 5],j % 5,List.getElem?_eq_getElem hi,by omega,?_⟩
 have hk:j % 5<(mc1 L[j / 5]).length:=by simp[mc1];omega
 have:=mc_get L (j / 5) _ (List.getElem?_eq_getElem hi) (j % 5) _ (List.getElem?_eq_getElem hk)
 rw[show j / 5*5+j % 5=j by omega,h] at this
 rw[List.getElem?_eq_getElem hk]
 exact this.symm
def Mw(w:World)(S:List Nat)(v:Value)(L:List Vm):Prop:=Sl w S 5 v L.length (mc L)∧∀p∈L,Rw w S p.1 p.2.2
theorem Mw.ext{w w':World}{S:List Nat}{v:Value}{L:List Vm}(h:Mw w S v L)(k:Ext w w'):Mw w' S v L:=⟨Sl.ext h.1 k,fun p hp=>Sl.ext (h.2 p hp) k⟩
theorem mw_form{w:World}{S:List Nat}{v:Value}{L:List Vm}(h:Mw w S v L):∃A cap,v= .slice A L.length cap∧L.length≤cap∧cap≤maxLen ∧
 ∀(i:Nat) (p:Vm),L[i]? = some p→∃b o,A=some ⟨b,o,none⟩∧b∉S∧b<w.heap.size∧w.cell? ⟨b,o+i*5,none⟩=some (.int .i64 p.2.1.1)∧w.cell? ⟨b,o+i*5+1,none⟩=some (.int .i64 p.2.1.2.1)∧w.cell? ⟨b,o+i*5+2,none⟩=some (.int .i64 p.2.1.2.2.1)∧w.cell? ⟨b,o+i*5+3,none⟩=some (.int .i64 p.2.1.2.2.2)∧w.cell? ⟨b,o+i*5+4,none⟩=some p.1:=by
 obtain⟨⟨A,cap,rfl,h1,h2,h3,h4⟩, -⟩:=h
 refine⟨A,cap,rfl,h1,h2,fun i p hp=>?_⟩
 have hg:=mc_get L i p hp
 rcases h4 with h4|⟨b,o,rfl,hb,hc⟩
 ·have:=hg 0 _ rfl;rw[h4] at this;cases this
 ·have c0:=hc _ _ (hg 0 _ rfl)
  have c1:=hc _ _ (hg 1 _ rfl)
  have c2:=hc _ _ (hg 2 _ rfl)
  have c3:=hc _ _ (hg 3 _ rfl)
  have c4:=hc _ _ (hg 4 _ rfl)
  exact⟨b,o,rfl,hb,block_lt_of_cell c0,c0,c1,c2,c3,c4⟩
def inM(m:PM):Prop:=(inI m.1.1∧inI m.1.2.1∧inI m.1.2.2.1∧inI m.1.2.2.2)∧∀a∈m.2,inI a.2.1
section
variable {H:Type} {enc:TypeId×Value→H} {P:Program} {w:World} {base fuel:Nat} {held:Bool}
theorem open_msgs{t eo e:TypeId}{f0 f1 f2 f3 f4 g0 g1 g2:Field}{v:Value}{x:DataW H×List MemPlace}(ht:P.underlying t=some (.slice eo))(hs:P.underlying eo=some (.struct #[f0,f1,f2,f3,f4]))
 (hC:P.cellsOf eo=5) (o0:f0.offset=0) (o1:f1.offset=1) (o2:f2.offset=2) (o3:f3.offset=3) (o4:f4.offset=4)
 (c0:P.cellsOf f0.type=1) (c1:P.cellsOf f1.type=1) (c2:P.cellsOf f2.type=1) (c3:P.cellsOf f3.type=1) (c4:P.cellsOf f4.type=1)
 (u0:P.underlying f0.type=some (.int .i64)) (u1:P.underlying f1.type=some (.int .i64)) (u2:P.underlying f2.type=some (.int .i64)) (u3:P.underlying f3.type=some (.int .i64)) (u4:P.underlying f4.type=some (.slice e))
 (he:P.underlying e=some (.struct #[g0,g1,g2])) (ce:P.cellsOf e=3) (p0:g0.offset=0) (p1:g1.offset=1) (p2:g2.offset=2) (d0:P.cellsOf g0.type=1) (d1:P.cellsOf g1.type=1) (d2:P.cellsOf g2.type=1)
 (y0:P.underlying g0.type=some (.int .i64)) (y1:P.underlying g1.type=some (.int .i64)) (y2:P.underlying g2.type=some .string)
 (h:DataW.trod enc P w base (fun _=>true) held fuel t [v]=some x):∃L:List Vm,L.length=sliceLen x.1∧Mw w [] v L∧∀p∈L,inM p.2:=by
 rcases open_slice ht h with ⟨h1,rfl⟩|⟨a,len,cap,m,n,D,Pl,h1,_,hl,hm,hmm,rfl,hel⟩
 ·obtain rfl:v= .slice none 0 0:=by simpa using h1
  exact⟨[],rfl,⟨Sl.nil _ _ _,by simp⟩,by simp⟩
 ·obtain rfl:v= .slice (some a) len cap:=by simpa using h1
  simp only[if_true] at hmm
  have each:∀i,i<len→∃p:Vm,(∀k u,(mc1 p)[k]? = some u→w.cell? ((a.add (i*5)).add k)=some u)∧Rw w [] p.1 p.2.2∧inM p.2:=by
   intro i hi
   obtain⟨cs,hc,htr⟩:=hel i (by omega)
   rw[hC] at hc
   obtain⟨_,hlen,hat⟩:=World.cells?_some hc
   obtain⟨xs,k,_,_,_,hxl,hf⟩:=DataW.trod_struct hs htr
   match cs,hlen with
   |[w0,w1,w2,w3,w4],_ =>
    match xs,hxl with
    |[z0,z1,z2,z3,z4],_ =>
     have q0:=hf 0 f0 rfl
     have q1:=hf 1 f1 rfl
     have q2:=hf 2 f2 rfl
     have q3:=hf 3 f3 rfl
     have q4:=hf 4 f4 rfl
     rw[o0,c0] at q0
     rw[o1,c1] at q1
     rw[o2,c2] at q2
     rw[o3,c3] at q3
     rw[o4,c4] at q4
     obtain⟨a0,e0,_,k0⟩:=DataW.trod_int u0 (show DataW.trod enc P w base (fun _=>true) held k f0.type [w0]=some _ from by simpa using q0)
     obtain⟨a1,e1,_,k1⟩:=DataW.trod_int u1 (show DataW.trod enc P w base (fun _=>true) held k f1.type [w1]=some _ from by simpa using q1)
     obtain⟨a2,e2,_,k2⟩:=DataW.trod_int u2 (show DataW.trod enc P w base (fun _=>true) held k f2.type [w2]=some _ from by simpa using q2)
     obtain⟨a3,e3,_,k3⟩:=DataW.trod_int u3 (show DataW.trod enc P w base (fun _=>true) held k f3.type [w3]=some _ from by simpa using q3)
     simp at e0 e1 e2 e3
     subst e0;subst e1;subst e2;subst e3
     obtain⟨l,_,hl,hq⟩:=open_row u4 he ce p0 p1 p2 d0 d1 d2 y0 y1 y2 (show DataW.trod enc P w base (fun _=>true) held k f4.type [w4]=some _ from by simpa using q4)
     refine⟨(w4,((a0,a1,a2,a3),l)),fun k u hu=>?_,hl,⟨wf_i64 k0,wf_i64 k1,wf_i64 k2,wf_i64 k3⟩,hq⟩
     have hk:k<5:=by simpa [mc1] using (List.getElem?_eq_some_iff.1 hu).1
     rw[hat k hk]
     exact hu
  obtain⟨p,hp⟩:=choose_lt (α:=Vm) (p:=fun i p=>(∀k u,(mc1 p)[k]? = some u→w.cell? ((a.add (i*5)).add k)=some u)∧Rw w [] p.1 p.2.2∧inM p.2) each
  refine⟨(List.range len).map p,by simp[sliceLen],⟨⟨some a,cap,by simp,by simpa using hl,hm,by rw[mc_length],?_⟩,?_⟩,?_⟩
  ·by_cases h0:len=0
   ·left;subst h0;rfl
   right
   have hz:=(hp 0 (by omega)).1 0 _ rfl
   obtain⟨b,o,rfl⟩:=addr_plain (i:=0) (a:=a) (by
    have e0:(a.add (0*5)).add 0=a.add 0:=by rw[Nat.zero_mul];exact (show (a.add 0).add 0=a.add (0+0) from Go.Deep.add_add ..)
    rw[e0] at hz;exact hz) rfl
   refine⟨b,o,rfl,by simp,fun j u hu=>?_⟩
   obtain⟨i,q,k,hq,rfl,hk⟩:=mc_at _ j u hu
   have hi:i<len:=by
    rcases Nat.lt_or_ge i len with h|h
    ·exact h
    ·rw[List.getElem?_eq_none (by simpa using h)] at hq;cases hq
   have hq':q=p i:=by simpa [hi] using hq.symm
   subst hq'
   have:=(hp i hi).1 k u hk
   rw[add_plain,add_plain,Nat.add_assoc] at this
   exact this
  ·intro q hq
   obtain⟨i,hi,rfl⟩:=List.mem_map.1 hq
   exact (hp i (List.mem_range.1 hi)).2.1
  ·intro q hq
   obtain⟨i,hi,rfl⟩:=List.mem_map.1 hq
   exact (hp i (List.mem_range.1 hi)).2.2
end
end Go.Proofs.YtajelkkiijdegaaGreat
namespace Go.Proofs.YtajelkkiijdegaaGreat
open Go.Maps (Keyed)
section
variable {α:Type} {f:α→Lit×Value} {P:Program} {k:TypeId} {w w':World} {b n:Nat} {M:List α}
theorem Mv.lookOk{t e:TypeId}(h:Mv w P k f b n M)(K:Keyed P k)(ht:P.underlying t=some (.map k e)){z:Value}(hz:(zeroValue e).run P w= .ok z w){key:Value}{kl:Lit}(hkey:keyOf P k key=some kl):(Instr.lookup t (.map (some b)) key true).run P w= .ok (.tuple #[((getM f M kl).map fun q=>(f q).2).getD z, .bool (getM f M kl).isSome]) w:=by
 have hp:=h
 obtain⟨es0,h0,p0⟩:=hp
 obtain⟨es,h1,h2⟩:=h.at K kl z
 obtain⟨v,ps,hrun,hv⟩:=h1.look_ok K ht hz (zd:= .held z) (zp:=[]) rfl hkey
 rw[h2] at hv
 unfold anyE at hv
 simp only[Option.some.injEq,Prod.mk.injEq,DataW.held.injEq] at hv
 obtain⟨v0,ps0,hrun0,hv0⟩:=h0.look_ok K ht hz (zd:= .held z) (zp:=[]) rfl hkey
 have e:Go.Maps.has (DataW.map es0) kl=(getM f M kl).isSome:=by
  show es0.any (fun p=>p.1.sameKey kl)=_
  rw[any_permM p0,List.any_map,getM,Bool.eq_iff_iff,List.any_eq_true,List.find?_isSome]
  exact Iff.rfl
 rw[hrun] at hrun0
 simp only[Result.ok.injEq,Value.tuple.injEq,and_true] at hrun0
 have e2:Go.Maps.has (DataW.map es) kl=Go.Maps.has (DataW.map es0) kl:=by
  have:=congrArg (fun a:Array Value=>a[1]?) hrun0
  simpa using this
 rw[hrun,hv.1,e2,e]
end
end Go.Proofs.YtajelkkiijdegaaGreat
namespace Go.Proofs.YtajelkkiijdegaaGreat
open Go.RowKit
attribute [local go_sem] GW.cell GW.frozen In.eq_true In.le_true In.ne In.ne' In.ne_add In.ne_add' In.lt_add Upto.le_true Upto.le_add Upto.lt_add
def msync(k i f t:Int)(l:List Vl):Int:=if mchk k i f t l=0 then (if k=2 then t else f) else 0
theorem sync_c(k i f t:Int)(l:List Vl)(v:Value)(w:World)(hl:Rw w [] v l):Calls Tryz.prog 200 #[mg k i f t v] w fun e w'=>e= .returned (.int .i64 (msync k i f t l))∧Ext w w':=by
 have hc:=hide (fun w' (hX:Ext w w')=>check_c k i f t l v w' (Sl.ext hl hX))
 obtain⟨A,cap,rfl,hlc,hlm, -⟩:=rw_form hl
 have hX0:=hide ((Ext.refl w).alloc (mO k i f t (.slice A l.length cap)))
 unfold msync
 generalize mchk k i f t l=x at *
 clear hl
 by_cases hx:x=0
 ·subst hx
  rw[if_pos rfl]
  by_cases h2:k=2
  ·subst h2
   rw[if_pos rfl]
   go_enter Tryz.func200,Tryz.ntmps200
   go_wp2_with (go_at_call 87;(with_reducible refine seq_gw (hc.out _ hX0.out) ?_);intro g)
   go_returns
   exact⟨rfl,hX0.out.trans g.grown⟩
  ·rw[if_neg h2]
   have e2:(k == 2)=false:=by simp[h2]
   clear h2
   go_enter Tryz.func200,Tryz.ntmps200
   go_wp2_with (go_at_call 87;(with_reducible refine seq_gw (hc.out _ hX0.out) ?_);intro g)
   go_returns
   exact⟨rfl,hX0.out.trans g.grown⟩
 ·rw[if_neg hx]
  have e0:(x != 0)=true:=by simp[hx]
  clear hx
  go_enter Tryz.func200,Tryz.ntmps200
  go_wp2_with (go_at_call 87;(with_reducible refine seq_gw (hc.out _ hX0.out) ?_);intro g)
  go_returns
  exact⟨rfl,hX0.out.trans g.grown⟩
theorem mark_c(t:Int)(w:World):Calls Tryz.prog 85 #[.int .i64 t] w fun e w'=>e= .returned (mg 3 0 t 0 (.slice none 0 0))∧Ext w w':=by
 go_enter Tryz.func85,Tryz.ntmps85
 go_wp2_with fail
 go_returns
 exact⟨rfl,(Ext.refl w).alloc _⟩
class Gn (w w':World):Prop where
 ext:Ext w w'
instance Gn.refl (w:World):Gn w w:=⟨Ext.refl w⟩
instance Gn.alloc {w w':World} (o:Obj) [h:Gn w w']:Gn w (w'.alloc o):=⟨h.ext.alloc o⟩
instance Gn.drew {w w':World} [h:Gn w w']:Gn w w'.drew:=⟨h.ext.drew⟩
instance Gn.drewN {w w':World} (n:Nat) [h:Gn w w']:Gn w (w'.drewN n):=⟨h.ext.drewN n⟩
instance Gn.gw {w W:World} (g:GW W) [h:Gn w W]:Gn w g.val:=⟨h.ext.trans g.grown⟩
theorem kKey:Go.Maps.Keyed Tryz.prog 3:=Go.Maps.int_keyed Tryz.underlying3
def Kn(w:World)(mb n:Nat)(T:List Ke):Prop:=Mv w Tryz.prog 3 kent mb n T
def Fs(w:World)(s mb n:Nat)(c ser:Int)(T:List Ke):Prop:=Ob w s 212 [.int .i64 c, .int .i64 ser, .map (some mb)]∧Kn w mb n T
theorem Fs.ext{w w':World}{s mb n:Nat}{c ser:Int}{T:List Ke}(h:Fs w s mb n c ser T)(k:Ext w w'):Fs w' s mb n c ser T:=⟨h.1.ext k,h.2.kept (row:=none) ⟨k.os,k.tape,k.output,k.size,fun i hi _=>k.block i hi⟩ (by simp)⟩
theorem ext_by0{w w':World}(k:Ext w w'):w.grownBy w' none:=⟨k.os,k.tape,k.output,k.size,fun i hi _=>k.block i hi⟩
abbrev zChV:Value:= .agg #[.int .i64 0, .slice none 0 0, .int .i64 0, .int .i64 0, .int .i64 0, .int .i64 0]
theorem zeroCh(w:World):(zeroValue 39).run Tryz.prog w= .ok zChV w:=by kernel_rfl
theorem key_of{id:Int}(h:inI id):keyOf Tryz.prog 3 (.int .i64 id)=some (.int .i64 id):=Go.Maps.keyOf_int_mk Tryz.underlying3 (by unfold inI at h;simp[Lit.wf,IntKind.min,IntKind.max];first|omega|(simp [IntKind.wrap,IntKind.bits,IntKind.signed];omega))
def knV(o:Option Ke):Value:=(o.map fun q=>chV q.1 q.2.2).getD zChV
theorem look_ok{w:World}{mb n:Nat}{T:List Ke}(h:Kn w mb n T){id:Int}(hi:inI id):∀w' [Gn w w'],(Instr.lookup 210 (.map (some mb)) (.int .i64 id) true).run Tryz.prog w'= .ok (.tuple #[knV (atK T id), .bool (atK T id).isSome]) w':=fun w' k =>
 (h.kept (ext_by0 k.ext) (by simp)).lookOk kKey Tryz.underlying210 (zeroCh w') (key_of hi)
theorem look_1{w:World}{mb n:Nat}{T:List Ke}(h:Kn w mb n T){id:Int}(hi:inI id):∀w' [Gn w w'],(Instr.lookup 210 (.map (some mb)) (.int .i64 id) false).run Tryz.prog w'= .ok (knV (atK T id)) w':=fun w' k =>
 (h.kept (ext_by0 k.ext) (by simp)).lookup kKey Tryz.underlying210 (zeroCh w') (key_of hi)
theorem free_c(s mb n:Nat)(c ser id:Int)(T:List Ke)(hi:inI id)(w:World)(h:Fs w s mb n c ser T)(hR:∀p∈T,Rw w [] p.1 p.2.2.2.1)(hms:s≠mb):Calls Tryz.prog 149 #[.pointer (some ⟨s,0,none⟩), .int .i64 id] w fun e w'=>e= .returned (.tuple #[])∧Fs w' s mb n c ser (freeK T c id)∧Fr [mb] w w':=by
 have c0:=h.1.cell 0 rfl
 have c2:=h.1.cell 2 rfl
 have hlt:=h.1.lt
 haveI:In s w:=⟨hlt⟩
 have hl:=look_ok h.2 hi
 unfold freeK
 cases ha:atK T id with
 |none =>
  rw[ha] at hl
  have hf:=hide h
  clear h
  replace hl:∀w' [Gn w w'],(Instr.lookup 210 (.map (some mb)) (.int .i64 id) true).run Tryz.prog w'= .ok (.tuple #[zChV, .bool false]) w':=hl
  go_enter Tryz.func149,Tryz.ntmps149
  go_wp2_with fail
  refine wp_region_gw (by kernel_rfl) (by kernel_rfl) ?_
  repeat (go_big_quiet_step (fail))
  refine wpQuiet_nil ?_
  intro g
  go_wp2_with fail
  go_end0
  have hX:=((Ext.refl w).alloc (.cells #[.int .i64 0, .slice none 0 0, .int .i64 0, .int .i64 0, .int .i64 0, .int .i64 0] 39)).trans g.grown
  exact⟨rfl,hf.out.ext hX,Fr.of_ext hX⟩
 |some p =>
  rw[ha] at hl
  obtain⟨PA,pc,epv⟩:=rw_val (hR p (atK_some ha).1)
  obtain⟨pv,pid,ps,pr,⟨po1,po2⟩,pn1,pn2⟩:=p
  simp only at epv
  subst epv
  generalize pr.length=pl at *
  have hf:=hide h
  have hO:=hide h.1
  have hK:=hide h.2
  clear h
  replace hl:∀w' [Gn w w'],(Instr.lookup 210 (.map (some mb)) (.int .i64 id) true).run Tryz.prog w'= .ok (.tuple #[.agg #[.int .i64 ps,(.slice PA pl pc), .int .i64 po1, .int .i64 po2, .int .i64 pn1, .int .i64 pn2], .bool true]) w':=hl
  simp only
  by_cases hle:pn2≤c
  ·rw[if_pos hle]
   have dl:decide (pn2≤c)=true:=decide_eq_true hle
   go_enter Tryz.func149,Tryz.ntmps149
   go_wp2_with fail
   refine wp_region_gw (by kernel_rfl) (by kernel_rfl) ?_
   repeat (go_big_quiet_step (fail))
   refine wpQuiet_nil ?_
   intro g
   have hX:=((Ext.refl w).alloc (.cells #[.int .i64 ps,(.slice PA pl pc), .int .i64 po1, .int .i64 po2, .int .i64 pn1, .int .i64 pn2] 39)).trans g.grown
   have hK2:=hide (hK.out.kept (ext_by0 hX) (by simp))
   have hO2:=hide (hO.out.ext hX)
   have hXh:=hide hX
   clear hX
   go_wp2_with (at_delete;refine wpl_mdel rfl (.tmp 29) (.tmp 30) rfl rfl rfl kKey Tryz.underlying210 hK2.out (key_of hi) ?_;intro w5 hM5 hg5)
   first|go_frame|skip
   go_end0
   exact⟨rfl,⟨hO2.out.grown hg5 (by simpa using hms),hM5⟩,(Fr.of_ext hXh.out).grown hg5 (fun z hz=>by obtain rfl:=Option.some.inj hz;exact .inl (by simp))⟩
  ·rw[if_neg hle]
   have dl:decide (pn2≤c)=false:=decide_eq_false hle
   go_enter Tryz.func149,Tryz.ntmps149
   go_wp2_with fail
   refine wp_region_gw (by kernel_rfl) (by kernel_rfl) ?_
   repeat (go_big_quiet_step (fail))
   refine wpQuiet_nil ?_
   intro g
   go_wp2_with fail
   go_end0
   have hX:=((Ext.refl w).alloc (.cells #[.int .i64 ps,(.slice PA pl pc), .int .i64 po1, .int .i64 po2, .int .i64 pn1, .int .i64 pn2] 39)).trans g.grown
   exact⟨rfl,hf.out.ext hX,Fr.of_ext hX⟩
theorem look_form{w:World}{mb n:Nat}{T:List Ke}(h:Kn w mb n T)(hR:∀p∈T,Rw w [] p.1 p.2.2.2.1){id:Int}(hi:inI id):∃(a0:Int) (PA:Option Addr) (pl pc:Nat) (a2 a3 a4 a5:Int) (kb:Bool),(∀w' [Gn w w'],(Instr.lookup 210 (.map (some mb)) (.int .i64 id) true).run Tryz.prog w'= .ok (.tuple #[.agg #[.int .i64 a0, .slice PA pl pc, .int .i64 a2, .int .i64 a3, .int .i64 a4, .int .i64 a5], .bool kb]) w') ∧
 kb=(atK T id).isSome∧(∀p,atK T id=some p→a4=p.2.2.2.2.2.1∧a5=p.2.2.2.2.2.2):=by
 have hl:=look_ok h hi
 cases ha:atK T id with
 |none =>
  rw[ha] at hl
  exact⟨0,none,0,0,0,0,0,0,false,hl,rfl,fun p hp=>by cases hp⟩
 |some p =>
  rw[ha] at hl
  obtain⟨PA,pc,e⟩:=rw_val (hR p (atK_some ha).1)
  have e2:knV (some p)= .agg #[.int .i64 p.2.2.1, .slice PA p.2.2.2.1.length pc, .int .i64 p.2.2.2.2.1.1, .int .i64 p.2.2.2.2.1.2, .int .i64 p.2.2.2.2.2.1, .int .i64 p.2.2.2.2.2.2]:=by
   show chV p.1 p.2.2=_
   rw[←e]
  rw[e2] at hl
  exact⟨_,PA,_,pc,_,_,_,_,true,hl,rfl,fun q hq=>by obtain rfl:=Option.some.inj hq;exact⟨rfl,rfl⟩⟩
theorem result_c(s mb n:Nat)(c ser:Int)(T:List Ke)(k i f t:Int)(l:List Vl)(v:Value)(hi:inI i)(w:World)(h:Fs w s mb n c ser T)(hR:∀p∈T,Rw w [] p.1 p.2.2.2.1)(hv:Rw w [] v l):Calls Tryz.prog 150 #[.pointer (some ⟨s,0,none⟩),mg k i f t v] w fun e w'=>e= .returned (.int .i64 (chkO c (knK (atK T i)) ((k,i,f,t),l)))∧Ext w w':=by
 have c0:=h.1.cell 0 rfl
 have c2:=h.1.cell 2 rfl
 have hlt:=h.1.lt
 haveI:In s w:=⟨hlt⟩
 obtain⟨a0,PA,pl,pc,a2,a3,a4,a5,kb,hl,hkb,hp⟩:=look_form h.2 hR hi
 have hck:=hide (fun w' (hX:Ext w w')=>check_c k i f t l v w' (Sl.ext hv hX))
 have hsy:=hide (fun w' (hX:Ext w w')=>sync_c k i f t l v w' (Sl.ext hv hX))
 obtain⟨VA,vc,rfl⟩:=rw_val hv
 generalize l.length=vl at *
 clear h hR hv
 have hX0:=hide (Ext.refl w)
 obtain⟨E,hE⟩:∃E,E=mchk k i f t l:=⟨_,rfl⟩
 have hmk:mkM ((k,i,f,t),l)=E:=hE.symm
 obtain⟨R,hR⟩:∃R,R=chkO c (knK (atK T i)) ((k,i,f,t),l):=⟨_,rfl⟩
 rw[←hR]
 rw[←hE] at hck
 unfold chkO at hR
 rw[hmk] at hR
 have hY:E=0→msync k i f t l=if k=2 then t else f:=fun h0=>by unfold msync;rw[←hE,if_pos h0]
 generalize msync k i f t l=Y at *
 replace hE:=hide hE
 clear hmk
 have hkn:kb=false→knK (atK T i)=none:=fun hb=>by
  rw[hb] at hkb
  cases ha:atK T i with
  |none=>rfl
  |some p=>rw[ha] at hkb;cases hkb
 have hks:kb=true→∃q,knK (atK T i)=some q∧q.2=(a4,a5):=fun hb=>by
  rw[hb] at hkb
  cases ha:atK T i with
  |none=>rw[ha] at hkb;cases hkb
  |some p =>
   obtain⟨e1,e2⟩:=hp p ha
   exact⟨_,rfl,by rw[e1,e2]⟩
 clear hkb hp
 generalize knK (atK T i)=o at *
 by_cases h0:E=0
 ·rw[if_neg (by simpa using h0)] at hR
  have hY0:=hY h0
  subst h0
  clear hY
  by_cases hk2:k=2
  ·subst hk2
   rw[if_pos rfl] at hR
   rw[if_pos rfl] at hY0
   subst hY0
   cases kb
   ·rw[hkn rfl] at hR
    simp only at hR
    subst hR
    clear hkn hks
    go_enter Tryz.func150,Tryz.ntmps150
    go_wp2_with (go_at_call 87;first|((with_reducible refine seq_gw' (hck.out _ (hX0.out.alloc _)) ?_);intro g)|((with_reducible refine seq_gw (hck.out _ (hX0.out.alloc _)) ?_);intro g))
    go_region
    go_wp2_with fail
    go_returns
    exact⟨by first|rfl|simp,Gn.ext⟩
   ·obtain⟨q,hq,hq2⟩:=hks rfl
    rw[hq] at hR
    simp only[hq2] at hR
    clear hkn hks hq hq2
    by_cases h5:a5≤Y
    ·rw[if_pos h5] at hR
     subst hR
     have d5:decide (a5≤Y)=true:=decide_eq_true h5
     go_enter Tryz.func150,Tryz.ntmps150
     go_wp2_with (go_at_call 87;first|((with_reducible refine seq_gw' (hck.out _ (hX0.out.alloc _)) ?_);intro g)|((with_reducible refine seq_gw (hck.out _ (hX0.out.alloc _)) ?_);intro g))
     go_region
     go_wp2_with fail
     go_returns
     exact⟨by first|rfl|simp,Gn.ext⟩
    ·rw[if_neg h5] at hR
     have d5:decide (a5≤Y)=false:=decide_eq_false h5
     by_cases h4:Y<a4
     ·rw[if_pos h4] at hR
      subst hR
      have d4:decide (Y<a4)=true:=decide_eq_true h4
      go_enter Tryz.func150,Tryz.ntmps150
      go_wp2_with (go_at_call 87;first|((with_reducible refine seq_gw' (hck.out _ (hX0.out.alloc _)) ?_);intro g)|((with_reducible refine seq_gw (hck.out _ (hX0.out.alloc _)) ?_);intro g))
      go_region
      go_wp2_with fail
      go_returns
      exact⟨by first|rfl|simp,Gn.ext⟩
     ·rw[if_neg h4] at hR
      have d4:decide (Y<a4)=false:=decide_eq_false h4
      by_cases hc:Y<c
      ·rw[if_pos hc] at hR
       subst hR
       have dc:decide (Y<c)=true:=decide_eq_true hc
       go_enter Tryz.func150,Tryz.ntmps150
       go_wp2_with (go_at_call 87;first|((with_reducible refine seq_gw' (hck.out _ (hX0.out.alloc _)) ?_);intro g)|((with_reducible refine seq_gw (hck.out _ (hX0.out.alloc _)) ?_);intro g))
       go_region
       go_wp2_with fail
       refine wp_region_gw (by kernel_rfl) (by kernel_rfl) ?_
       repeat (go_big_quiet_step ((go_at_call 200;with_reducible exact quiet_gw (hsy.out _ (Gn.ext (w:=w))))))
       refine wpQuiet_nil ?_
       intro g2
       go_wp2_with fail
       go_returns
       exact⟨by first|rfl|simp,Gn.ext⟩
      ·rw[if_neg hc] at hR
       subst hR
       have dc:decide (Y<c)=false:=decide_eq_false hc
       go_enter Tryz.func150,Tryz.ntmps150
       go_wp2_with (go_at_call 87;first|((with_reducible refine seq_gw' (hck.out _ (hX0.out.alloc _)) ?_);intro g)|((with_reducible refine seq_gw (hck.out _ (hX0.out.alloc _)) ?_);intro g))
       go_region
       go_wp2_with fail
       refine wp_region_gw (by kernel_rfl) (by kernel_rfl) ?_
       repeat (go_big_quiet_step ((go_at_call 200;with_reducible exact quiet_gw (hsy.out _ (Gn.ext (w:=w))))))
       refine wpQuiet_nil ?_
       intro g2
       go_wp2_with fail
       go_returns
       exact⟨by first|rfl|simp,Gn.ext⟩
  ·rw[if_neg hk2] at hR
   rw[if_neg hk2] at hY0
   subst hY0
   have k2:(k == 2)=false:=by simp[hk2]
   by_cases hc:Y<c
   ·rw[if_pos hc] at hR
    subst hR
    have dc:decide (Y<c)=true:=decide_eq_true hc
    clear hkn hks
    replace hk2:=hide hk2
    go_enter Tryz.func150,Tryz.ntmps150
    go_wp2_with (go_at_call 87;first|((with_reducible refine seq_gw' (hck.out _ (hX0.out.alloc _)) ?_);intro g)|((with_reducible refine seq_gw (hck.out _ (hX0.out.alloc _)) ?_);intro g))
    go_region
    go_wp2_with fail
    refine wp_region_gw (by kernel_rfl) (by kernel_rfl) ?_
    repeat (go_big_quiet_step ((go_at_call 200;with_reducible exact quiet_gw (hsy.out _ (Gn.ext (w:=w))))))
    refine wpQuiet_nil ?_
    intro g2
    go_wp2_with fail
    go_returns
    exact⟨by first|rfl|simp,Gn.ext⟩
   ·rw[if_neg hc] at hR
    have dc:decide (Y<c)=false:=decide_eq_false hc
    by_cases hk1:k=1
    ·subst hk1
     cases kb
     ·rw[hkn rfl,if_neg (by simp)] at hR
      subst hR
      clear hkn hks hk2 k2
      go_enter Tryz.func150,Tryz.ntmps150
      go_wp2_with (go_at_call 87;first|((with_reducible refine seq_gw' (hck.out _ (hX0.out.alloc _)) ?_);intro g)|((with_reducible refine seq_gw (hck.out _ (hX0.out.alloc _)) ?_);intro g))
      go_region
      go_wp2_with fail
      refine wp_region_gw (by kernel_rfl) (by kernel_rfl) ?_
      repeat (go_big_quiet_step ((go_at_call 200;with_reducible exact quiet_gw (hsy.out _ (Gn.ext (w:=w))))))
      refine wpQuiet_nil ?_
      intro g2
      go_wp2_with fail
      go_returns
      exact⟨by first|rfl|simp,Gn.ext⟩
     ·obtain⟨q,hq, -⟩:=hks rfl
      rw[hq,if_pos (by simp)] at hR
      subst hR
      clear hkn hks hk2 k2 hq
      go_enter Tryz.func150,Tryz.ntmps150
      go_wp2_with (go_at_call 87;first|((with_reducible refine seq_gw' (hck.out _ (hX0.out.alloc _)) ?_);intro g)|((with_reducible refine seq_gw (hck.out _ (hX0.out.alloc _)) ?_);intro g))
      go_region
      go_wp2_with fail
      refine wp_region_gw (by kernel_rfl) (by kernel_rfl) ?_
      repeat (go_big_quiet_step ((go_at_call 200;with_reducible exact quiet_gw (hsy.out _ (Gn.ext (w:=w))))))
      refine wpQuiet_nil ?_
      intro g2
      go_wp2_with fail
      go_returns
      exact⟨by first|rfl|simp,Gn.ext⟩
    ·rw[if_neg (by intro hh;exact hk1 hh.1)] at hR
     subst hR
     have k1:(k == 1)=false:=by simp[hk1]
     replace hk1:=hide hk1
     replace hk2:=hide hk2
     clear hkn hks
     go_enter Tryz.func150,Tryz.ntmps150
     go_wp2_with (go_at_call 87;first|((with_reducible refine seq_gw' (hck.out _ (hX0.out.alloc _)) ?_);intro g)|((with_reducible refine seq_gw (hck.out _ (hX0.out.alloc _)) ?_);intro g))
     go_region
     go_wp2_with fail
     refine wp_region_gw (by kernel_rfl) (by kernel_rfl) ?_
     repeat (go_big_quiet_step ((go_at_call 200;with_reducible exact quiet_gw (hsy.out _ (Gn.ext (w:=w))))))
     refine wpQuiet_nil ?_
     intro g2
     go_wp2_with fail
     go_returns
     exact⟨by first|rfl|simp,Gn.ext⟩
 ·rw[if_pos (by simpa using h0)] at hR
  rw[hR]
  clear hR
  have e0:(E != 0)=true:=by simp[h0]
  replace h0:=hide h0
  clear hkn hks hY
  go_enter Tryz.func150,Tryz.ntmps150
  go_wp2_with (go_at_call 87;first|((with_reducible refine seq_gw' (hck.out _ (hX0.out.alloc _)) ?_);intro g)|((with_reducible refine seq_gw (hck.out _ (hX0.out.alloc _)) ?_);intro g))
  go_region
  go_wp2_with fail
  go_returns
  exact⟨by first|rfl|simp,Gn.ext⟩
end Go.Proofs.YtajelkkiijdegaaGreat
