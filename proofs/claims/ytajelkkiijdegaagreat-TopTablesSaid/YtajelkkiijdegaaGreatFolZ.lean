/-
  A helper of ours: no claim of its own. Layer 13 (fold): events that were cancelled are deleted in place.
-/
import Derived.Test.YtajelkkiijdegaaGreatFolXH
import Derived.Test.YtajelkkiijdegaaGreatStepR
import Derived.Test.YtajelkkiijdegaaGreatStepV
set_option linter.unusedVariables false
set_option linter.unusedSimpArgs false
set_option linter.unusedSectionVars false
set_option maxHeartbeats 64000000
set_option maxRecDepth 100000
namespace Go.Proofs.YtajelkkiijdegaaGreat
open Go.RowKit
attribute [local go_sem] GW.cell GW.frozen In.eq_true In.le_true In.ne In.ne' In.ne_add In.ne_add' In.lt_add Upto.le_true Upto.le_add Upto.lt_add
def evO(v:Value)(x:Ex):List Value:=[.int .i64 x.1.1,v, .int .i64 x.2.1, .int .i64 x.2.2]
abbrev evV(v:Value)(x:Ex):Value:= .agg #[.int .i64 x.1.1,v, .int .i64 x.2.1, .int .i64 x.2.2]
theorem tEvs:ElemT Tryz.prog 46 59 (.agg #[.int .i64 0, .slice none 0 0, .int .i64 0, .int .i64 0]) 4 48:=ElemT.mk' Tryz.underlying46 (by kernel_rfl) rfl (by omega)
abbrev OwnEx:=OwnX 59 4 evO (fun x:Ex=>x.1.2)
def BxE(w:World)(base B:Nat)(L:List (Value×Ex)):Prop:=∃sv,Ob w B 46 [sv]∧OwnEx w base sv L∧base≤B
theorem BxE.ext{w w':World}{base B:Nat}{L:List (Value×Ex)}(h:BxE w base B L)(k:Ext w w'):BxE w' base B L:=by obtain⟨sv,h1,h2,h3⟩:=h;exact⟨sv,h1.ext k,h2.ext k,h3⟩
theorem BxE.stay{w w':World}{base B s mb:Nat}{L:List (Value×Ex)}(h:BxE w base B L)(hst:StOk w s mb)(hF:Fr [s,mb] w w'):BxE w' base B L:=by
 obtain⟨sv,h1,h2,h3⟩:=h
 have hne:=hst.ne_ob h1 (by decide)
 exact⟨sv,h1.fr hF (by simp only[List.mem_cons,List.not_mem_nil,or_false];omega),h2.stay hF (fun b hb=>⟨hst.nt (by decide) b hb,hst.nt (by decide) b hb⟩),h3⟩
theorem evO_new(u:Value)(x:Ex)(w:World):Sl (w.alloc (.cells (evO u x).toArray 59)) [] 4 (.slice (some ⟨w.heap.size,0,none⟩) 1 1) 1 (evO u x) :=
 Sl.own (World.ownsRow_lit (base:=w.heap.size) (e:=59) (size:=4) w (evO u x).toArray 1 (Nat.le_refl _) (by decide) rfl) (by simp)
theorem evO_one{UA:Option Addr}{ul uc:Nat}{x:Ex}:∀y∈evO (.slice UA ul uc) x,y.oneCell'=true:=by
 intro y hy;simp[evO] at hy;rcases hy with rfl|rfl|rfl|rfl<;>rfl
theorem buildEv(A:Option Addr)(n cap:Nat)(x:Ex)(w:World):(Instr.buildSlice 46 1 #[(0,evV (.slice A n cap) x)]).run Tryz.prog w= .ok (.slice (some ⟨w.heap.size,0,none⟩) 1 1) (w.alloc (.cells #[.int .i64 x.1.1, .slice A n cap, .int .i64 x.2.1, .int .i64 x.2.2] 59)):=by
 simp[go_sem]
def rowOF(r:List Vl):Fact:= .st (fun u w=>RwO w u r) (fun _ _ _ h k=>RwO.ext h k)
def evtF(x:Ex):Fact:= .st (fun u w=>∃A cp,u=evV (.slice A x.1.2.length cp) x∧RwO w (.slice A x.1.2.length cp) x.1.2) (fun _ _ _ h k=>by obtain⟨A,cp,e,h⟩:=h;exact⟨A,cp,e,RwO.ext h k⟩)
def oneEv(x:Ex):Fact:= .st (fun v w=>∃A cp,Sl w [] 4 v 1 (evO (.slice A x.1.2.length cp) x)∧RwO w (.slice A x.1.2.length cp) x.1.2) (fun _ _ _ h k=>by obtain⟨A,cp,h1,h2⟩:=h;exact⟨A,cp,Sl.ext h1 k,RwO.ext h2 k⟩)
theorem rwo_val{w:World}{v:Value}{l:List Vl}(h:RwO w v l):∃A cap,v= .slice A l.length cap:=own_form h
theorem evtPut0_c(wA:World)(B s mb:Nat)(L:List (Value×Ex))(k i f t:Int)(u v:Value)(VA:Option Addr)(vl vc:Nat)(hv:v= .slice VA vl vc)(c:Ch)(hu:Rw wA [] u c.2.1)(h0:decide (0<c.1)=false)(e:Int)(w:World)(h:BxE w wA.heap.size B L)(hX:Ext wA w)(hst:StOk w s mb) :
 Calls Tryz.prog 126 #[mg k i f t v,chV u c, .int .i64 e, .pointer (some ⟨B,0,none⟩)] w fun r w'=>r= .returned (.tuple #[])∧BxE w' wA.heap.size B L∧Ext wA w'∧w'.heap[s]? = w.heap[s]? ∧ w'.heap[mb]? = w.heap[mb]? := by
 obtain⟨UA,uc,eu⟩:=rw_val hu
 subst hv;subst eu
 have hic:=hide (fun w=>isChange_c UA c.2.1.length uc c w)
 rw[h0] at hic
 replace h:=hide h
 replace h0:=hide h0
 go_enter Tryz.func126,Tryz.ntmps126
 go_wp2_with (go_at_call 93;first|((with_reducible refine seq_gw' (hic.out _) ?_);intro g1)|((with_reducible refine seq_gw (hic.out _) ?_);intro g1))
 go_end0
 have hXb:=(Gn.ext (w:=w):Ext w g1.val)
 exact⟨rfl,h.out.ext hXb,put_done (Fr.of_ext (S:=[]) hXb) hX (by simp) hst⟩
theorem evtPut1_c(wA:World)(B s mb:Nat)(L:List (Value×Ex))(i f t:Int)(u v:Value)(VA:Option Addr)(vl vc:Nat)(hv:v= .slice VA vl vc)(cs:Nat)(cr:List Vl)(o1 o2 n1 n2:Int)(hu:Rw wA [] u cr)(hr8:cr.length≤8)(h0:decide (0<cs)=true)(e:Int)(hl:L.length≤100000)(w:World)(h:BxE w wA.heap.size B L)(hX:Ext wA w)(hst:StOk w s mb) :
 Calls Tryz.prog 126 #[mg 1 i f t v,chV u (cs,cr,(o1,o2),(n1,n2)), .int .i64 e, .pointer (some ⟨B,0,none⟩)] w fun r w'=>r= .returned (.tuple #[])∧(∃L',BxE w' wA.heap.size B L'∧L'.map Prod.snd=L.map Prod.snd++[((i,cr),(n1,n2))])∧Ext wA w'∧w'.heap[s]? = w.heap[s]? ∧ w'.heap[mb]? = w.heap[mb]? := by
 have hcp:=hide (fun w' (hx:Ext wA w')=>rowCopy_c cr u w' (Sl.ext hu hx) (by omega))
 obtain⟨UA,uc,eu⟩:=rw_val hu
 subst hv;subst eu
 have hic:=hide (fun w=>isChange_c UA cr.length uc (cs,cr,(o1,o2),(n1,n2)) w)
 simp only at hic
 rw[h0] at hic
 obtain⟨sv,hO,ho,hB⟩:=h
 obtain⟨A,cap,rfl⟩:=ho.form
 have hlt:=hO.lt
 have q0:=hide (hO.cell 0 rfl)
 haveI:In B w:=⟨hlt⟩
 have hbase:=hX.size
 have hne1:=hst.ne_ob hO (by decide)
 have hnB:=hO.not_own ho.1 (by decide)
 replace hO:=hide hO
 replace ho:=hide ho
 replace h0:=hide h0
 have hOm0:=hide (show Ob ((w.alloc (mO 1 i f t (.slice VA vl vc))).alloc (.cells (chO (.slice UA cr.length uc) (cs,cr,(o1,o2),(n1,n2))).toArray 39)) w.heap.size 44 [.int .i64 1, .int .i64 i, .int .i64 f, .int .i64 t, .slice VA vl vc] from (Ob.new w 44 [.int .i64 1, .int .i64 i, .int .i64 f, .int .i64 t, .slice VA vl vc]).alloc _)
 have hOc0:=hide (show Ob ((w.alloc (mO 1 i f t (.slice VA vl vc))).alloc (.cells (chO (.slice UA cr.length uc) (cs,cr,(o1,o2),(n1,n2))).toArray 39)) (w.heap.size+1) 39 (chO (.slice UA cr.length uc) (cs,cr,(o1,o2),(n1,n2))) by
  have:=Ob.new (w.alloc (mO 1 i f t (.slice VA vl vc))) 39 (chO (.slice UA cr.length uc) (cs,cr,(o1,o2),(n1,n2)))
  rw[World.size_alloc] at this
  exact this)
 go_enter Tryz.func126,Tryz.ntmps126
 go_wp2_with (go_at_call 93;first|((with_reducible refine seq_gw' (hic.out _) ?_);intro g1)|((with_reducible refine seq_gw (hic.out _) ?_);intro g1))
 have hOm:=hOm0.out.ext g1.grown
 have hOc:=hOc0.out.ext g1.grown
 have x1:=hide (hOm.cell 1 rfl)
 have y1:=hide (hOc.cell 1 rfl)
 have y4:=hide (hOc.cell 4 rfl)
 have y5:=hide (hOc.cell 5 rfl)
 have hXg:=hide (Gn.ext (w:=w):Ext w g1.val)
 have qB:=hide ((hO.out.ext hXg.out).cell 0 rfl)
 refine wp_region_list_tail 10 [(.is (.slice A L.length cap)),(.is (.pointer (some ⟨w.heap.size,1,none⟩))),(.is (.int .i64 i)),(.is (.pointer (some ⟨w.heap.size+1,1,none⟩))),(.is (.slice UA cr.length uc)),rowOF cr,(.is (.pointer (some ⟨w.heap.size+1,4,none⟩))),(.is (.agg #[.int .i64 n1, .int .i64 n2])),evtF ((i,cr),(n1,n2)),oneEv ((i,cr),(n1,n2))] (by kernel_rfl) (by kernel_rfl) (by kernel_rfl) (by kernel_rfl) (by kernel_rfl) (by kernel_rfl) (by kernel_rfl) ?_ ?_
 ·refine⟨?_,?_,?_,?_,?_,?_,?_,?_,?_,?_,trivial⟩
  ·intro b w' h hE
   have f3:b.tmps.getD 3 undef= .pointer (some ⟨B,0,none⟩):=hE 3 (of_decide_eq_true (by kernel_rfl))
   have c0:=cell_later h.ext qB.out
   exact good_load (wanted_none rfl) rfl f3 (by simp[go_sem,c0]) rfl
  ·intro b w' h hE
   have f4:b.tmps.getD 4 undef= .pointer (some ⟨w.heap.size,0,none⟩):=hE 4 (of_decide_eq_true (by kernel_rfl))
   exact good_field (wanted_none rfl) rfl f4 (by simp[go_sem]) rfl
  ·intro b w' h hE
   have f16:b.tmps.getD 16 undef= .pointer (some ⟨w.heap.size,1,none⟩):=h.dep 1 _ 16 (by kernel_rfl) rfl rfl
   have c0:=cell_later h.ext x1.out
   exact good_load (wanted_none rfl) rfl f16 (by simp[go_sem,c0]) rfl
  ·intro b w' h hE
   have f5:b.tmps.getD 5 undef= .pointer (some ⟨w.heap.size+1,0,none⟩):=hE 5 (of_decide_eq_true (by kernel_rfl))
   exact good_field (wanted_none rfl) rfl f5 (by simp[go_sem]) rfl
  ·intro b w' h hE
   have f18:b.tmps.getD 18 undef= .pointer (some ⟨w.heap.size+1,1,none⟩):=h.dep 3 _ 18 (by kernel_rfl) rfl rfl
   have c0:=cell_later h.ext y1.out
   exact good_load (wanted_none rfl) rfl f18 (by simp[go_sem,c0]) rfl
  ·intro b w' h hE
   have f19:b.tmps.getD 19 undef= .slice UA cr.length uc:=h.dep 4 _ 19 (by kernel_rfl) rfl rfl
   have g19:b.tmps[19]?.getD undef= .slice UA cr.length uc:=by rw[←Array.getD_eq_getD_getElem?];exact f19
   refine good_call (wanted_none rfl) rfl (enters Tryz.func53 (by kernel_rfl) rfl) ?_
   rw[show (#[.tmp 19]:Array Operand).map b.eval= #[.slice UA cr.length uc] by simp[Act.eval,g19]]
   exact (hcp.out w' (hX.trans (hXg.out.trans h.ext))).mono fun e w1 ⟨v,he,ho,hx⟩=>⟨v,he,own_base ho (Nat.zero_le _),hx⟩
  ·intro b w' h hE
   have f5:b.tmps.getD 5 undef= .pointer (some ⟨w.heap.size+1,0,none⟩):=hE 5 (of_decide_eq_true (by kernel_rfl))
   exact good_field (wanted_none rfl) rfl f5 (by simp[go_sem]) rfl
  ·intro b w' h hE
   have f21:b.tmps.getD 21 undef= .pointer (some ⟨w.heap.size+1,4,none⟩):=h.dep 6 _ 21 (by kernel_rfl) rfl rfl
   have c4:=cell_later h.ext y4.out
   have c5:=cell_later h.ext y5.out
   exact good_load (wanted_none rfl) rfl f21 (by simp[go_sem,c4,c5]) rfl
  ·intro b w' h hE
   have f17:b.tmps.getD 17 undef= .int .i64 i:=h.dep 2 _ 17 (by kernel_rfl) rfl rfl
   have g17:b.tmps[17]?.getD undef= .int .i64 i:=by rw[←Array.getD_eq_getD_getElem?];exact f17
   have f20:RwO w' (b.tmps.getD 20 undef) cr:=h.dep 5 _ 20 (by kernel_rfl) rfl rfl
   have f22:b.tmps.getD 22 undef= .agg #[.int .i64 n1, .int .i64 n2]:=h.dep 7 _ 22 (by kernel_rfl) rfl rfl
   have g22:b.tmps[22]?.getD undef= .agg #[.int .i64 n1, .int .i64 n2]:=by rw[←Array.getD_eq_getD_getElem?];exact f22
   obtain⟨A2,cp,e20⟩:=rwo_val f20
   have g20:b.tmps[20]?.getD undef= .slice A2 cr.length cp:=by rw[←Array.getD_eq_getD_getElem?];exact e20
   rw[e20] at f20
   exact good_run (wanted_none rfl) (v:=evV (.slice A2 cr.length cp) ((i,cr),(n1,n2))) (by simp[execOp,Act.eval,go_sem,g17,g20,g22,Sem.run_bind,Sem.run_pure,Result.andThen_ok]) ⟨A2,cp,rfl,f20⟩
  ·intro b w' h hE
   have f23:∃A2 cp,(b.tmps.getD 23 undef)=evV (.slice A2 cr.length cp) ((i,cr),(n1,n2))∧RwO w' (.slice A2 cr.length cp) cr:=h.dep 8 _ 23 (by kernel_rfl) rfl rfl
   obtain⟨A2,cp,e23,hr23⟩:=f23
   have g23:b.tmps[23]?.getD undef=evV (.slice A2 cr.length cp) ((i,cr),(n1,n2)):=by rw[←Array.getD_eq_getD_getElem?];exact e23
   have:=buildEv A2 cr.length cp ((i,cr),(n1,n2)) w'
   refine good_grow (w':=w'.alloc (.cells #[.int .i64 i, .slice A2 cr.length cp, .int .i64 n1, .int .i64 n2] 59)) (v:= .slice (some ⟨w'.heap.size,0,none⟩) 1 1) (wanted_none rfl) ?_ ⟨_,_,evO_new (.slice A2 cr.length cp) ((i,cr),(n1,n2)) w',RwO.ext hr23 ((Ext.refl _).alloc _)⟩ ((Ext.refl _).alloc _)
   simp[execOp,Act.eval,g23,this,Sem.run_bind,Sem.run_pure,Result.andThen_ok]
 ·intro b w2 hX2 hd hz he' hf
  have e15:b.tmps.getD 15 undef= .slice A L.length cap:=hf 0 _ 15 (by omega) rfl rfl
  have e16:b.tmps.getD 16 undef= .pointer (some ⟨w.heap.size,1,none⟩):=hf 1 _ 16 (by omega) rfl rfl
  have e17:b.tmps.getD 17 undef= .int .i64 i:=hf 2 _ 17 (by omega) rfl rfl
  have e18:b.tmps.getD 18 undef= .pointer (some ⟨w.heap.size+1,1,none⟩):=hf 3 _ 18 (by omega) rfl rfl
  have e19:b.tmps.getD 19 undef= .slice UA cr.length uc:=hf 4 _ 19 (by omega) rfl rfl
  have f20:RwO w2 (b.tmps.getD 20 undef) cr:=hf 5 _ 20 (by omega) rfl rfl
  have e21:b.tmps.getD 21 undef= .pointer (some ⟨w.heap.size+1,4,none⟩):=hf 6 _ 21 (by omega) rfl rfl
  have e22:b.tmps.getD 22 undef= .agg #[.int .i64 n1, .int .i64 n2]:=hf 7 _ 22 (by omega) rfl rfl
  have f23:∃A2 cp,(b.tmps.getD 23 undef)=evV (.slice A2 cr.length cp) ((i,cr),(n1,n2))∧RwO w2 (.slice A2 cr.length cp) cr:=hf 8 _ 23 (by omega) rfl rfl
  have f24:∃A2 cp,Sl w2 [] 4 (b.tmps.getD 24 undef) 1 (evO (.slice A2 cr.length cp) ((i,cr),(n1,n2)))∧RwO w2 (.slice A2 cr.length cp) cr:=hf 9 _ 24 (by omega) rfl rfl
  have e:=frame_puts hd hz he'
  obtain⟨X,hXx⟩:∃X:Nat→Value,∀d,b.tmps.getD d undef=X d:=⟨_,fun _=>rfl⟩
  rw[hXx] at e15 e16 e17 e18 e19 f20 e21 e22 f23 f24
  obtain⟨A20,c20,q20⟩:=rwo_val f20
  obtain⟨A23,c23,q23, -⟩:=f23
  obtain⟨A24,c24,f24,r24⟩:=f24
  obtain⟨A25,c25,q24⟩:=sl_form f24
  rw[show dstsOf _=[15,16,17,18,19,20,21,22,23,24] from rfl] at e
  simp only[List.foldl_cons,List.foldl_nil,hXx,Act.put,List.setIfInBounds_toArray,List.set_cons_succ,List.set_cons_zero] at e
  rw[e15,e16,e17,e18,e19,q20,e21,e22,q23,q24] at e
  rw[q24] at f24
  replace f24:=hide f24
  replace r24:=hide r24
  clear hf he' hz hd hXx e15 e16 e17 e18 e19 e21 e22 q20 q23 q24 f20
  subst e
  have hX2w:=hide (hXg.out.trans hX2)
  simp only[List.drop_succ_cons,List.drop_zero]
  go_wp2_with (at_builtin;(refine wpl_app tEvs rfl (.tmp 15) (.tmp 24) rfl rfl (ho.out.ext hX2w.out).1 rfl (src_sl Tryz.underlying46 f24.out evO_one (by omega)) (by unfold maxLen;omega) (by omega) (by have:=hX2w.out.size;omega) ?_;intro v1 w1 ho1 hg1 hob1;replace hg1:World.grownBy _ w1 (Value.slice A L.length cap).ownBlock:=hg1;have O1:=(hO.out.ext hX2w.out).grown hg1 (fun e=>hnB e.symm);have k0:=O1.cell 0 rfl;have z0:=O1.free 0;have hlt1:=O1.lt;haveI:In B w1:=⟨hlt1⟩;have hN1:=hide ((ho.out.ext hX2w.out).app (M:=[((.slice A24 cr.length c24),((i,cr),(n1,n2)))]) (by decide) (by simpa using ho1) hg1 (by intro p hp;rw[List.mem_singleton.1 hp];exact r24.out));obtain⟨A1,cp1,rfl⟩:=own_form ho1))
  go_end0
  have hge:=ob_ge ho.out.1
  have hne2:=hst.ne_own ho.out.1 (by decide)
  have hF:=((Fr.of_ext (S:=B::ob (.slice A L.length cap)) hX2w.out).then (fr_grown hg1) (fun x hx=> .inl (by simp;exact .inr (by simpa [ob] using hx)))).setCell ⟨B,0,none⟩ (.slice A1 (L.length+1) cp1) (.inl (by simp))
  have hP:=put_done hF hX (by
   intro b hb
   rcases List.mem_cons.1 hb with rfl|hb
   ·exact⟨hB,hne1⟩
   ·exact⟨(hge b hb).1,hne2 b hb⟩) hst
  refine⟨rfl,⟨L++[((.slice A24 cr.length c24),((i,cr),(n1,n2)))],⟨.slice A1 (L.length+1) cp1,O1.set 0 _,?_,hB⟩,by simp⟩,hP⟩
  exact hN1.out.stay ((Fr.refl [B] w1).setCell ⟨B,0,none⟩ (.slice A1 (L.length+1) cp1) (.inl (by simp))) (by intro b hb;rw[List.mem_singleton.1 hb];exact⟨O1.nt (by decide),O1.nt (by decide)⟩)
abbrev evs(L:List (Value×Ex)):List Value:=L.flatMap fun p=>evO p.1 p.2
theorem evs_get:∀(L:List (Value×Ex)) (i:Nat) (p:Value×Ex),L[i]? = some p→∀j u,(evO p.1 p.2)[j]? = some u→(evs L)[i*4+j]? = some u
 |q::r,0,p,h,j,u,hu=>by
  simp at h;subst h
  have hj:j<(evO q.1 q.2).length:=(List.getElem?_eq_some_iff.1 hu).1
  rw[show evs (q::r)=evO q.1 q.2++evs r by simp[evs],List.getElem?_append_left (by omega),show 0*4+j=j by omega];exact hu
 |q::r,i+1,p,h,j,u,hu=>by
  have:=evs_get r i p (by simpa using h) j u hu
  rw[show evs (q::r)=evO q.1 q.2++evs r by simp[evs],show (i+1)*4+j=(evO q.1 q.2).length+(i*4+j) by simp[evO];omega,List.getElem?_append_right (by omega),Nat.add_sub_cancel_left]
  exact this
theorem evs_set(n1 n2:Int):∀(L:List (Value×Ex)) (i:Nat) (p:Value×Ex),L[i]? = some p→evs (L.set i (p.1,(p.2.1,(n1,n2))))=((evs L).set (i*4+2) (.int .i64 n1)).set (i*4+3) (.int .i64 n2)
 |q::r,0,p,h=>by
  simp at h;subst h
  simp[evs,evO]
 |q::r,i+1,p,h=>by
  have ih:=evs_set n1 n2 r i p (by simpa using h)
  have e:evs (q::r)=evO q.1 q.2++evs r:=by simp[evs]
  have hl:(evO q.1 q.2).length=4:=rfl
  rw[List.set_cons_succ,show evs (q::r.set i (p.1,(p.2.1,(n1,n2))))=evO q.1 q.2++evs (r.set i (p.1,(p.2.1,(n1,n2)))) by simp[evs],ih,e]
  rw[List.set_append_right _ _ (by rw[hl];omega),List.set_append_right _ _ (by rw[hl];omega),hl]
  congr 2
  ·congr 1;omega
  ·omega
theorem evtPut2_c(wA:World)(B s mb:Nat)(L:List (Value×Ex))(k i f t:Int)(hk:k≠1)(u v:Value)(VA:Option Addr)(vl vc:Nat)(hv:v= .slice VA vl vc)(cs:Nat)(cr:List Vl)(o1 o2 n1 n2:Int)(hu:Rw wA [] u cr)(h0:decide (0<cs)=true)(p:Value×Ex)(hp:L[cs-1]? = some p)(e:Int)(hl:L.length≤100000)(w:World)(h:BxE w wA.heap.size B L)(hX:Ext wA w)(hst:StOk w s mb) :
 Calls Tryz.prog 126 #[mg k i f t v,chV u (cs,cr,(o1,o2),(n1,n2)), .int .i64 e, .pointer (some ⟨B,0,none⟩)] w fun r w'=>r= .returned (.tuple #[])∧(∃L',BxE w' wA.heap.size B L'∧L'.map Prod.snd=(L.map Prod.snd).set (cs-1) (p.2.1,(n1,n2)))∧Ext wA w'∧w'.heap[s]? = w.heap[s]? ∧ w'.heap[mb]? = w.heap[mb]? := by
 obtain⟨UA,uc,eu⟩:=rw_val hu
 subst hv;subst eu
 have hic:=hide (fun w=>isChange_c UA cr.length uc (cs,cr,(o1,o2),(n1,n2)) w)
 simp only at hic
 rw[h0] at hic
 have hk1:(k == 1)=false:=by simp[hk]
 have hcs:1≤cs:=of_decide_eq_true h0
 obtain⟨j,hjc⟩:∃j,j=cs-1:=⟨_,rfl⟩
 rw[←hjc] at hp ⊢
 have hsub:(cs:Int)-1=(j:Int):=by omega
 have hj:j<L.length:=(List.getElem?_eq_some_iff.1 hp).1
 obtain⟨sv,hO,ho,hB⟩:=h
 obtain⟨g,cap,cur,rfl,hgb,hg,r⟩:∃g cap cur,sv= .slice (some ⟨g,0,none⟩) L.length cap∧wA.heap.size≤g∧w.heap[g]? = some (.cells cur 59)∧L.length≤cap:=by
  rcases ho.1.2 with ⟨-,h2⟩|⟨g,cap,cur,e1,hb,hg,hn, -⟩
  ·omega
  ·exact⟨g,cap,cur,e1,hb,hg,hn⟩
 have c2:=ho.1.cells (g:=g) rfl (j*4+2) _ (evs_get L j p hp 2 _ rfl)
 have c3:=ho.1.cells (g:=g) rfl (j*4+3) _ (evs_get L j p hp 3 _ rfl)
 rw[add_plain,Nat.zero_add] at c2 c3
 have z2:=frozen_of_row w g (j*4+2) cur 59 hg
 have z3:=frozen_of_row w g (j*4+3) cur 59 hg
 have hgl:=block_lt_of_cell c2
 haveI:In g w:=⟨hgl⟩
 have hlt:=hO.lt
 have q0:=hO.cell 0 rfl
 haveI:In B w:=⟨hlt⟩
 have hne1:=hst.ne_ob hO (by decide)
 have hne2:=hst.ne_own ho.1 (by decide)
 have hnB:=hO.not_own ho.1 (by decide)
 have hjI:((j:Int))<L.length:=by omega
 replace hO:=hide hO
 replace ho:=hide ho
 replace h0:=hide h0
 replace hg:=hide hg
 replace hjc:=hide hjc
 replace hcs:=hide hcs
 go_enter Tryz.func126,Tryz.ntmps126
 go_wp2_with (go_at_call 93;first|((with_reducible refine seq_gw' (hic.out _) ?_);intro g1)|((with_reducible refine seq_gw (hic.out _) ?_);intro g1))
 go_end0
 have hXg:=(Gn.ext (w:=w):Ext w g1.val)
 have hF:Fr [g] w ((g1.val.setCell ⟨g,j*4+2,none⟩ (.int .i64 n1)).setCell ⟨g,j*4+3,none⟩ (.int .i64 n2)):=((Fr.of_ext (S:=[g]) hXg).setCell ⟨g,j*4+2,none⟩ (.int .i64 n1) (.inl (by simp))).setCell ⟨g,j*4+3,none⟩ (.int .i64 n2) (.inl (by simp))
 have hob:g∈ob (.slice (some ⟨g,0,none⟩) L.length cap):=by simp[ob,Value.ownBlock]
 have hP:=put_done hF hX (by intro b hb;rw[List.mem_singleton.1 hb];exact⟨hgb,hne2 g hob⟩) hst
 have hNv:=own_nt ho.out.1 (e:=83) (by decide) g hob
 refine⟨rfl,⟨L.set j (p.1,(p.2.1,(n1,n2))),⟨.slice (some ⟨g,0,none⟩) L.length cap,hO.out.fr hF (by simp only[List.mem_singleton];intro e;subst e;exact hnB (by simp[Value.ownBlock])),⟨?_,fun q hq=>?_⟩,hB⟩,by rw[List.map_set]⟩,hP⟩
 ·have h1:=(World.ownsRow.stored (own_ext ho.out.1 hXg) (j*4+2) (.int .i64 n1)).1
  have h2:=(World.ownsRow.stored h1 (j*4+3) (.int .i64 n2)).1
  rw[List.length_set]
  have e:=evs_set n1 n2 L j p hp
  unfold evs at e
  rw[e]
  exact h2
 ·rcases List.mem_or_eq_of_mem_set hq with hq|rfl
  ·exact (ho.out.2 q hq).stay hF (by intro b hb;rw[List.mem_singleton.1 hb];exact hNv)
  ·exact (RwO.stay (ho.out.2 p (List.mem_of_getElem? hp)) hF (by intro b hb;rw[List.mem_singleton.1 hb];exact hNv):RwO _ p.1 p.2.1.2)
abbrev Le:=Value×Ex
def goneX(x:Ex):Bool:=decide (x.2.1=0∧x.2.2=0)
def filtE(L:List Le):List Le:=L.filter fun p=> !goneX p.2
def idxE:Nat→List Le→Int
 |_,[]=> -1
 |k,p::r=>if goneX p.2=true then (k:Int) else idxE (k+1) r
theorem filtE_next{l:List Le}{k:Nat}{x:Le}(hx:l[k]? = some x):filtE (l.take (k+1))=if goneX x.2=true then filtE (l.take k) else filtE (l.take k)++[x]:=by
 unfold filtE
 rw[take_one hx,List.filter_append]
 cases h:goneX x.2<;>simp[h]
theorem idxE_none:∀(l:List Le) (k:Nat),idxE k l= -1→filtE l=l
 |[],_,_=>rfl
 |x::r,k,h=>by
  unfold idxE at h
  cases hx:goneX x.2
  ·rw[hx] at h
   have:=idxE_none r (k+1) (by simpa using h)
   unfold filtE at this ⊢
   rw[List.filter_cons,hx]
   simp only[Bool.not_false,if_true]
   rw[this]
  ·rw[hx,if_pos rfl] at h;omega
theorem idxE_some:∀(l:List Le) (k:Nat),idxE k l≠ -1→∃i,idxE k l=((k+i:Nat):Int)∧i<l.length∧filtE (l.take i)=l.take i∧∃x,l[i]? = some x∧goneX x.2=true
 |[],_,h=>absurd rfl h
 |x::r,k,h=>by
  unfold idxE at h ⊢
  cases hx:goneX x.2
  ·rw[hx] at h
   simp only[Bool.false_eq_true,if_false] at h ⊢
   obtain⟨i,h1,h2,h3,h4⟩:=idxE_some r (k+1) h
   refine⟨i+1,by rw[h1];congr 1;omega,by simp;omega,?_,by simpa using h4⟩
   rw[List.take_succ_cons]
   unfold filtE at h3 ⊢
   rw[List.filter_cons,hx]
   simp only[Bool.not_false,if_true]
   rw[h3]
  ·exact⟨0,by simp,by simp,rfl,x,rfl,hx⟩
theorem edrop_cons{l:List Le}{k:Nat}{x:Le}(h:l[k]? = some x):l.drop k=x::l.drop (k+1):=by
 obtain⟨h1,h2⟩:=List.getElem?_eq_some_iff.1 h
 rw[List.drop_eq_getElem_cons h1,h2]
theorem evs_length(L:List Le):(evs L).length=L.length*4:=by
 induction L with
 |nil=>rfl
 |cons p r ih=>simp only[evs,evO,List.flatMap_cons,List.length_append,List.length_cons,List.length_nil] at ih ⊢;omega
theorem evs_take(L:List Le)(j:Nat):(evs L).take (j*4)=evs (L.take j):=by
 induction L generalizing j with
 |nil=>simp[evs]
 |cons p r ih =>
  cases j with
  |zero=>simp[evs]
  |succ j =>
   have e:evs (p::r)=evO p.1 p.2++evs r:=by simp[evs]
   have hl:(evO p.1 p.2).length=4:=rfl
   rw[e,List.take_succ_cons,show evs (p::r.take j)=evO p.1 p.2++evs (r.take j) by simp[evs],←ih j,List.take_append,hl,List.take_of_length_le (by rw[hl];omega)]
   congr 2
   omega
theorem evs_put(x:Le):∀(L:List Le) (i:Nat),i<L.length→evs (L.set i x)=((((evs L).set (i*4) (.int .i64 x.2.1.1)).set (i*4+1) x.1).set (i*4+2) (.int .i64 x.2.2.1)).set (i*4+3) (.int .i64 x.2.2.2)
 |q::r,0,h=>by simp[evs,evO]
 |q::r,i+1,h=>by
  have ih:=evs_put x r i (by simpa using h)
  have e:evs (q::r)=evO q.1 q.2++evs r:=by simp[evs]
  have hl:(evO q.1 q.2).length=4:=rfl
  rw[List.set_cons_succ,show evs (q::r.set i x)=evO q.1 q.2++evs (r.set i x) by simp[evs],ih,e]
  rw[List.set_append_right _ _ (by rw[hl];omega),List.set_append_right _ _ (by rw[hl];omega),List.set_append_right _ _ (by rw[hl];omega),List.set_append_right _ _ (by rw[hl];omega),hl]
  rw[show (i+1)*4-4=i*4 by omega,show (i+1)*4+1-4=i*4+1 by omega,show (i+1)*4+2-4=i*4+2 by omega,show (i+1)*4+3-4=i*4+3 by omega]
theorem foldNone_c(a b:Int)(w:World):Calls Tryz.prog 110 #[.agg #[.int .i64 a, .int .i64 b]] w fun e w'=>e= .returned (.bool (decide (a=0∧b=0)))∧Ext w w':=by
 by_cases ha:a=0
 ·subst ha
  by_cases hb:b=0
  ·subst hb
   go_enter Tryz.func110,Tryz.ntmps110
   go_wp2_with fail
   go_returns
   exact⟨by simp,(Ext.refl w).alloc _⟩
  ·have b0:(b == 0)=false:=by simp[hb]
   have b1:decide (b=0)=false:=by simp[hb]
   go_enter Tryz.func110,Tryz.ntmps110
   go_wp2_with fail
   go_returns
   exact⟨by simp[hb],(Ext.refl w).alloc _⟩
 ·have a0:(a == 0)=false:=by simp[ha]
  have a1:decide (a=0)=false:=by simp[ha]
  go_enter Tryz.func110,Tryz.ntmps110
  go_wp2_with fail
  go_returns
  exact⟨by simp[ha],(Ext.refl w).alloc _⟩
theorem isCancelled_c(UA:Option Addr)(ul uc:Nat)(x:Ex)(w:World):Calls Tryz.prog 128 #[evV (.slice UA ul uc) x] w fun e w'=>e= .returned (.bool (goneX x))∧Ext w w':=by
 obtain⟨⟨xi,xr⟩,x1,x2⟩:=x
 have hn:=hide (fun w=>foldNone_c x1 x2 w)
 obtain⟨R,hR⟩:∃R,R=goneX ((xi,xr),(x1,x2)):=⟨_,rfl⟩
 rw[←hR]
 unfold goneX at hR
 simp only at hR
 rw[←hR] at hn
 replace hR:=hide hR
 go_enter Tryz.func128,Tryz.ntmps128
 go_wp2_with (go_at_call 110;first|((with_reducible refine seq_gw' (hn.out _) ?_);intro g)|((with_reducible refine seq_gw (hn.out _) ?_);intro g))
 go_returns
 exact⟨rfl,((Ext.refl w).alloc _).trans g.grown⟩
theorem own_evat{w:World}{base:Nat}{v:Value}{L:List Le}(h:OwnEx w base v L){k:Nat}{p:Le}(hp:L[k]? = some p):∃g cap PA pc,v= .slice (some ⟨g,0,none⟩) L.length cap∧base≤g∧g<w.heap.size∧p.1= .slice PA p.2.1.2.length pc∧w.cell? ⟨g,k*4,none⟩=some (.int .i64 p.2.1.1)∧w.cell? ⟨g,k*4+1,none⟩=some p.1∧w.cell? ⟨g,k*4+2,none⟩=some (.int .i64 p.2.2.1)∧w.cell? ⟨g,k*4+3,none⟩=some (.int .i64 p.2.2.2):=by
 have hk:k<L.length:=(List.getElem?_eq_some_iff.1 hp).1
 obtain⟨PA,pc,e⟩:=rwo_val (h.2 p (List.mem_of_getElem? hp))
 rcases h.1.2 with ⟨-,h2⟩|⟨g,cap,cur,rfl,hb,hg, -⟩
 ·omega
 ·have c0:=h.1.cells (g:=g) rfl (k*4+0) _ (evs_get L k p hp 0 _ rfl)
  have c1:=h.1.cells (g:=g) rfl (k*4+1) _ (evs_get L k p hp 1 _ rfl)
  have c2:=h.1.cells (g:=g) rfl (k*4+2) _ (evs_get L k p hp 2 _ rfl)
  have c3:=h.1.cells (g:=g) rfl (k*4+3) _ (evs_get L k p hp 3 _ rfl)
  rw[add_plain,Nat.zero_add] at c0 c1 c2 c3
  exact⟨g,cap,PA,pc,rfl,hb,block_lt_of_cell c0,e,c0,c1,c2,c3⟩
theorem evtIndex_c(L:List Le)(base:Nat)(v:Value)(w:World)(h:OwnEx w base v L)(hn:L.length≤200000):Calls Tryz.prog 180 #[v, .func (.func 128) #[] #[]] w fun e w'=>e= .returned (.int .i64 (idxE 0 L))∧Ext w w':=by
 obtain⟨A,cap,rfl⟩:=h.form
 replace h:=hide h
 obtain⟨R,hR⟩:∃R,R=idxE 0 L:=⟨_,rfl⟩
 rw[←hR]
 replace hR:=hide hR
 go_enter Tryz.func180,Tryz.ntmps180
 go_wp2_with fail
 go_loopg [8] L.length (fun gh i wr=>∃(k:Nat),i= .int .i64 k∧k+gh=L.length∧Hid (R=idxE k (L.drop k))∧Ext w wr)
 case atStart=>exact⟨0,rfl,by omega,by simpa using hR,Ext.refl w⟩
 case round =>
  obtain⟨k,rfl,hk,hRk,hX⟩:=hrel
  clear hR
  by_cases hlt:k<L.length
  ·obtain⟨x,hx⟩:∃x,L[k]? = some x:=⟨_,List.getElem?_eq_getElem hlt⟩
   obtain⟨g,cap',PA,pc,e1, -,hgl,e2,c0,c1,c2,c3⟩:=own_evat (h.out.ext hX) hx
   cases e1
   haveI:In g wr:=⟨hgl⟩
   have hin:=hide (fun w=>isCancelled_c PA x.2.1.2.length pc x.2 w)
   have hR2:=hRk.out
   rw[edrop_cons hx] at hR2
   simp only[idxE] at hR2
   replace hR2:=hide hR2
   obtain⟨xv,⟨xi,xr⟩,x1,x2⟩:=x
   simp only at e2 c0 c1 c2 c3 hin
   subst e2
   have hltI:(k:Int)<L.length:=by omega
   clear hx hRk
   cases hmx:goneX ((xi,xr),(x1,x2))
   ·simp only[hmx] at hin hR2
    replace hmx:=hide hmx
    go_wp2_with (go_at_call 128;first|((with_reducible refine seq_gw (hin.out _) ?_);intro g2)|((with_reducible refine seq_gw' (hin.out _) ?_);intro g2))
    go_roundg (L.length-(k+1))
    case measure=>omega
    case rel=>exact⟨k+1,by go_num,by omega,(by show _=_;simpa using hR2.out),hX.trans g2.grown⟩
   ·simp only[hmx] at hin hR2
    replace hmx:=hide hmx
    go_wp2_with (go_at_call 128;first|((with_reducible refine seq_gw (hin.out _) ?_);intro g2)|((with_reducible refine seq_gw' (hin.out _) ?_);intro g2))
    go_returns
    exact⟨by first|(rw [hR2.out];simp;done)|(rw [hR2.out];rfl),hX.trans g2.grown⟩
  ·have hk':k=L.length:=by omega
   have hge:(L.length:Int)≤k:=by omega
   have hRn:Hid (R= -1):=by show _=_;rw[hRk.out,hk',List.drop_length];rfl
   clear hRk h
   go_wp2_with fail
   go_returns
   exact⟨by rw[hRn.out];rfl,hX⟩
end Go.Proofs.YtajelkkiijdegaaGreat
