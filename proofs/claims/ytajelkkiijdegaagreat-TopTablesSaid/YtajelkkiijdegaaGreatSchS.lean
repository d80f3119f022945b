/-
  A helper of ours: no claim of its own. Layer 7 (schema): columns as lists: names, the first column of a name, two of one name, what is a schema. No program in it.
-/
import Derived.Test.YtajelkkiijdegaaGreatReg5
import Derived.Lib.LazyBuf
import Derived.Test.YtajelkkiijdegaaGreatMem
set_option linter.unusedVariables false
set_option linter.unusedSimpArgs false
set_option linter.unusedSectionVars false
set_option maxHeartbeats 64000000
set_option maxRecDepth 100000
namespace Go.Proofs.YtajelkkiijdegaaGreat
open Go.RowKit
attribute [local go_sem] GW.cell GW.frozen In.eq_true In.le_true In.ne In.ne' In.ne_add In.ne_add' In.lt_add Upto.le_true Upto.le_add Upto.lt_add
theorem blks_app(a b:List Pb):blks (a++b)=blks a++blks b:=by simp[blks]
theorem blks_take(a:List Pb)(k:Nat):blks (a.take k)=(blks a).take k:=by simp[blks,List.map_take]
theorem blks_drop(a:List Pb)(k:Nat):blks (a.drop k)=(blks a).drop k:=by simp[blks,List.map_drop]
theorem blks_len(a:List Pb):(blks a).length=a.length:=by simp[blks]
theorem powns_fr{w w':World}{S:List Nat}{B e size n:Nat}{v:Value}{xs:List Value}(h:w.ownsRow B e size v n xs)(k:Fr S w w')(hne:∀r,v.ownBlock=some r→r∉S):w'.ownsRow B e size v n xs :=
 ⟨h.1,h.2.imp id fun ⟨g,cap,cur,e,hb,hg,rest⟩=>⟨g,cap,cur,e,hb,(k.block g (lt_of_block hg) (hne g (by rw[e];rfl))).trans hg,rest⟩⟩
theorem pmown_far{w:World}{B e size n:Nat}{v:Value}{xs:List Value}{b:Nat}(h:w.ownsRow B e size v n xs)(o:Nat)(u:Value)(hne:v.ownBlock≠some b):(w.setCell ⟨b,o,none⟩ u).ownsRow B e size v n xs :=
 h.kept (World.grownBy.mk (row:=some b) rfl rfl rfl (by simp) fun i hi hn=>Below.heap_setCell w ⟨b,o,none⟩ u i (fun e=>hn (by rw[e]))) (.inr hne)
theorem pclone_c(l:List Nat)(v:Value)(w:World)(h:Sl w [] 1 v l.length (tg1 l))(hz:l.length≤1048576):Calls Tryz.prog 147 #[v] w fun e w'=>∃v',e= .returned v'∧w'.ownsRow w.heap.size 103 1 v' l.length (tg1 l)∧Ext w w':=by
 have hv:=hide h
 obtain⟨A,cap,rfl,h1,h2,h3,h4⟩:=h
 have hq:=fun w=>Lib.run_eql_slice_nil (P:=Tryz.prog) w 89 103 A l.length cap 0 0 Tryz.underlying89
 cases A with
 |none =>
  have hl0:l=[]:=by
   rcases h4 with h4|⟨b,o,hb,_⟩
   ·have:=congrArg List.length h4;rw[tg1_length] at this;exact List.eq_nil_of_length_eq_zero (by simpa using this)
   ·cases hb
  subst hl0
  clear hv hq h3 h4
  have hq0:=fun w=>Lib.run_eql_slice_nil (P:=Tryz.prog) w 89 103 none 0 cap 0 0 Tryz.underlying89
  show Calls Tryz.prog 147 #[.slice none 0 cap] w fun e w'=>∃v',e= .returned v'∧w'.ownsRow w.heap.size 103 1 v' 0 []∧Ext w w'
  go_enter Tryz.func147,Tryz.ntmps147
  go_wp2_with fail
  go_returns
  exact⟨_,rfl,World.ownsRow_nil _ _ _ _,Ext.refl w⟩
 |some a =>
  have hlit:=hide (World.ownsRow_lit (base:=w.heap.size) (e:=103) (size:=1) w #[] 0 (Nat.le_refl _) (by decide) rfl)
  clear h3 h4
  go_enter Tryz.func147,Tryz.ntmps147
  go_wp2_with (at_builtin;(refine wpl_app tPev rfl (.tmp 5) (.tmp 6) rfl rfl hlit.out rfl (src_sl Tryz.underlying89 (Sl.ext hv.out ((Ext.refl w).alloc _)) (tg1_one _) (by omega)) (by unfold maxLen;omega) (by omega) (by simp) ?_;intro v1 w1 ho1 hg1 _))
  go_returns
  exact⟨_,rfl,by simpa using ho1,ext_grown ((Ext.refl w).alloc _) hg1 (fun k hk=>(hlit.out.lt k hk).1)⟩
theorem pdel0_c(A:Option Addr)(n cap:Nat)(hc:n≤cap)(h:A=none→n=0∧cap=0)(w:World):Calls Tryz.prog 148 #[.slice A n cap, .int .i64 0, .int .i64 0] w fun e w'=>e= .returned (.slice A n cap)∧Ext w w':=by
 have hcI:(n:Int)≤cap:=by omega
 cases A with
 |none =>
  obtain⟨rfl,rfl⟩:=h rfl
  go_enter Tryz.func148,Tryz.ntmps148
  go_wp2_with fail
  go_returns
  exact⟨rfl,Ext.refl w⟩
 |some a =>
  clear h
  go_enter Tryz.func148,Tryz.ntmps148
  go_wp2_with fail
  go_returns
  exact⟨rfl,Ext.refl w⟩
section
variable {w:World} {base p:Nat} {sv:Value} {c ser:Int} {mb:Nat} {u:Value} {L:List Pb}
abbrev wrt(p:Nat)(u:Value):List Nat:=p::u.ownBlock.toList
theorem evb_fr{w w':World}{S:List Nat}{y:Pb}(h:Evb w y)(hP:Pst w base p sv c ser mb u L)(k:Fr S w w')(hS:∀b,b∈S→b∈wrt p u):Evb w' y:=by
 refine Ob.fr h k fun hm=>?_
 rcases List.mem_cons.1 (hS _ hm) with e|e
 ·exact Ob.ne h hP.ob (by decide) e
 ·exact Ob.not_own h hP.own (by decide) (by simpa using e)
theorem p_not_own(hP:Pst w base p sv c ser mb u L):u.ownBlock≠some p:=Ob.not_own hP.ob hP.own (by decide)
theorem penter_c(x:Pb)(w:World)(hP:Pst w base p sv c ser mb u L)(hs:Srt L)(hx:Evb w x)(hL:L.length≤8192)(hb:base≤w.heap.size) :
 Calls Tryz.prog 95 #[.pointer (some ⟨p,4,none⟩),pp x.2.1] w fun e w'=>e= .returned (.tuple #[])∧∃u',Pst w' base p sv c ser mb u' (insP L x)∧Fr (wrt p u) w w'∧∀b,u'.ownBlock=some b→b∈wrt p u∨w.heap.size≤b:=by
 have hpl:=hide (fun w' (hX:Ext w w')=>pplace_c x w' (hP.ext hX) hs (hx.ext hX) (by omega))
 have hle:=ld_le (fun y=>befB y x) L
 have hnl:plN L x=ldN (fun y=>befB y x) L:=rfl
 rw[←hnl] at hle
 have hins:tg1 (blks (insP L x))=tg1 ((blks L).take (plN L x)++x.2.1::(blks L).drop (plN L x)):=by
  unfold insP
  rw[blks_app,blks_take,←blks_drop]
  rfl
 have hlen:(insP L x).length=L.length+1:=by
  unfold insP
  rw[List.length_append,List.length_cons,List.length_take,List.length_drop];omega
 have c4:=hP.ob.cell 4 rfl
 have f4:=hP.ob.free 4
 haveI:In p w:=⟨hP.ob.lt⟩
 have hpn:=p_not_own hP
 have hPh:=hide hP
 have hxh:=hide hx
 obtain⟨A,cap,hu⟩:=own_form hP.own
 clear hP hnl hx
 have hown:=hPh.out.own
 have hins2:=hide (fun (w1:World) (xb:Nat) (hX:Ext w w1) (hxb:Ob w1 xb 103 [pp x.2.1]) (hxw:w.heap.size≤xb)=>pminsert_c base xb (plN L x) x.2.1 u (blks L) w1 (by rw[blks_len];exact own_ext hown hX) (by have:=hX.size;omega) (by rw[blks_len];omega) (by rw[blks_len];omega) hxb u.ownBlock.toList (fun b hb=>by simp[hb]) (fun hm=>by
  have:=(hown.lt xb (by simpa using hm)).2
  omega))
 rw[←hins] at hins2
 rw[blks_len] at hins2
 have hfin:Hid (∀w1 u',Ext w w1→∀w2,Fr u.ownBlock.toList w1 w2→w2.ownsRow base 103 1 u' (L.length+1) (tg1 (blks (insP L x)))→(∀b,u'.ownBlock=some b→b∈u.ownBlock.toList∨w1.heap.size≤b) →
  Pst (w2.setCell ⟨p,4,none⟩ u') base p sv c ser mb u' (insP L x)∧Fr (wrt p u) w (w2.setCell ⟨p,4,none⟩ u')∧∀b,u'.ownBlock=some b→b∈wrt p u∨w.heap.size≤b):=by
  intro w1 u' hX w2 hF ho hk
  have hF1:Fr u.ownBlock.toList w w2:=(Fr.of_ext hX).trans hF
  have hF2:Fr (wrt p u) w w2:=hF1.more fun b _ hb=>List.mem_cons_of_mem _ hb
  have hob2:Ob w2 p 93 [sv, .int .i64 c, .int .i64 ser, .map (some mb),u]:=hPh.out.ob.fr hF1 (by simpa using hpn)
  have hF3:Fr (wrt p u) w (w2.setCell ⟨p,4,none⟩ u'):=hF2.setCell _ _ (.inl (by simp))
  refine⟨⟨hob2.set 4 _,?_,fun y hy=>?_⟩,hF3,fun b hb=>?_⟩
  ·rw[hlen]
   exact pmown_far ho 4 u' (Ob.not_own hob2 ho (by decide))
  ·rcases mem_insP.1 hy with rfl|hy
   ·exact evb_fr hxh.out hPh.out hF3 fun _ h=>h
   ·exact evb_fr (hPh.out.evs y hy) hPh.out hF3 fun _ h=>h
  ·rcases hk b hb with h|h
   ·exact .inl (List.mem_cons_of_mem _ h)
   ·exact .inr (Nat.le_trans hX.size h)
 clear hins hown hpn hlen hs
 generalize plN L x=N at *
 generalize blks (insP L x)=BL at *
 subst hu
 have c4h:=hide c4
 obtain⟨W0,hW0⟩:∃W0,W0=w:=⟨_,rfl⟩
 have c4h:=hide c4
 obtain⟨W0,hW0⟩:∃W0,W0=w:=⟨_,rfl⟩
 have c4h:=hide c4
 obtain⟨W0,hW0⟩:∃W0,W0=w:=⟨_,rfl⟩
 have c4h:=hide c4
 obtain⟨W0,hW0⟩:∃W0,W0=w:=⟨_,rfl⟩
 go_enter Tryz.func95,Tryz.ntmps95
 go_wp2_with fail
 -- REGION
 refine wp_region_loose_tail 10 [(.is ((.pointer (some ⟨p,4,none⟩)))),(.is ((.pointer (some ⟨p,4,none⟩)))),(.is ((.pointer (some ⟨p,4,none⟩)))),(.is ((.pointer (some ⟨p,4,none⟩)))),(.is ((.slice A L.length cap))),(.is ((.pointer (some ⟨p,4,none⟩)))),(.is ((pp x.2.1))),(.is ((.int .i64 N))),(.is ((pp x.2.1))),(.st (fun v w=>∃xb,v= .slice (some ⟨xb,0,none⟩) 1 1∧W0.heap.size≤xb∧Ob w xb 103 [pp x.2.1]) (fun v w w' ⟨xb,h1,h2,h3⟩ k=>⟨xb,h1,h2,h3.ext k⟩))] (by kernel_rfl) (by kernel_rfl) (by kernel_rfl) (by kernel_rfl) (by kernel_rfl) (by kernel_rfl) (by kernel_rfl) (by kernel_rfl) (by kernel_rfl) ?_ ?_
 ·refine⟨?_,?_,?_,?_,?_,?_,?_,?_,?_,?_,trivial⟩
  ·intro b w' h hE
   have f0:b.tmps.getD 0 undef=(.pointer (some ⟨p,4,none⟩)):=hE 0 (of_decide_eq_true (by kernel_rfl))
   exact good_move (wanted_none rfl) rfl f0
  ·intro b w' h hE
   have f0:b.tmps.getD 0 undef=(.pointer (some ⟨p,4,none⟩)):=hE 0 (of_decide_eq_true (by kernel_rfl))
   exact good_move (wanted_none rfl) rfl f0
  ·intro b w' h hE
   have f5:b.tmps.getD 5 undef=(.pointer (some ⟨p,4,none⟩)):=h.dep 1 _ 5 (by kernel_rfl) rfl rfl
   exact good_nilCheck (wanted_none rfl) rfl f5 rfl
  ·intro b w' h hE
   have f6:b.tmps.getD 6 undef=(.pointer (some ⟨p,4,none⟩)):=h.dep 2 _ 6 (by kernel_rfl) rfl rfl
   exact good_field (wanted_none rfl) rfl f6 (by simp[go_sem]) rfl
  ·intro b w' h hE
   have f7:b.tmps.getD 7 undef=(.pointer (some ⟨p,4,none⟩)):=h.dep 3 _ 7 (by kernel_rfl) rfl rfl
   have c0:=cell_later h.ext c4h.out
   exact good_load (wanted_none rfl) rfl f7 (by simp[go_sem,c0]) rfl
  ·intro b w' h hE
   have f0:b.tmps.getD 0 undef=(.pointer (some ⟨p,4,none⟩)):=hE 0 (of_decide_eq_true (by kernel_rfl))
   exact good_move (wanted_none rfl) rfl f0
  ·intro b w' h hE
   have f1:b.tmps.getD 1 undef=(pp x.2.1):=hE 1 (of_decide_eq_true (by kernel_rfl))
   exact good_move (wanted_none rfl) rfl f1
  ·intro b w' h hE
   have f9:b.tmps.getD 9 undef=(.pointer (some ⟨p,4,none⟩)):=h.dep 5 _ 9 (by kernel_rfl) rfl rfl
   have g9:b.tmps[9]?.getD undef=(.pointer (some ⟨p,4,none⟩)):=by rw[←Array.getD_eq_getD_getElem?];exact f9
   have f10:b.tmps.getD 10 undef=(pp x.2.1):=h.dep 6 _ 10 (by kernel_rfl) rfl rfl
   have g10:b.tmps[10]?.getD undef=(pp x.2.1):=by rw[←Array.getD_eq_getD_getElem?];exact f10
   refine good_call (wanted_none rfl) rfl (enters Tryz.func152 (by kernel_rfl) rfl) ?_;rw[show (#[.tmp 9, .tmp 10]:Array Operand).map b.eval= #[(.pointer (some ⟨p,4,none⟩)),(pp x.2.1)] by simp[Act.eval,g9,g10]];exact (hpl.out w' h.ext).mono fun e w1 ⟨he,hx⟩=>⟨_,he,rfl,hx⟩
  ·intro b w' h hE
   have f1:b.tmps.getD 1 undef=(pp x.2.1):=hE 1 (of_decide_eq_true (by kernel_rfl))
   exact good_move (wanted_none rfl) rfl f1
  ·intro b w' h hE
   have f12:b.tmps.getD 12 undef=(pp x.2.1):=h.dep 8 _ 12 (by kernel_rfl) rfl rfl
   have g12:b.tmps[12]?.getD undef=(pp x.2.1):=by rw[←Array.getD_eq_getD_getElem?];exact f12
   have hb1:(Instr.buildSlice 89 1 #[(0,pp x.2.1)]).run Tryz.prog w'= .ok (.slice (some ⟨w'.heap.size,0,none⟩) 1 1) (w'.alloc (.cells #[pp x.2.1] 103)):=by simp[go_sem]
   refine good_grow (w':=w'.alloc (.cells #[pp x.2.1] 103)) (v:= .slice (some ⟨w'.heap.size,0,none⟩) 1 1) (wanted_none rfl) ?_ ⟨_,rfl,by have:=h.ext.size;rw[hW0];exact this,Ob.new w' _ [_]⟩ ((Ext.refl _).alloc _)
   simp[execOp,Act.eval,g12,hb1,Sem.run_bind,Sem.run_pure,Result.andThen_ok]
 ·intro b w2 hX2 hd hz he' hf
  have e4:b.tmps.getD 4 undef=(.pointer (some ⟨p,4,none⟩)):=hf 0 _ 4 (by omega) rfl rfl
  have e5:b.tmps.getD 5 undef=(.pointer (some ⟨p,4,none⟩)):=hf 1 _ 5 (by omega) rfl rfl
  have e6:b.tmps.getD 6 undef=(.pointer (some ⟨p,4,none⟩)):=hf 2 _ 6 (by omega) rfl rfl
  have e7:b.tmps.getD 7 undef=(.pointer (some ⟨p,4,none⟩)):=hf 3 _ 7 (by omega) rfl rfl
  have e8:b.tmps.getD 8 undef=(.slice A L.length cap):=hf 4 _ 8 (by omega) rfl rfl
  have e9:b.tmps.getD 9 undef=(.pointer (some ⟨p,4,none⟩)):=hf 5 _ 9 (by omega) rfl rfl
  have e10:b.tmps.getD 10 undef=(pp x.2.1):=hf 6 _ 10 (by omega) rfl rfl
  have e11:b.tmps.getD 11 undef=(.int .i64 N):=hf 7 _ 11 (by omega) rfl rfl
  have e12:b.tmps.getD 12 undef=(pp x.2.1):=hf 8 _ 12 (by omega) rfl rfl
  have f9:∃xb,(b.tmps.getD 13 undef)= .slice (some ⟨xb,0,none⟩) 1 1∧W0.heap.size≤xb∧Ob w2 xb 103 [pp x.2.1]:=hf 9 _ 13 (by omega) rfl rfl
  have e:=frame_puts hd hz he'
  obtain⟨X,hXx⟩:∃X:Nat→Value,∀d,b.tmps.getD d undef=X d:=⟨_,fun _=>rfl⟩
  rw[hXx] at e4 e5 e6 e7 e8 e9 e10 e11 e12 f9
  obtain⟨xb,q13,hxb,hob⟩:=f9
  rw[show dstsOf _=[4,5,6,7,8,9,10,11,12,13] from rfl] at e
  simp only[List.foldl_cons,List.foldl_nil,hXx,Act.put,List.setIfInBounds_toArray,List.set_cons_succ,List.set_cons_zero] at e
  rw[e4,e5,e6,e7,e8,e9,e10,e11,e12,q13] at e
  clear hf he' hz hd hXx e4 e5 e6 e7 e8 e9 e10 e11 e12 q13
  subst e
  have hzw:=hX2.size
  simp only[List.drop_succ_cons,List.drop_zero]
  have hI:=hide (hins2.out w2 xb hX2 hob (by rw[←hW0];exact hxb))
  have hgx:=hide hX2
  have p4:=pcell_later hX2 c4h.out
  clear hob hxb
  go_wp2_with (go_at_call 153;refine hI.out.mono ?_;rintro ee w3 ⟨u',rfl,ho2,hF2,hk2⟩;obtain⟨A2,cap2,hu2⟩:=own_form ho2;subst hu2;have hres:=hide (hfin.out _ _ hgx.out _ hF2 ho2 hk2);have pf:=hide (hPh.out.ob.fr ((Fr.of_ext hgx.out).trans hF2) (by simpa using p_not_own hPh.out));have q4:=pf.out.cell 4 rfl;have qf:=pf.out.free 4;haveI:In p w3:=⟨pf.out.lt⟩)
  dsimp only[onN]
  go_end0
  exact⟨rfl,_,hres.out⟩
end
section
variable {w:World} {base p:Nat} {sv:Value} {c ser:Int} {mb:Nat} {u:Value} {L:List Pb}
theorem pst_form(h:Pst w base p sv c ser mb u L):(u= .slice none 0 0∧L=[])∨∃g cap,u= .slice (some ⟨g,0,none⟩) L.length cap∧L.length≤cap∧cap≤9223372036854775807:=by
 rcases h.own.2 with ⟨h',h0⟩|⟨g,cap,cur,h',hb,hg,hnc,hcm,hcs,htake⟩
 ·exact .inl ⟨h',List.eq_nil_of_length_eq_zero h0⟩
 ·unfold maxLen at hcm
  exact .inr ⟨g,cap,h',hnc,by omega⟩
theorem pst_turn(hP:Pst w base p sv c ser mb u L){w1 w2:World}(hX:Ext w w1)(hF:Fr u.ownBlock.toList w1 w2){u':Value}{L':List Pb}(hs:∀y∈L',Evb w y)(ho:w2.ownsRow base 103 1 u' L'.length (tg1 (blks L'))) :
 Pst (w2.setCell ⟨p,4,none⟩ u') base p sv c ser mb u' L'∧Fr (wrt p u) w (w2.setCell ⟨p,4,none⟩ u'):=by
 have hF1:Fr u.ownBlock.toList w w2:=(Fr.of_ext hX).trans hF
 have hF2:Fr (wrt p u) w w2:=hF1.more fun b _ hb=>List.mem_cons_of_mem _ hb
 have hob2:Ob w2 p 93 [sv, .int .i64 c, .int .i64 ser, .map (some mb),u]:=hP.ob.fr hF1 (by simpa using p_not_own hP)
 have hF3:Fr (wrt p u) w (w2.setCell ⟨p,4,none⟩ u'):=hF2.setCell _ _ (.inl (by simp))
 exact⟨⟨hob2.set 4 _,pmown_far ho 4 u' (Ob.not_own hob2 ho (by decide)),fun y hy=>evb_fr (hs y hy) hP hF3 fun _ h=>h⟩,hF3⟩
theorem pleave_c(a r:List Pb)(x:Pb)(hLe:L=a++x::r)(w:World)(hP:Pst w base p sv c ser mb u L)(hs:Srt L)(hL:L.length≤8192) :
 Calls Tryz.prog 94 #[.pointer (some ⟨p,4,none⟩),pp x.2.1] w fun e w'=>e= .returned (.tuple #[])∧∃u',Pst w' base p sv c ser mb u' (a++r)∧Fr (wrt p u) w w'∧u'.ownBlock=u.ownBlock:=by
 subst hLe
 have hx:Evb w x:=hP.evs x (by simp)
 have hpl:=hide (pplace_c x w hP hs hx (by omega))
 rw[pl_at hs] at hpl
 rcases pst_form hP with ⟨-,h0⟩|⟨g,cap,rfl,hc1,hc2⟩
 ·simp at h0
 have hlen:(a++x::r).length=(blks (a++x::r)).length:=(blks_len _).symm
 have hown:=hP.own
 have hd:=hide (fun (w1:World) (hX:Ext w w1)=>pdel1_c base g cap a.length (blks (a++x::r)) w1 (by rw[←hlen];exact own_ext hown hX) (by rw[←hlen];simp) (by rw[←hlen];omega))
 have hbl:(blks (a++x::r)).take a.length++(blks (a++x::r)).drop (a.length+1)=blks (a++r):=by
  rw[←blks_take,←blks_drop,List.take_left,show a++x::r=(a++[x])++r by simp,show a.length+1=(a++[x]).length by simp,List.drop_left,blks_app]
 rw[hbl,←hlen,show (a++x::r).length-1=(a++r).length by simp] at hd
 have hturn:=hide (fun w1 w2 u' (hX:Ext w w1) (hF:Fr [g] w1 w2) (ho:w2.ownsRow base 103 1 u' (a++r).length (tg1 (blks (a++r))))=>pst_turn hP (w1:=w1) (w2:=w2) hX (show Fr (Value.slice (some ⟨g,0,none⟩) (a++x::r).length cap).ownBlock.toList w1 w2 from hF) (fun y hy=>hP.evs y (by
  rcases List.mem_append.1 hy with h|h
  ·exact List.mem_append_left _ h
  ·exact List.mem_append_right _ (List.mem_cons_of_mem _ h))) ho)
 have c4:=hP.ob.cell 4 rfl
 have hPh:=hide hP
 haveI:In p w:=⟨hP.ob.lt⟩
 have hal:a.length<(a++x::r).length:=by simp
 have halI:(a.length:Int)+1≤9000:=by omega
 generalize a.length=N at *
 generalize hM:(a++x::r).length=M at *
 replace hM:=hide hM
 generalize hM2:(a++r).length=M2 at *
 replace hM2:=hide hM2
 clear hP hown hlen hx hs hbl
 go_enter Tryz.func94,Tryz.ntmps94
 go_wp2_with (first
  |(go_at_call 152;(with_reducible refine seq_gw hpl.out ?_);intro g1)
  |(go_at_call 148;refine (hd.out _ g1.grown).mono ?_;rintro ee w2 ⟨rfl,ho2,hF2⟩;have hres:=hide (hturn.out _ _ _ g1.grown hF2 ho2);have pf:=hide (hPh.out.ob.fr ((Fr.of_ext g1.grown).trans hF2) (by simp only[List.mem_singleton];intro e;exact p_not_own hPh.out (by rw[e];rfl)));have q4:=pf.out.cell 4 rfl;have qf:=pf.out.free 4;haveI:In p w2:=⟨pf.out.lt⟩))
 go_end0
 exact⟨rfl,_,hres.out.1,hres.out.2,rfl⟩
theorem pcut_c(t:Int)(w:World)(hP:Pst w base p sv c ser mb u L)(hs:Srt L)(hL:L.length≤8192) :
 Calls Tryz.prog 90 #[.pointer (some ⟨p,4,none⟩), .int .i64 t] w fun e w'=>∃vo u' n,e= .returned vo∧n=ldN (fun y=>decide (pTo y≤t)) L∧w'.ownsRow w.heap.size 103 1 vo (L.take n).length (tg1 (blks (L.take n)))∧Pst w' base p sv c ser mb u' (L.drop n)∧Fr (wrt p u) w w'∧u'.ownBlock=u.ownBlock:=by
 obtain⟨W1,hW1⟩:∃W1,W1=w.alloc (.cells #[.int .i64 t] 3):=⟨_,rfl⟩
 have hX1:Ext w W1:=by rw[hW1];exact (Ext.refl w).alloc _
 have hB:Ob W1 w.heap.size 3 [.int .i64 t]:=by rw[hW1];exact Ob.new w _ [_]
 have hfe:(fun y:Pb=> !(decide (t<pTo y)))=fun y=>decide (pTo y≤t):=by
  funext y
  by_cases h:t<pTo y
  ·rw[decide_eq_true h,decide_eq_false (by omega)];rfl
  ·rw[decide_eq_false h,decide_eq_true (by omega)];rfl
 have ha:=hide (pahead_c 146 #[.pointer (some ⟨w.heap.size,0,none⟩)] (fun y=>decide (t<pTo y)) (enters_of Tryz.func146 (by kernel_rfl) rfl) (by rw[hfe];exact srt_downT hs t) W1 (hP.ext hX1)
  (fun w' hX y hy=>pcut1_c t y w.heap.size w' ((hP.evs y hy).ext (hX1.trans hX)) (hB.ext hX)) (by omega))
 rw[hfe] at ha
 obtain⟨n,hn⟩:∃n,n=ldN (fun y=>decide (pTo y≤t)) L:=⟨_,rfl⟩
 have hnl:n≤L.length:=by rw[hn];exact ld_le _ _
 rw[←hn] at ha
 have c4:=hP.ob.cell 4 rfl
 have hPh:=hide hP
 haveI:In p w:=⟨hP.ob.lt⟩
 have hX1h:=hide hX1
 have hW1h:=hide hW1
 have hnh:=hide hn
 clear hB hs hn hX1 hW1
 have hturn:=hide (fun w1 w2 u' (hX:Ext w w1) (hF:Fr u.ownBlock.toList w1 w2) (ho:w2.ownsRow base 103 1 u' (L.drop n).length (tg1 (blks (L.drop n))))=>pst_turn hP (w1:=w1) (w2:=w2) hX hF (fun y hy=>hP.evs y (List.mem_of_mem_drop hy)) ho)
 rcases pst_form hP with ⟨rfl,rfl⟩|⟨g,cap,rfl,hc1,hc2⟩
 ·have hn0:n=0:=by simpa using hnl
  subst hn0
  have hcl:=hide (fun w'=>pclone_c [] (.slice none 0 0) w' (Sl.nil _ _ _) (by simp))
  have hde:=hide (fun w'=>pdel0_c none 0 0 (Nat.le_refl _) (fun _=>⟨rfl,rfl⟩) w')
  clear hP
  go_enter Tryz.func90,Tryz.ntmps90
  go_wp2_with fail
  rw[←hW1h.out]
  refine seq_gw ha.out ?_
  intro g1
  have p4:=pcell_later (hX1h.out.trans g1.grown) c4
  go_wp2_with (go_at_call 147;refine (hcl.out _).mono ?_;rintro ee w2 ⟨vo,rfl,ho2,hX2⟩;have p5:=pcell_later hX2 p4;obtain⟨A2,cap2,hu2⟩:=own_form ho2;subst hu2;replace ho2:=hide ho2;replace hX2:=hide hX2)
  refine (hde.out _).mono ?_
  rintro ee w3 ⟨rfl,hX3⟩
  have hX4:=((hX1h.out.trans g1.grown).trans hX2.out).trans hX3
  have hres:=hide (hturn.out _ _ (.slice none 0 0) hX4 (Fr.refl _ _) (World.ownsRow_nil _ _ _ _))
  have pf:=hide (hPh.out.ob.ext hX4)
  have q4:=pf.out.cell 4 rfl
  have qf:=pf.out.free 4
  haveI:In p w3:=⟨pf.out.lt⟩
  have ho3:=hide (own_ext ho2.out hX3)
  have hbs:=hide ((hX1h.out.trans g1.grown).size)
  go_wp2_with fail
  go_returns
  refine⟨_,_,0,rfl,hnh.out,pmown_far (own_base ho3.out hbs.out) 4 _ (Ob.not_own pf.out ho3.out (by decide)),hres.out.1,hres.out.2,rfl⟩
 ·have hlen2:(blks (L.take n)).length=n:=by rw[blks_len,List.length_take];omega
  have hlt2:(L.take n).length=n:=by rw[List.length_take];omega
  have hld2:(L.drop n).length=L.length-n:=by rw[List.length_drop]
  have hown:=hP.own
  have htk:(tg1 (blks L)).take (n*1)=tg1 (blks (L.take n)):=by rw[Nat.mul_one,tg1_take,blks_take]
  have hcl:=hide (fun w1 (hX:Ext w w1)=>pclone_c (blks (L.take n)) (.slice (some ⟨g,0,none⟩) n cap) w1 (by
   have h1:=pmown_take (own_ext hown hX) (i:=n) hnl
   rw[htk] at h1
   rw[hlen2]
   exact Sl.own h1 (by simp)) (by rw[hlen2];omega))
  rw[hlen2] at hcl
  rw[hld2] at hturn
  have hncap:n≤cap:=by omega
  have hPc:=hide hP
  clear hP
  by_cases h0:n=0
  ·subst h0
   have hde:=hide (fun w'=>pdel0_c (some ⟨g,0,none⟩) L.length cap hc1 (fun h=>by cases h) w')
   go_enter Tryz.func90,Tryz.ntmps90
   go_wp2_with fail
   rw[←hW1h.out]
   refine seq_gw ha.out ?_
   intro g1
   have hX5:=hide (hX1h.out.trans g1.grown)
   have p4:=pcell_later hX5.out c4
   haveI:In p g1.val:=⟨block_lt_of_cell p4⟩
   go_wp2_with fail
   refine (hcl.out _ hX5.out).mono ?_
   rintro ee w2 ⟨vo,rfl,ho2,hX2⟩
   have p5:=pcell_later hX2 p4
   obtain⟨A2,cap2,hu2⟩:=own_form ho2
   subst hu2
   replace ho2:=hide ho2
   replace hX2:=hide hX2
   go_wp2_with fail
   refine (hde.out _).mono ?_
   rintro ee w3 ⟨rfl,hX3⟩
   have hX4:=(hX5.out.trans hX2.out).trans hX3
   have hres:=hide (hturn.out _ _ (.slice (some ⟨g,0,none⟩) L.length cap) hX4 (Fr.refl _ _) (by rw[List.drop_zero,Nat.sub_zero];exact own_ext hown hX4))
   have pf:=hide (hPh.out.ob.ext hX4)
   have q4:=pf.out.cell 4 rfl
   have qf:=pf.out.free 4
   haveI:In p w3:=⟨pf.out.lt⟩
   have ho3:=hide (own_ext ho2.out hX3)
   have hbs:=hide hX5.out.size
   clear hown htk
   go_wp2_with fail
   go_returns
   refine⟨_,_,0,rfl,hnh.out,?_,hres.out.1,hres.out.2,rfl⟩
   rw[hlt2]
   exact pmown_far (own_base ho3.out hbs.out) 4 _ (Ob.not_own pf.out ho3.out (by decide))
  ·have hde:=hide (fun (w1:World) (hX:Ext w w1)=>pdelA_c base g cap n (blks L) w1 (by rw[blks_len];exact own_ext hown hX) (by omega) (by rw[blks_len];exact hnl) (by rw[blks_len];omega))
   rw[←blks_drop,blks_len] at hde
   have hnI:(n:Int)≤L.length:=by omega
   go_enter Tryz.func90,Tryz.ntmps90
   go_wp2_with fail
   rw[←hW1h.out]
   refine seq_gw ha.out ?_
   intro g1
   have hX5:=hide (hX1h.out.trans g1.grown)
   have p4:=pcell_later hX5.out c4
   haveI:In p g1.val:=⟨block_lt_of_cell p4⟩
   go_wp2_with fail
   refine (hcl.out _ hX5.out).mono ?_
   rintro ee w2 ⟨vo,rfl,ho2,hX2⟩
   have p5:=pcell_later hX2 p4
   obtain⟨A2,cap2,hu2⟩:=own_form ho2
   subst hu2
   replace ho2:=hide ho2
   replace hX2:=hide hX2
   go_wp2_with fail
   refine (hde.out _ (hX5.out.trans hX2.out)).mono ?_
   rintro ee w3 ⟨rfl,ho6,hF6⟩
   have hX4:=hX5.out.trans hX2.out
   have hres:=hide (hturn.out _ _ _ hX4 hF6 ho6)
   have hgp:p≠g:=fun e=>p_not_own hPh.out (by rw[e];rfl)
   have pf:=hide (hPh.out.ob.fr ((Fr.of_ext hX4).trans hF6) (by simpa using hgp))
   have q4:=pf.out.cell 4 rfl
   have qf:=pf.out.free 4
   haveI:In p w3:=⟨pf.out.lt⟩
   have hgw:g<w.heap.size:=(hown.lt g rfl).2
   have hbs:=hide hX5.out.size
   have ho3:=hide (powns_fr ho2.out hF6 (fun x hx=>by
    have:=(ho2.out.lt x hx).1
    have:=hbs.out
    simp;omega))
   clear hown htk
   go_wp2_with fail
   go_returns
   refine⟨_,_,n,rfl,hnh.out,?_,hres.out.1,hres.out.2,rfl⟩
   rw[hlt2]
   exact pmown_far (own_base ho3.out hbs.out) 4 _ (Ob.not_own pf.out ho3.out (by decide))
end
end Go.Proofs.YtajelkkiijdegaaGreat
namespace Go.Proofs.YtajelkkiijdegaaGreat
open Go.RowKit
abbrev Cl:=ByteArray×Int
def letB(c:UInt8):Bool:=decide (97≤c.toNat∧c.toNat≤122)
def digB(c:UInt8):Bool:=decide (48≤c.toNat∧c.toNat≤57)
def opB(s:ByteArray):Bool:=decide (s.data.toList∈[[97,110,100],[111,114],[110,111,116],[108,101,110]])
def nameB(s:ByteArray):Bool:=decide (s.size≠0∧s.size≤16) && ((s.data.toList.head?.any letB) && ((s.data.toList.all fun c=>letB c || digB c) && !opB s))
def okC(c:Cl):Bool:=decide (c.2=1∨c.2=2) && nameB c.1
def ixFrom(n:ByteArray):List Cl→Int→Int
 |[],_=> -1
 |c::r,i=>if c.1=n then i else ixFrom n r (i+1)
def ixC(l:List Cl)(n:ByteArray):Int:=ixFrom n l 0
theorem ixFrom_none(n:ByteArray):∀(l:List Cl) (i:Int),(∀c∈l,c.1≠n)→ixFrom n l i= -1
 |[],_,_=>rfl
 |c::r,i,h=>by
  unfold ixFrom
  rw[if_neg (h c (by simp))]
  exact ixFrom_none n r (i+1) fun d hd=>h d (by simp[hd])
theorem ixFrom_at(n:ByteArray):∀(l:List Cl) (i:Int) (k:Nat) (c:Cl),l[k]? = some c→c.1=n→(∀d∈l.take k,d.1≠n)→ixFrom n l i=i+k
 |[],_,k,c,h,_,_=>by simp at h
 |d::r,i,0,c,h,e,_=>by
  obtain rfl:d=c:=by simpa using h
  unfold ixFrom
  rw[if_pos e]
  omega
 |d::r,i,k+1,c,h,e,hb=>by
  unfold ixFrom
  rw[if_neg (hb d (by simp))]
  have:=ixFrom_at n r (i+1) k c (by simpa using h) e fun x hx=>hb x (by simp[hx])
  rw[this]
  omega
theorem ixC_none{l:List Cl}{n:ByteArray}(h:∀c∈l,c.1≠n):ixC l n= -1:=ixFrom_none n l 0 h
theorem ixC_at{l:List Cl}{n:ByteArray}{k:Nat}{c:Cl}(hk:l[k]? = some c)(e:c.1=n)(hb:∀d∈l.take k,d.1≠n):ixC l n=k:=by
 have:=ixFrom_at n l 0 k c hk e hb
 unfold ixC
 omega
theorem ixC_le{l:List Cl}{k:Nat}{c:Cl}(hk:l[k]? = some c):∃j:Nat,ixC l c.1=j∧j≤k∧((∀d∈l.take k,d.1≠c.1)↔j=k):=by
 have key:∀m,m≤k→(∀d∈l.take m,d.1≠c.1)∨∃j,j<m∧∃d,l[j]? = some d∧d.1=c.1∧∀e∈l.take j,e.1≠c.1:=by
  intro m
  induction m with
  |zero=>intro _;left;intro d hd;simp at hd
  |succ m ih =>
   intro hm
   rcases ih (by omega) with h|⟨j,hj,h⟩
   ·have hlt:m<l.length:=by
     have:=(List.getElem?_eq_some_iff.1 hk).1
     omega
    obtain⟨x,hx⟩:∃x,l[m]? = some x:=⟨_,List.getElem?_eq_getElem hlt⟩
    by_cases e:x.1=c.1
    ·exact .inr ⟨m,by omega,x,hx,e,h⟩
    ·left
     intro d hd
     rw[List.take_add_one,hx] at hd
     rcases List.mem_append.1 hd with hd|hd
     ·exact h d hd
     ·obtain rfl:d=x:=by simpa using hd
      exact e
   ·exact .inr ⟨j,by omega,h⟩
 rcases key k (Nat.le_refl k) with h|⟨j,hj,d,hd,e,h⟩
 ·exact⟨k,ixC_at hk rfl h,Nat.le_refl k,⟨fun _=>rfl,fun _=>h⟩⟩
 ·refine⟨j,ixC_at hd e h,by omega,⟨fun hn=>?_,fun hjk=>by omega⟩⟩
  have hdk:d∈l.take k:=by
   have:(l.take k)[j]? = some d:=by rw[List.getElem?_take,if_pos hj];exact hd
   exact List.mem_of_getElem? this
  exact absurd e (hn d hdk)
def Apart(l:List Cl)(k:Nat):Prop:=∀i,i<k→∀c,l[i]? = some c→∀d∈l.take i,d.1≠c.1
theorem apart_zero(l:List Cl):Apart l 0:=fun i hi=>by omega
theorem apart_step{l:List Cl}{k:Nat}{c:Cl}(h:Apart l k)(hk:l[k]? = some c)(hc:∀d∈l.take k,d.1≠c.1):Apart l (k+1):=by
 intro i hi x hx d hd
 by_cases e:i=k
 ·subst e
  rw[hk] at hx
  obtain rfl:=Option.some.inj hx
  exact hc d hd
 ·exact h i (by omega) x hx d hd
def apartK(l:List Cl):Nat→Bool
 |0=>true
 |k+1=>apartK l k && (match l[k]? with|some c=>(l.take k).all fun d=>decide (d.1≠c.1)|none=>true)
theorem apartK_iff(l:List Cl):∀k,apartK l k=true↔Apart l k
 |0=>⟨fun _=>apart_zero l,fun _=>rfl⟩
 |k+1=>by
  unfold apartK
  rw[Bool.and_eq_true,apartK_iff l k]
  cases hk:l[k]? with
  |none =>
   constructor
   ·rintro⟨h, -⟩ i hi x hx d hd
    by_cases e:i=k
    ·subst e;rw[hk] at hx;cases hx
    ·exact h i (by omega) x hx d hd
   ·intro h
    exact⟨fun i hi=>h i (by omega),rfl⟩
  |some c =>
   constructor
   ·rintro⟨h,hc⟩
    exact apart_step h hk fun d hd=>by simpa using List.all_eq_true.1 hc d hd
   ·intro h
    exact⟨fun i hi=>h i (by omega),by rw[List.all_eq_true];intro d hd;simpa using h k (by omega) c hk d hd⟩
def apartB(l:List Cl):Bool:=apartK l l.length
def mayS(l:List Cl):Bool:=decide (1≤l.length∧l.length≤8) && (l.all okC && apartB l)
theorem apartB_true{l:List Cl}:apartB l=true↔Apart l l.length:=apartK_iff l l.length
end Go.Proofs.YtajelkkiijdegaaGreat
