/-
  A helper of ours: no claim of its own. Layer 11 (pack): a table's pieces, by the code.
-/
import Derived.Test.YtajelkkiijdegaaGreatPakO
import Derived.Test.YtajelkkiijdegaaGreatPakC
import Derived.Test.YtajelkkiijdegaaGreatEdgGs
import Derived.Test.YtajelkkiijdegaaGreatStepV
import Derived.Sort.LoopGhostIn
set_option linter.unusedVariables false
set_option linter.unusedSimpArgs false
set_option linter.unusedSectionVars false
set_option maxHeartbeats 64000000
set_option maxRecDepth 100000
namespace Go.Proofs.YtajelkkiijdegaaGreat
open Go.RowKit
attribute [local go_sem] GW.cell GW.frozen In.eq_true In.le_true In.ne In.ne' In.ne_add In.ne_add' In.lt_add Upto.le_true Upto.le_add Upto.lt_add Oper.semAt_some wide_depth wide_fn
def Fb3(bx:Nat)(b:Nat)(W:World):Prop:=∃mv,Ob W bx 73 [mv]∧(b≠bx∧(mv.ownBlock≠some b∧b<W.heap.size))
theorem Fb3.stab(B bx b:Nat):Stab B (Fb3 bx b):=Stab.ex fun mv=>(Stab.ob _ _ _).and ((Stab.pure _).and ((Stab.pure _).and ⟨fun A C h e=>Nat.lt_of_lt_of_le h e.size,fun A l o o' h _ _ _=>by simpa using h⟩))
abbrev I3(w:World)(b2 b3 b4 B0:Nat)(G:List Gp)(k:Nat)(W:World):Prop :=
 (Ob W b2 73 [.slice none 0 0]∧Ob W b3 27 [.int .i64 0])∧((∃mv,∃M:List Ve,(Ob W b4 73 [mv]∧(OwnPp W B0 mv M∧∀p,∀(_:p∈M),Rw W (ob mv++List.range B0) p.1 p.2.1))∧(eds M=piecesL (G.take k)∧M.length≤4096))∧(Ext w W∧B0≤W.heap.size))
theorem I3.stab(w:World)(b2 b3 b4 B0:Nat)(G:List Gp)(k B:Nat)(hB:w.heap.size≤B):Stab B (I3 w b2 b3 b4 B0 G k) :=
 ((Stab.ob _ _ _).and (Stab.ob _ _ _)).and ((Stab.ex fun mv=>Stab.ex fun N=>((Stab.ob _ _ _).and ((Stab.own _ _ _ _ _ _).and (Stab.all fun p=>Stab.all fun _=>Stab.sl _ _ _ _ _))).and (Stab.pure _)).and ((Stab.of_ext hB).and ⟨fun A C h e=>Nat.le_trans h e.size,fun A l o o' h _ _ _=>by simpa using h⟩))
abbrev Ix3(w:World)(b2 b3:Nat)(G:List Gp)(c:Code)(k:Nat)(W:World):Prop :=
 (c= .ret∧4096<(piecesL G).length)∧((Ob W b2 73 [.slice none 0 0]∧Ob W b3 27 [.int .i64 7])∧Ext w W)
theorem Ix3.stab(w:World)(b2 b3:Nat)(G:List Gp)(c:Code)(k B:Nat)(hB:w.heap.size≤B):Stab B (Ix3 w b2 b3 G c k) :=
 (Stab.pure _).and (((Stab.ob _ _ _).and (Stab.ob _ _ _)).and (Stab.of_ext hB))
theorem pieces_c(L:List Ve)(v:Value)(w:World)(hC:Ew w [] v L):Calls Tryz.prog 129 #[v] w fun e w'=>∃v' M,e= .returned (.tuple #[v', .int .i64 (pcE (eds L))])∧eds M=pcR (eds L)∧OwnPr w' w.heap.size v' M∧Ext w w':=by
 have h1:=hide (fun w' (hX:Ext w w')=>edgeMay_c L v w' (hC.ext hX))
 have h2:=hide (fun w' (hX:Ext w w')=>edgeTable_c L v w' (hC.ext hX))
 have hgr:=hide (fun w' (hX:Ext w w')=>groups_c L v w' (hC.ext hX))
 obtain⟨A,cap,rfl,hlc,hlm, -⟩:=ew_form hC
 unfold maxLen at hlm
 clear hC
 obtain⟨E,hE⟩:∃E,E=pcE (eds L):=⟨_,rfl⟩
 obtain⟨R,hR⟩:∃R,R=pcR (eds L):=⟨_,rfl⟩
 rw[←hE,←hR]
 unfold pcR at hR
 rw[←hE] at hR
 unfold pcE at hE
 obtain⟨Wb,hWb⟩:∃Wb,Wb=(w.alloc (.cells #[.slice none 0 0] 73)).alloc (.cells #[.int .i64 0] 27):=⟨_,rfl⟩
 have hX0:Ext w Wb:=by rw[hWb];exact ((Ext.refl w).alloc _).alloc _
 have a2:Ob Wb w.heap.size 73 [.slice none 0 0]:=by rw[hWb];exact (Ob.new w 73 [.slice none 0 0]).alloc _
 have a3:Ob Wb (w.heap.size+1) 27 [.int .i64 0]:=by rw[hWb];have:=Ob.new (w.alloc (.cells #[.slice none 0 0] 73)) 27 [.int .i64 0];rwa [World.size_alloc] at this
 have hX0h:=hide hX0
 refine calls_marks Tryz.func129 rfl ?_
 simp only[Tryz.ntmps129,List.size_toArray,List.length_cons,List.length_nil,Nat.reduceAdd,Nat.reduceSub,Array.replicate_succ,Array.replicate_zero,List.push_toArray,List.append_toArray,List.nil_append,List.cons_append]
 have hb23:w.heap.size≠w.heap.size+1:=by omega
 cases ha:mayE (eds L)
 ·rw[ha] at h1 hE
  rw[if_neg (by decide)] at hE
  subst hE
  replace hR:R=[]:=by rw[hR,if_neg (by decide)]
  replace hR:=hide hR
  go_wp2_with (go_at_call 62;(with_reducible refine seq_gw (h1.out _ (by rw[←hWb];exact hX0h.out)) ?_);intro g)
  have o2:Ob ((g.val.setCell ⟨w.heap.size,0,none⟩ (.slice none 0 0)).setCell ⟨w.heap.size+1,0,none⟩ (.int .i64 2)) w.heap.size 73 [.slice none 0 0]:=(((hWb ▸ a2).ext g.grown).set 0 _).far _ _ hb23
  have o3:Ob ((g.val.setCell ⟨w.heap.size,0,none⟩ (.slice none 0 0)).setCell ⟨w.heap.size+1,0,none⟩ (.int .i64 2)) (w.heap.size+1) 27 [.int .i64 2]:=(((hWb ▸ a3).ext g.grown).far ⟨w.heap.size,0,none⟩ _ (Ne.symm hb23)).set 0 _
  have q2:=o2.cell 0 rfl
  have q3:=o3.cell 0 rfl
  exact ret_plain (v:= .tuple #[.slice none 0 0, .int .i64 2]) (by simp[results,Tryz.f129,go_sem,q2,q3]) ⟨_,[],rfl,by rw[hR.out];rfl,OwnPr.nil _ _,(((hWb ▸ hX0).trans g.grown).setCell (p:=⟨w.heap.size,0,none⟩) (by simp) _).setCell (p:=⟨w.heap.size+1,0,none⟩) (by show w.heap.size≤w.heap.size+1;omega) _⟩
 rw[ha] at h1 hE
 rw[if_pos rfl] at hE
 cases hb:tabE (eds L)
 ·rw[hb] at h2 hE
  rw[if_neg (by decide)] at hE
  subst hE
  replace hR:R=[]:=by rw[hR,if_neg (by decide)]
  replace hR:=hide hR
  go_wp2_with (first|(go_at_call 62;(with_reducible refine seq_gw (h1.out _ (by rw[←hWb];exact hX0h.out)) ?_);intro g0)|(go_at_call 181;(with_reducible refine seq_gw' (h2.out _ ((by rw[←hWb];exact hX0h.out:Ext w ((w.alloc (.cells #[.slice none 0 0] 73)).alloc (.cells #[.int .i64 0] 27))).trans g0.grown)) ?_);intro g))
  have o2:Ob ((g.val.setCell ⟨w.heap.size,0,none⟩ (.slice none 0 0)).setCell ⟨w.heap.size+1,0,none⟩ (.int .i64 20)) w.heap.size 73 [.slice none 0 0]:=(((hWb ▸ a2).ext g.grown).set 0 _).far _ _ hb23
  have o3:Ob ((g.val.setCell ⟨w.heap.size,0,none⟩ (.slice none 0 0)).setCell ⟨w.heap.size+1,0,none⟩ (.int .i64 20)) (w.heap.size+1) 27 [.int .i64 20]:=(((hWb ▸ a3).ext g.grown).far ⟨w.heap.size,0,none⟩ _ (Ne.symm hb23)).set 0 _
  have q2:=o2.cell 0 rfl
  have q3:=o3.cell 0 rfl
  exact ret_plain (v:= .tuple #[.slice none 0 0, .int .i64 20]) (by simp[results,Tryz.f129,go_sem,q2,q3]) ⟨_,[],rfl,by rw[hR.out];rfl,OwnPr.nil _ _,(((hWb ▸ hX0).trans g.grown).setCell (p:=⟨w.heap.size,0,none⟩) (by simp) _).setCell (p:=⟨w.heap.size+1,0,none⟩) (by show w.heap.size≤w.heap.size+1;omega) _⟩
 rw[hb] at h2 hE
 rw[if_pos rfl] at hE
 have hGm:Hid (∀g∈grp (eds L),(mayJ g.2=true∧0≤leV g.2)∧g.1.length≤8∧g.2.length≤1024):=fun g hg=>by
  have hj:=(mayE_iff.1 ha).2.2 g hg
  refine⟨⟨hj,?_⟩,grp_r8 ha g hg,mayJ_len hj⟩
  have h5:=hb
  unfold tabE at h5
  rw[Bool.and_eq_true,List.all_eq_true] at h5
  exact of_decide_eq_true (h5.2 g hg)
 have hLl:L.length≤4096:=by have:=mayE_len ha;simpa [eds] using this
 have ha':=hide ha
 clear ha hb
 replace hE:=hide hE
 replace hR:=hide hR
 go_wp2_with (first|(go_at_call 62;(with_reducible refine seq_gw (h1.out _ (by rw[←hWb];exact hX0h.out)) ?_);intro g0)|(go_at_call 181;(with_reducible refine seq_gw' (h2.out _ ((by rw[←hWb];exact hX0h.out:Ext w ((w.alloc (.cells #[.slice none 0 0] 73)).alloc (.cells #[.int .i64 0] 27))).trans g0.grown)) ?_);intro g)|(go_at_call 122;refine (hgr.out _ (((by rw[←hWb];exact hX0h.out:Ext w ((w.alloc (.cells #[.slice none 0 0] 73)).alloc (.cells #[.int .i64 0] 27))).trans g.grown).alloc _)).mono ?_;rintro ee w1 ⟨b,rfl,v1,M,hb,hM,hMe,hX1⟩))
 rw[if_pos ha'.out] at hM
 have p2:Ob w1 w.heap.size 73 [.slice none 0 0]:=((((hWb ▸ a2:Ob ((w.alloc (.cells #[.slice none 0 0] 73)).alloc (.cells #[.int .i64 0] 27)) w.heap.size 73 [.slice none 0 0])).ext g.grown).alloc _).ext hX1
 have p3:Ob w1 (w.heap.size+1) 27 [.int .i64 0]:=((((hWb ▸ a3:Ob ((w.alloc (.cells #[.slice none 0 0] 73)).alloc (.cells #[.int .i64 0] 27)) (w.heap.size+1) 27 [.int .i64 0])).ext g.grown).alloc _).ext hX1
 have p4:Ob w1 g.val.heap.size 73 [.slice none 0 0]:=(Ob.new g.val 73 [.slice none 0 0]).ext hX1
 have hXw:Ext w w1:=(((hWb ▸ hX0:Ext w ((w.alloc (.cells #[.slice none 0 0] 73)).alloc (.cells #[.int .i64 0] 27))).trans g.grown).alloc _).trans hX1
 have hl34:w.heap.size+1<g.val.heap.size:=by have:=((hWb ▸ a3:Ob ((w.alloc (.cells #[.slice none 0 0] 73)).alloc (.cells #[.int .i64 0] 27)) (w.heap.size+1) 27 [.int .i64 0]).ext g.grown).lt;exact this
 clear h1 h2 hgr hWb a2 a3 hX0 hX0h hX1 ha'
 generalize hb4:g.val.heap.size=b4 at *
 generalize hb3:w.heap.size+1=b3 at *
 have hMx:=hide (ew_box hMe p4)
 rw[←hM] at hGm hE
 have hML:M.length≤4096:=by have:=congrArg List.length hM;simp only[eds,List.length_map] at this;omega
 have hzw:=hXw.size
 replace hM:=hide hM
 refine wp_rangeX2 (X:=[b4]) (xs:=grp (eds M)) rfl (enters_of Tryz.func175 (by kernel_rfl) rfl) (groups_seqx [b4] M v1 w1 w1 b hMx.out (by omega) (fun g hg=>Nat.le_trans (hGm.out g hg).2.1 (by omega)) (Ext.refl _) hb) (Ext.refl _) (Nat.le_refl _) (fun x vs W h=>h.size) (fun x vs=>Hgg.stab x vs)
  (Fb3 b4) (fun b=>Fb3.stab _ b4 b) (I3 w w.heap.size b3 b4 w1.heap.size (grp (eds M)))
  (fun k A o ⟨_,⟨mv,N,⟨o1,o2,_⟩,_⟩,_⟩=>⟨mv,o1.alloc o,(by have:=o1.lt;omega),(fun h=>by have:=(o2.lt _ h).2;omega),by simp⟩)
  (Ix3 w w.heap.size b3 (grp (eds M)))
  (fun k=>I3.stab w _ _ _ _ _ k _ hzw)
  (fun c k=>Ix3.stab w _ _ _ c k _ hzw)
  ⟨⟨p2,p3⟩,⟨_,[],⟨p4,World.ownsRow_nil _ _ _ _,by simp⟩,by simp[piecesL,eds],by simp⟩,hXw,Nat.le_refl _⟩
  (fun k x vs a' _=>∃r f,vs= #[r,f]∧a'={ tmps:= #[.slice A L.length cap,undef, .pointer (some ⟨w.heap.size,0,none⟩), .pointer (some ⟨b3,0,none⟩), .pointer (some ⟨b4,0,none⟩),r,f,undef,undef, .slice A L.length cap, .bool true, .bool false, .slice A L.length cap, .bool true, .bool false, .slice A L.length cap, .func (.func 175) #[] #[.pointer (some ⟨b,0,none⟩)],r,f,undef,undef,undef,undef,undef,undef,undef,undef,undef,undef,undef,undef,undef,undef,undef,undef,undef,undef,undef,undef,undef,undef],defers:=[]})
  (fun k x vs a'=>Stab.pure _) ?assign ?body ?done ?stop
 case assign =>
  rintro LL k x vs W K _ ⟨r,f,rfl, -, -⟩ hK
  gi_wp2
  exact hK _ _ (Ext.refl _) ⟨r,f,rfl,rfl⟩
 case body =>
  rintro LL k x vs a' W hx ⟨⟨o2,o3⟩,⟨mv,N,⟨o4,hNo,hNr⟩,hNe,hNl⟩,hXk,h1W⟩ ⟨r',f',e',hr,hf⟩ ⟨r,f,rfl,rfl⟩
  obtain⟨rfl,rfl⟩:r=r'∧f=f':=by simpa using e'
  obtain⟨q,J⟩:=x
  obtain⟨⟨hJm,hJ0⟩,hq8,hJl⟩:=hGm.out (q,J) (List.mem_of_getElem? hx)
  simp only at hJm hJ0 hq8 hJl
  have hnx:=hide (show piecesL ((grp (eds M)).take (k+1))=piecesL ((grp (eds M)).take k)++lifeP q J by rw[List.take_add_one,hx,Option.toList_some,piecesL_snoc])
  have hpre:=piecesL_pre (grp (eds M)) (k+1)
  rw[hnx.out,List.length_append] at hpre
  have hNl2:N.length=(piecesL ((grp (eds M)).take k)).length:=by rw[←hNe];simp[eds]
  rw[←hNl2] at hpre
  have hPl:(lifeP q J).length=(lifeL J).length:=by unfold lifeP;rw[List.length_map]
  rw[hPl] at hpre
  have hcI:=lifeL_len J
  have hcb:=cntJ_le (f:=J) (fun j hj=>by
   have:=(mayJ_iff.1 hJm).2.1 j hj
   unfold okJ at this
   rw[decide_eq_true_iff] at this
   omega)
  obtain⟨c,hc⟩:∃c,c=(lifeL J).length:=⟨_,rfl⟩
  rw[←hc] at hpre hcI
  have hcb2:(c:Int)≤1073741824:=by omega
  have hcount:=hide (fun w' (hX:Ext W w')=>count_c J hJm f w' (Sl.ext (own_jw (S:=[]) hf (by simp)) hX))
  rw[←hcI] at hcount
  have hlife:=hide (fun (h4:c≤4096) w' (hX:Ext W w')=>lifetimes_c J hJm hJ0 (by rw[←hcI];omega) f w' (Sl.ext (own_jw (S:=[]) hf (by simp)) hX))
  have hr':=hide hr
  have hf':=hide hf
  obtain⟨RA,rcap,rfl⟩:=own_form hr
  obtain⟨JA,jcap,rfl⟩:=own_form hf
  have hNo':=hide hNo
  obtain⟨MA,mcap,rfl⟩:=own_form hNo
  have q4:=hide (o4.cell 0 rfl)
  have o4':=hide o4
  have o2':=hide o2
  have o3':=hide o3
  replace hNe:=hide hNe
  replace hNr:=hide hNr
  replace hc:=hide hc
  have hXk':=hide hXk
  clear hx hr hf hNo o4 hNl2 hPl hcI hcb hJm hJ0 o2 o3 hXk
  gi_wp2
  refine wpIn_region_list_tail 4 [(.is (.slice MA N.length mcap)),(.is (.int .i64 N.length)),(.is (.slice JA J.length jcap)),(.is (.int .i64 c))] (by kernel_rfl) (by kernel_rfl) (by kernel_rfl) (by kernel_rfl) (by kernel_rfl) (by kernel_rfl) (by kernel_rfl) (by kernel_rfl) ?_ ?_
  ·refine⟨?_,?_,?_,?_,trivial⟩
   ·intro b w' h hE
    have f4:b.tmps.getD 4 undef= .pointer (some ⟨b4,0,none⟩):=hE 4 (of_decide_eq_true (by kernel_rfl))
    have c0:=cell_later h.ext q4.out
    exact good_load (wanted_none rfl) rfl f4 (by simp[go_sem,c0]) rfl
   ·intro b w' h hE
    have f19:b.tmps.getD 19 undef= .slice MA N.length mcap:=h.dep 0 _ 19 (by kernel_rfl) rfl rfl
    exact good_len (wanted_none rfl) rfl Tryz.underlying73 f19 rfl
   ·intro b w' h hE
    have f6:b.tmps.getD 6 undef= .slice JA J.length jcap:=hE 6 (of_decide_eq_true (by kernel_rfl))
    exact good_move (wanted_none rfl) rfl f6
   ·intro b w' h hE
    have f21:b.tmps.getD 21 undef= .slice JA J.length jcap:=h.dep 2 _ 21 (by kernel_rfl) rfl rfl
    have g21:b.tmps[21]?.getD undef= .slice JA J.length jcap:=by rw[←Array.getD_eq_getD_getElem?];exact f21
    refine good_call (wanted_none rfl) rfl (enters Tryz.func182 (by kernel_rfl) rfl) ?_
    rw[show (#[.tmp 21]:Array Operand).map b.eval= #[.slice JA J.length jcap] by simp[Act.eval,g21]]
    exact (hcount.out w' h.ext).mono fun e w1 ⟨he,hx⟩=>⟨_,he,rfl,hx⟩
  ·intro b w2 hX2 hd hz he' hf
   have e19:b.tmps.getD 19 undef= .slice MA N.length mcap:=hf 0 _ 19 (by omega) rfl rfl
   have e20:b.tmps.getD 20 undef= .int .i64 N.length:=hf 1 _ 20 (by omega) rfl rfl
   have e21:b.tmps.getD 21 undef= .slice JA J.length jcap:=hf 2 _ 21 (by omega) rfl rfl
   have e22:b.tmps.getD 22 undef= .int .i64 c:=hf 3 _ 22 (by omega) rfl rfl
   have e:=frame_puts hd hz he'
   obtain⟨X,hXx⟩:∃X:Nat→Value,∀d,b.tmps.getD d undef=X d:=⟨_,fun _=>rfl⟩
   rw[hXx] at e19 e20 e21 e22
   rw[show dstsOf _=[19,20,21,22] from rfl] at e
   simp only[List.foldl_cons,List.foldl_nil,hXx,Act.put,List.setIfInBounds_toArray,List.set_cons_succ,List.set_cons_zero] at e
   rw[e19,e20,e21,e22] at e
   clear hf he' hz hd hXx e19 e20 e21 e22
   subst e
   have hzw:=hX2.size
   simp only[List.drop_succ_cons,List.drop_zero]
   by_cases hfull:4096<N.length+c
   ·have hfI:(4096:Int)<(N.length:Int)+c:=by omega
    have d1:decide ((4096:Int)<(N.length:Int)+c)=true:=decide_eq_true hfI
    have y2:=o2'.out.ext hX2
    have y3:=o3'.out.ext hX2
    have k2:=y2.cell 0 rfl
    have k3:=y3.cell 0 rfl
    have fr2:=y2.free 0
    have fr3:=y3.free 0
    have l2:=y2.lt
    have l3:=y3.lt
    haveI:In w.heap.size w2:=⟨l2⟩
    haveI:In b3 w2:=⟨l3⟩
    have hb23':w.heap.size≠b3:=by omega
    replace y2:=hide y2
    replace y3:=hide y3
    go_wp2_with fail
    dsimp only[onlyN,Exit.then]
    gi_wp2_with fail
    have z2:Ob ((w2.setCell ⟨w.heap.size,0,none⟩ (.slice none 0 0)).setCell ⟨b3,0,none⟩ (.int .i64 7)) w.heap.size 73 [.slice none 0 0]:=(y2.out.set 0 _).far _ _ hb23'
    have z3:Ob ((w2.setCell ⟨w.heap.size,0,none⟩ (.slice none 0 0)).setCell ⟨b3,0,none⟩ (.int .i64 7)) b3 27 [.int .i64 7]:=(y3.out.far ⟨w.heap.size,0,none⟩ _ (Ne.symm hb23')).set 0 _
    have hmem:∀y∈[w.heap.size,b3],∃T vs,Ob W y T vs:=by
     intro y hy
     simp only[List.mem_cons,List.not_mem_nil,or_false] at hy
     rcases hy with rfl|rfl
     ·exact⟨_,_,o2'.out⟩
     ·exact⟨_,_,o3'.out⟩
    exact⟨keeps_fr (S:=[w.heap.size,b3]) (((Fr.of_ext hX2).setCell ⟨w.heap.size,0,none⟩ _ (.inl (by simp))).setCell ⟨b3,0,none⟩ _ (.inl (by simp))) hmem,⟨rfl,by omega⟩,⟨z2,z3⟩,((hXk'.out.trans hX2).setCell (p:=⟨w.heap.size,0,none⟩) (by simp) _).setCell (p:=⟨b3,0,none⟩) (by show w.heap.size≤b3;omega) _⟩
   ·have hfI:¬(4096:Int)<(N.length:Int)+c:=by omega
    have d1:decide ((4096:Int)<(N.length:Int)+c)=false:=decide_eq_false hfI
    have hc4:c≤4096:=by omega
    replace hX2:=hide hX2
    go_wp2_with fail
    dsimp only[onlyN,Exit.then]
    gi_wp2_with (gi_at_call 183;refine (in_round (hlife.out hc4 _ hX2.out)).mono ?_;rintro ee W3 ⟨u,rfl,hou,hX3⟩;have hou2:W3.ownsRow 0 37 2 u c (ps (lifeL J)):=(by rw[hc.out];exact own_base hou (Nat.zero_le _));obtain⟨UA,ucap,rfl⟩:=own_form hou2)
    have hz3:=hX3.size
    have hX23:=hX2.out.trans hX3
    have hps:PS w1.heap.size b4 W W3 (.slice MA N.length mcap) (.slice MA N.length mcap) N:=⟨Fr.of_ext hX23,o4'.out.ext hX23,(show OwnPr W w1.heap.size (.slice MA N.length mcap) N from ⟨hNo'.out,fun p hp=>hNr.out p hp⟩).ext hX23,fun k hk=> .inl hk⟩
    have hr3:=own_ext hr'.out hX23
    replace hps:=hide hps
    replace hr3:=hide hr3
    replace hou2:=hide hou2
    clear hou hX3 hlife hcount
    gi_loopg [28] c (fun gh i wr=>∃(j:Nat) (mv':Value) (N':List Ve),i= .int .i64 j∧j+gh=c∧PS w1.heap.size b4 W wr (.slice MA N.length mcap) mv' N'∧(Hid (eds N'=eds N++((lifeL J).take j).map fun s=>(q,s))∧N'.length=N.length+j)∧(wr.ownsRow 0 37 2 (.slice UA c ucap) c (ps (lifeL J))∧OwnR wr 0 (.slice RA q.length rcap) q))
    case atStart=>exact⟨0,_,N,rfl,by omega,hps.out,⟨by show _=_;simp,by omega⟩,hou2.out,hr3.out⟩
    case round =>
     obtain⟨j,mv',N',rfl,hj,hP,⟨hN',hNl'⟩,hU,hQ⟩:=hrel
     clear hps hr3 hou2
     have hzP:=hP.fr.size
     by_cases hlt:j<c
     ·obtain⟨⟨sa,sb⟩,hs⟩:∃x,(lifeL J)[j]? = some x:=⟨_,List.getElem?_eq_getElem (by rw[←hc.out];exact hlt)⟩
      have hUj:Jw wr [] (.slice UA c ucap) (lifeL J):=by
       have:=Sl.own (S:=[]) hU (by simp)
       rw[hc.out] at this ⊢
       exact this
      obtain⟨A',cap',e',hlc',hlm',hat'⟩:=jw_form hUj
      simp only[Value.slice.injEq] at e'
      obtain⟨rfl, -,rfl⟩:=e'
      unfold maxLen at hlm'
      rw[←hc.out] at hlc'
      obtain⟨bu,ou,rfl, -,hbu,c0,c1⟩:=hat' j _ hs
      simp only at c0 c1
      have hnx2:=hide (show eds N'++[(q,(sa,sb))]=eds N++((lifeL J).take (j+1)).map fun s=>(q,s) by rw[hN'.out,List.take_add_one,hs];simp)
      have O1:=Ob.new wr 37 [.int .i64 sa, .int .i64 sb]
      have p0:=hide (O1.cell 0 rfl)
      have p1:=hide (O1.cell 1 rfl)
      have hcp:=hide (fun w' (hX':Ext (wr.alloc (.cells #[.int .i64 sa, .int .i64 sb] 37)) w')=>rowCopy_c q (.slice RA q.length rcap) w' (Sl.own (S:=[]) (own_ext hQ (((Ext.refl wr).alloc _).trans hX')) (by simp)) (by omega))
      obtain⟨C,ccap,rfl⟩:=own_form hP.own.1
      have r4:=hide ((hP.ob4.cell 0 rfl))
      have hB1:w1.heap.size≤wr.heap.size:=by omega
      replace hP:=hide hP
      replace hU:=hide hU
      replace hQ:=hide hQ
      have hNl3:N'.length≤N.length+j:=by omega
      replace hNl':=hide hNl'
      clear hat' hs O1 hUj hN'
      gi_wp2_with fail
      refine wpIn_region_list_tail 6 [(.is (.slice C N'.length ccap)),(.is (.slice RA q.length rcap)),rowF (List.range wr.heap.size) q,(.is (jm (sa,sb))),pcF (List.range wr.heap.size) q (sa,sb),oneP (List.range wr.heap.size) q (sa,sb)] (by kernel_rfl) (by kernel_rfl) (by kernel_rfl) (by kernel_rfl) (by kernel_rfl) (by kernel_rfl) (by kernel_rfl) (by kernel_rfl) ?_ ?_
      ·refine⟨?_,?_,?_,?_,?_,?_,trivial⟩
       ·intro b w' h hE
        have f4:b.tmps.getD 4 undef= .pointer (some ⟨b4,0,none⟩):=hE 4 (of_decide_eq_true (by kernel_rfl))
        have c0:=cell_later (((Ext.refl wr).alloc _).trans h.ext) r4.out
        exact good_load (wanted_none rfl) rfl f4 (by simp[go_sem,c0]) rfl
       ·intro b w' h hE
        have f5:b.tmps.getD 5 undef= .slice RA q.length rcap:=hE 5 (of_decide_eq_true (by kernel_rfl))
        exact good_move (wanted_none rfl) rfl f5
       ·intro b w' h hE
        have f33:b.tmps.getD 33 undef= .slice RA q.length rcap:=h.dep 1 _ 33 (by kernel_rfl) rfl rfl
        have g33:b.tmps[33]?.getD undef= .slice RA q.length rcap:=by rw[←Array.getD_eq_getD_getElem?];exact f33
        refine good_call (wanted_none rfl) rfl (enters Tryz.func53 (by kernel_rfl) rfl) ?_
        rw[show (#[.tmp 33]:Array Operand).map b.eval= #[.slice RA q.length rcap] by simp[Act.eval,g33]]
        exact (hcp.out w' h.ext).mono fun e w1 ⟨v,he,ho,hx⟩=>⟨v,he,Sl.own ho (fun k hk=>by have:=List.mem_range.1 hk;have:=h.ext.size;simp only[World.size_alloc] at this;omega),hx⟩
       ·intro b w' h hE
        have f8:b.tmps.getD 8 undef= .pointer (some ⟨wr.heap.size,0,none⟩):=hE 8 (of_decide_eq_true (by kernel_rfl))
        have c0:=cell_later h.ext p0.out
        have c1:=cell_later h.ext p1.out
        exact good_load (wanted_none rfl) rfl f8 (by simp[go_sem,c0,c1]) rfl
       ·intro b w' h hE
        have f34:Rw w' (List.range wr.heap.size) (b.tmps.getD 34 undef) q:=h.dep 2 _ 34 (by kernel_rfl) rfl rfl
        have f35:b.tmps.getD 35 undef=jm (sa,sb):=h.dep 3 _ 35 (by kernel_rfl) rfl rfl
        have g35:b.tmps[35]?.getD undef=jm (sa,sb):=by rw[←Array.getD_eq_getD_getElem?];exact f35
        obtain⟨A,cp,e34⟩:=rw_val f34
        have g34:b.tmps[34]?.getD undef= .slice A q.length cp:=by rw[←Array.getD_eq_getD_getElem?];exact e34
        rw[e34] at f34
        exact good_run (wanted_none rfl) (v:=em (.slice A q.length cp) (sa,sb)) (by simp[execOp,Act.eval,go_sem,g34,g35,jm,Sem.run_bind,Sem.run_pure,Result.andThen_ok]) ⟨A,cp,rfl,f34⟩
       ·intro b w' h hE
        have f36:∃A cp,(b.tmps.getD 36 undef)=em (.slice A q.length cp) (sa,sb)∧Rw w' (List.range wr.heap.size) (.slice A q.length cp) q:=h.dep 4 _ 36 (by kernel_rfl) rfl rfl
        obtain⟨A,cp,e36,hr36⟩:=f36
        have g36:b.tmps[36]?.getD undef=em (.slice A q.length cp) (sa,sb):=by rw[←Array.getD_eq_getD_getElem?];exact e36
        have:=buildP1 A q.length cp (sa,sb) w'
        refine good_grow (w':=w'.alloc (.cells #[.slice A q.length cp, .int .i64 sa, .int .i64 sb] 114)) (v:= .slice (some ⟨w'.heap.size,0,none⟩) 1 1) (wanted_none rfl) ?_ ⟨_,oneP_new (.slice A q.length cp) q (sa,sb) w',Sl.ext hr36 ((Ext.refl _).alloc _)⟩ ((Ext.refl _).alloc _)
        simp[execOp,Act.eval,g36,this,Sem.run_bind,Sem.run_pure,Result.andThen_ok]
      ·intro b w5 hX5 hd hz he' hf
       have e32:b.tmps.getD 32 undef= .slice C N'.length ccap:=hf 0 _ 32 (by omega) rfl rfl
       have e33:b.tmps.getD 33 undef= .slice RA q.length rcap:=hf 1 _ 33 (by omega) rfl rfl
       have f34:Rw w5 (List.range wr.heap.size) (b.tmps.getD 34 undef) q:=hf 2 _ 34 (by omega) rfl rfl
       have e35:b.tmps.getD 35 undef=jm (sa,sb):=hf 3 _ 35 (by omega) rfl rfl
       have f36:∃A cp,(b.tmps.getD 36 undef)=em (.slice A q.length cp) (sa,sb)∧Rw w5 (List.range wr.heap.size) (.slice A q.length cp) q:=hf 4 _ 36 (by omega) rfl rfl
       have f37:∃u,Sl w5 [] 3 (b.tmps.getD 37 undef) 1 (ec1 (u,q,(sa,sb)))∧Rw w5 (List.range wr.heap.size) u q:=hf 5 _ 37 (by omega) rfl rfl
       have e:=frame_puts hd hz he'
       obtain⟨X,hXx⟩:∃X:Nat→Value,∀d,b.tmps.getD d undef=X d:=⟨_,fun _=>rfl⟩
       rw[hXx] at e32 e33 e35 f34 f36 f37
       obtain⟨A34,c34,q34⟩:=rw_val f34
       obtain⟨A36,c36,q36, -⟩:=f36
       obtain⟨u37,f37,r37⟩:=f37
       obtain⟨A37,c37,q37⟩:=sl_form f37
       rw[show dstsOf _=[32,33,34,35,36,37] from rfl] at e
       simp only[List.foldl_cons,List.foldl_nil,hXx,Act.put,List.setIfInBounds_toArray,List.set_cons_succ,List.set_cons_zero] at e
       rw[e32,e33,e35,q34,q36,q37] at e
       rw[q37] at f37
       replace f37:=hide f37
       clear hf he' hz hd hXx e32 e33 e35 q34 q36 q37 f34
       subst e
       have hzw:=hX5.size
       simp only[World.size_alloc] at hzw
       simp only[List.drop_succ_cons,List.drop_zero]
       replace r37:=hide r37
       have hone:=row_one r37.out
       have hX05:Ext wr w5:=((Ext.refl wr).alloc _).trans hX5
       have hP5:=hide (hP.out.ob4.ext hX05)
       have hO5:=hide (own_ext hP.out.own.1 hX05)
       have hno:=Ob.not_own hP5.out hO5.out (by decide)
       replace hX05:=hide hX05
       go_wp2_with (at_builtin;(refine wpl_app tPc rfl (.tmp 32) (.tmp 37) rfl rfl hO5.out rfl (src_sl Tryz.underlying73 f37.out (ec1_one hone) (by omega)) (by unfold maxLen;omega) (by omega) (by omega) ?_;intro v8 w8 ho8 hg8 hob8;have o8:=hP5.out.grown hg8 (Ne.symm hno);have k8:=o8.cell 0 rfl;have fr8:=o8.free 0;have l8:=o8.lt;haveI:In b4 w8:=⟨l8⟩;have hU8:=hide (hP.out.keep (v8:=v8) hX05.out hg8 hU.out (by decide) (by decide));have hQ8:=hide (hP.out.keep (v8:=v8) hX05.out hg8 hQ.out (by decide) (by decide));have hP8:=hide (hP.out.app hX05.out (own_appP (M:=[(u37,q,(sa,sb))]) (by simpa [ec,ec1] using ho8)) hg8 hob8 r37.out (fun k hk=>List.mem_range.2 hk) hB1 rfl);obtain⟨A8,c8,q8⟩:=own_form ho8;subst q8))
       dsimp only[onlyN,Exit.then,Exit.inBlock]
       gi_wp2_with fail
       gi_roundg (c-(j+1))
       case measure=>omega
       case rel=>exact⟨j+1,_,_,by go_num,by omega,hP8.out,⟨by show _=_;rw[eds,List.map_append];exact hnx2.out,by have:=hNl'.out;rw[List.length_append,List.length_singleton];omega⟩,hU8.out,hQ8.out⟩
     ·have hjc:j=c:=by omega
      have hge:¬(j:Int)<c:=by omega
      have hfin:=hN'.out
      rw[hjc,hc.out,List.take_of_length_le (Nat.le_refl _)] at hfin
      replace hfin:=hide hfin
      replace hP:=hide hP
      replace hU:=hide hU
      replace hQ:=hide hQ
      clear hN'
      have hNl4:N'.length≤4096:=by omega
      replace hNl':=hide hNl'
      gi_wp2_with fail
      have hF:=hP.out.fr
      have hobN:=ob_ge hNo'.out
      have hgeS:∀y∈ob (Value.slice MA N.length mcap)++[b4],w1.heap.size≤y∨y∈[b4]:=fun y hy=>(List.mem_append.1 hy).imp (fun h=>(hobN y h).1) id
      have hb4lt:b4<w1.heap.size:=p4.lt
      have hge2:∀y∈ob (Value.slice MA N.length mcap)++[b4],b3<y:=fun y hy=>by
       rcases List.mem_append.1 hy with hy|hy
       ·have:=(hobN y hy).1;omega
       ·obtain rfl:=List.mem_singleton.1 hy;omega
      refine⟨keeps_fr hF (fun y hy=>?_),belX_fr hF h1W hgeS,⟨⟨o2'.out.fr hF (fun h=>by have:=hge2 _ h;omega),o3'.out.fr hF (fun h=>by have:=hge2 _ h;omega)⟩,⟨mv',N',⟨hP.out.ob4,hP.out.own.1,hP.out.own.2⟩,by rw[hfin.out,hNe.out,hnx.out];rfl,hNl4⟩,ext_fr hXk'.out hF (fun y hy=>by have:=hge2 _ hy;omega),Nat.le_trans h1W hF.size⟩,?_⟩
      ·rcases List.mem_append.1 hy with hy|hy
       ·exact ob_obj hNo'.out y hy
       ·obtain rfl:=List.mem_singleton.1 hy;exact⟨_,_,o4'.out⟩
      ·rintro y T us ⟨mv0,om,hy1,hy2,hy3⟩ oy
       obtain rfl:mv0= .slice MA N.length mcap:=by
        have e1:=om
        unfold Ob at e1
        have e2:=o4'.out
        unfold Ob at e2
        rw[e2] at e1
        simpa using e1.symm
       have hyS:y∉ob (Value.slice MA N.length mcap)++[b4]:=by
        intro h
        rcases List.mem_append.1 h with h|h
        ·exact hy2 (by simpa [ob] using h)
        ·exact hy1 (by simpa using h)
       refine⟨⟨mv',hP.out.ob4,hy1,fun h=>?_,by have:=hF.size;omega⟩,oy.fr hF hyS⟩
       rcases hP.out.blk y h with h|h
       ·exact hy2 h
       ·omega
 case done =>
  rintro D W hD ⟨⟨o2,o3⟩,⟨mv,N,⟨o4,hNo,hNr⟩,hNe,hNl⟩,hXk,h1W⟩ hK
  rw[List.take_of_length_le (Nat.le_refl _)] at hNe
  have hNL:N.length=(piecesL (grp (eds M))).length:=by rw[←hNe];simp[eds]
  have hE0:E=0:=by rw[hE.out,if_neg (by omega)]
  subst hE0
  have hR0:=hide (show eds N=R by rw[hR.out,if_pos rfl,hNe,hM.out])
  have q2:=o2.cell 0 rfl
  have q3:=o3.cell 0 rfl
  have q4:=o4.cell 0 rfl
  have f2:=o2.free 0
  have f3:=o3.free 0
  have l2:=o2.lt
  have l3:=o3.lt
  have l4:=o4.lt
  haveI:In w.heap.size W:=⟨l2⟩
  haveI:In b3 W:=⟨l3⟩
  haveI:In b4 W:=⟨l4⟩
  have hb23':w.heap.size≠b3:=by omega
  have hM0:OwnPr W w1.heap.size mv N:=⟨hNo,fun p hp=>hNr p hp⟩
  obtain⟨MA,mcap,rfl⟩:=own_form hNo
  replace hM0:=hide hM0
  replace hNe:=hide hNe
  replace hNL:=hide hNL
  have o2':=hide o2
  have o3':=hide o3
  have hXk':=hide hXk
  have hK':=hide hK
  clear hNo hNr
  go_wp2_with fail
  have y2:Ob ((W.setCell ⟨w.heap.size,0,none⟩ (.slice MA N.length mcap)).setCell ⟨b3,0,none⟩ (.int .i64 0)) w.heap.size 73 [.slice MA N.length mcap]:=(o2'.out.set 0 _).far _ _ hb23'
  have y3:Ob ((W.setCell ⟨w.heap.size,0,none⟩ (.slice MA N.length mcap)).setCell ⟨b3,0,none⟩ (.int .i64 0)) b3 27 [.int .i64 0]:=(o3'.out.far ⟨w.heap.size,0,none⟩ _ (Ne.symm hb23')).set 0 _
  have hF2:Fr [w.heap.size,b3] W ((W.setCell ⟨w.heap.size,0,none⟩ (.slice MA N.length mcap)).setCell ⟨b3,0,none⟩ (.int .i64 0)):=((Fr.refl [w.heap.size,b3] W).setCell ⟨w.heap.size,0,none⟩ _ (.inl (by simp))).setCell ⟨b3,0,none⟩ _ (.inl (by simp))
  have hb4lt:b4<w1.heap.size:=p4.lt
  have hin12:∀x∈[w.heap.size,b3],x<w1.heap.size:=by intro x hx;simp only[List.mem_cons,List.not_mem_nil,or_false] at hx;omega
  have hK2:=(KeepsOthers.setCell (W.setCell ⟨w.heap.size,0,none⟩ (.slice MA N.length mcap)) ⟨b3,0,none⟩ (.int .i64 0)).same D _ ((KeepsOthers.setCell W ⟨w.heap.size,0,none⟩ (.slice MA N.length mcap)).same D _ hK'.out rfl) rfl
  have z2:=(ob_put (o':= .deferred none) hK2 rfl y2).cell 0 rfl
  have z3:=(ob_put (o':= .deferred none) hK2 rfl y3).cell 0 rfl
  have hM2:OwnPr (((W.setCell ⟨w.heap.size,0,none⟩ (.slice MA N.length mcap)).setCell ⟨b3,0,none⟩ (.int .i64 0)).putObj D (.deferred none)) w1.heap.size (.slice MA N.length mcap) N :=
   ⟨(Stab.own (B:=0) _ _ _ _ _ _).put _ D _ _ (own_fr hM0.out.1 hF2 hin12) (Nat.zero_le _) hK2 rfl,fun p hp=>(Stab.sl (B:=0) _ _ _ _ _).put _ D _ _ (Sl.fr (hM0.out.2 p hp) hF2 (fun x hx=>List.mem_append_right _ (List.mem_range.2 (hin12 x hx)))) (Nat.zero_le _) hK2 rfl⟩
  refine ret_mark hK2 (v:= .tuple #[.slice MA N.length mcap, .int .i64 0]) ?_ ⟨_,rfl,N,hR0.out,hM2.lower hzw,put_ext ((hXk'.out.setCell (p:=⟨w.heap.size,0,none⟩) (by simp) _).setCell (p:=⟨b3,0,none⟩) (by show w.heap.size≤b3;omega) _) (by omega) _⟩
  simp[results,Tryz.f129,go_sem,z2,z3]
 case stop =>
  rintro D c k W hD hk ⟨⟨rfl,h4⟩,⟨o2,o3⟩,hXk⟩ hK
  have hE7:E=7:=by rw[hE.out,if_pos h4]
  subst hE7
  have hR0:=hide (show []=R by rw[hR.out,if_neg (by decide)])
  have hK':=hide hK
  go_wp2
  have z2:=(ob_put (o':= .deferred none) hK'.out rfl o2).cell 0 rfl
  have z3:=(ob_put (o':= .deferred none) hK'.out rfl o3).cell 0 rfl
  refine ret_mark hK'.out (v:= .tuple #[.slice none 0 0, .int .i64 7]) ?_ ⟨_,[],rfl,hR0.out,OwnPr.nil _ _,put_ext hXk (by omega) _⟩
  simp[results,Tryz.f129,go_sem,z2,z3]
end Go.Proofs.YtajelkkiijdegaaGreat
