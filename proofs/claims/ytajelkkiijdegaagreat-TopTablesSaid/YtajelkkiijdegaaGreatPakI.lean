/-
  A helper of ours: no claim of its own. Layer 11 (pack), lists only: lifetimes and functions: the jumps of both ends of a function's lifetimes are the function; lifetimes in form are those of their jumps.
-/
import Derived.Test.YtajelkkiijdegaaGreatPakO
import Derived.Test.YtajelkkiijdegaaGreatEdgEa
import Derived.Test.YtajelkkiijdegaaGreatPakQ
import Derived.Test.YtajelkkiijdegaaGreatFolT
import Derived.Test.YtajelkkiijdegaaGreatFolS
import Derived.Test.YtajelkkiijdegaaGreatEdgGs
import Derived.Test.YtajelkkiijdegaaGreatPakC
import Derived.Test.YtajelkkiijdegaaGreatEdgA
set_option linter.unusedVariables false
set_option linter.unusedSimpArgs false
set_option linter.unusedSectionVars false
set_option maxHeartbeats 64000000
set_option maxRecDepth 100000
namespace Go.Proofs.YtajelkkiijdegaaGreat
open Go.RowKit
attribute [local go_sem] GW.cell GW.frozen In.eq_true In.le_true In.ne In.ne' In.ne_add In.ne_add' In.lt_add Upto.le_true Upto.le_add Upto.lt_add
def endsE(l:List Ed):List Ed:=l.flatMap fun e=>[(e.1,(e.2.1,1)),(e.1,(e.2.2, -1))]
def endsV(L:List Ve):List Ve:=L.flatMap fun p=>[(p.1,p.2.1,(p.2.2.1,1)),(p.1,p.2.1,(p.2.2.2, -1))]
theorem endsV_eds(L:List Ve):eds (endsV L)=endsE (eds L):=by
 induction L with
 |nil=>rfl
 |cons p r ih =>
  unfold endsV endsE eds at ih ⊢
  rw[List.flatMap_cons,List.map_append,ih]
  rfl
theorem endsV_len(L:List Ve):(endsV L).length=2*L.length:=by
 induction L with
 |nil=>rfl
 |cons p r ih =>
  unfold endsV at ih ⊢
  rw[List.flatMap_cons,List.length_append,ih,List.length_cons]
  simp only[List.length_cons,List.length_nil]
  omega
theorem endsV_snoc(L:List Ve)(p:Ve):endsV (L++[p])=endsV L++[(p.1,p.2.1,(p.2.2.1,1)),(p.1,p.2.1,(p.2.2.2, -1))]:=by simp[endsV]
theorem endsV_mem{L:List Ve}{q:Ve}(h:q∈endsV L):∃p∈L,q.1=p.1∧q.2.1=p.2.1:=by
 obtain⟨p,hp,h⟩:=List.mem_flatMap.1 h
 simp only[List.mem_cons,List.not_mem_nil,or_false] at h
 rcases h with rfl|rfl<;>exact⟨p,hp,rfl,rfl⟩
def pkE(l:List Ed):Int:=if l.all mayPc then (if 4096<l.length then 7 else neE (endsE l)) else 2
def pkR(l:List Ed):List Ed:=if pkE l=0 then neR (endsE l) else []
theorem packEdges_c(L:List Ve)(hL:L.length≤4096)(v:Value)(w:World)(h:Ew w [] v L):Calls Tryz.prog 32 #[v] w fun e w'=>∃v' M,e= .returned (.tuple #[v', .int .i64 (pkE (eds L))])∧eds M=pkR (eds L)∧OwnEr w' w.heap.size v' M∧Ext w w':=by
 have hcc:=hide (containsPc_c L v w h)
 have hall:L.all (fun x:Ve=>mayPc x.2)=(eds L).all mayPc:=by simp[eds,List.all_map];rfl
 rw[hall] at hcc
 obtain⟨A,cap,rfl,hlc,hlm,hat⟩:=ew_form h
 unfold maxLen at hlm
 have hv:=hide h
 replace hat:=hide hat
 obtain⟨E,hE⟩:∃E,E=pkE (eds L):=⟨_,rfl⟩
 obtain⟨R,hR⟩:∃R,R=pkR (eds L):=⟨_,rfl⟩
 rw[←hE,←hR]
 unfold pkR at hR
 rw[←hE] at hR
 unfold pkE at hE
 clear h hall
 cases ha:(eds L).all mayPc
 ·rw[ha] at hcc hE
  rw[if_neg (by decide)] at hE
  subst hE
  replace hR:R=[]:=by rw[hR,if_neg (by decide)]
  replace hR:=hide hR
  clear hat
  go_enter Tryz.func32,Tryz.ntmps32
  go_wp2_with (go_at_call 70;(with_reducible refine seq_gw hcc.out ?_);intro g)
  go_returns
  exact⟨_,[],rfl,by rw[hR.out];rfl,OwnEr.nil _ _,g.grown⟩
 rw[ha] at hcc hE
 rw[if_pos rfl,if_neg (by simp[eds];omega)] at hE
 have hR2:Hid (R=neR (endsE (eds L))):=by
  show R=_
  rw[hR]
  split
  ·rfl
  ·rename_i h;rw[hE] at h;rw[neR_bad h]
 replace hE:=hide hE
 clear hR ha
 have hLI:(L.length:Int)≤4096:=by omega
 go_enter Tryz.func32,Tryz.ntmps32
 go_wp2_with (go_at_call 70;(with_reducible refine seq_gw hcc.out ?_);intro g)
 have hXg:=hide g.grown
 go_loopg [4,14] L.length (fun gh vv i wr=>∃(k:Nat),i= .int .i64 k∧k+gh=L.length∧OwnE wr w.heap.size vv (endsV (L.take k))∧Ext w wr)
 case atStart=>exact⟨0,rfl,by omega,World.ownsRow_nil _ _ _ _,hXg.out⟩
 case round =>
  obtain⟨k,rfl,hk,ho,hX⟩:=hrel
  clear hXg
  have hzX:=hX.size
  by_cases hlt:k<L.length
  ·obtain⟨x,hx⟩:∃x,L[k]? = some x:=⟨_,List.getElem?_eq_getElem hlt⟩
   obtain⟨b,o,rfl, -,hb,c0,c1,c2⟩:=hat.out k x hx
   have k0:=cell_later hX c0
   have k1:=cell_later hX c1
   have k2:=cell_later hX c2
   have hbr:b<wr.heap.size:=block_lt_of_cell k0
   have hrw:=Sl.ext (hv.out.2 x (List.mem_of_getElem? hx)) hX
   have hnx:=hide (show endsV (L.take (k+1))=endsV (L.take k)++[(x.1,x.2.1,(x.2.2.1,1)),(x.1,x.2.1,(x.2.2.2, -1))] by rw[List.take_add_one,hx,Option.toList_some,endsV_snoc])
   have hel:(endsV (L.take k)).length≤2*k:=by rw[endsV_len,List.length_take];omega
   obtain⟨xv,xq,xa,xn⟩:=x
   simp only at k0 k1 k2 hrw hnx
   have hrw2:=hide hrw
   obtain⟨XA,xcap,rfl⟩:=rw_val hrw
   obtain⟨Q,hQ⟩:∃Q,Q=endsV (L.take k):=⟨_,rfl⟩
   rw[←hQ] at ho hnx hel
   replace hQ:=hide hQ
   obtain⟨C,ccap,rfl⟩:=own_form ho
   have ho0:=hide ho
   clear c0 c1 c2 hat hx hrw hv ho
   have hone:=lit2 (.slice XA xq.length xcap) xq (xa,1) (xn, -1) (wr.alloc (.cells #[.slice XA xq.length xcap, .int .i64 xa, .int .i64 xn] 114)) (Sl.ext hrw2.out ((Ext.refl wr).alloc _))
   simp only[World.size_alloc] at hone
   replace hone:=hide hone
   have hX2:Ext wr ((wr.alloc (.cells #[.slice XA xq.length xcap, .int .i64 xa, .int .i64 xn] 114)).alloc (.cells #[.slice XA xq.length xcap, .int .i64 xa, .int .i64 1, .slice XA xq.length xcap, .int .i64 xn, .int .i64 (-1)] 131)):=((Ext.refl wr).alloc _).alloc _
   have e1:Q.length+2≤maxLen:=by unfold maxLen;omega
   have e2:(Q.length+2)*40≤140737488355328:=by omega
   have e3:=Nat.le_trans hX.size hX2.size
   replace e1:=hide e1
   replace e2:=hide e2
   replace e3:=hide e3
   have hsl:Sl _ [] 3 _ 2 _:=hone.out.1
   replace hsl:=hide hsl
   replace hX2:=hide hX2
   go_wp2_with (at_builtin;(refine wpl_app tEdg rfl (.tmp 18) (.tmp 31) rfl rfl (own_ext ho0.out hX2.out) rfl (src_sl Tryz.underlying69 hsl.out (Ew.one hone.out) (by omega)) e1.out e2.out e3.out ?_;intro v8 w8 ho8 hg8 hob8;have hX8:=hide (ext_grown (hX.trans hX2.out) hg8 (fun q hq=>(ho0.out.lt q hq).1))))
   go_roundg (L.length-(k+1))
   case measure=>omega
   case rel=>exact⟨k+1,by go_num,by omega,by rw[hnx.out];exact own_appE ho8,hX8.out⟩
  ·have hk':k=L.length:=by omega
   have hge:(L.length:Int)≤k:=by omega
   rw[hk',List.take_length] at ho
   replace hk':=hide hk'
   have hM:Ew wr [] u4 (endsV L):=⟨Sl.own ho (by simp),fun p hp=>by
    obtain⟨q,hq,e1,e2⟩:=endsV_mem hp
    rw[e1,e2]
    exact Sl.ext (hv.out.2 q hq) hX⟩
   have hn:=hide (edgeNorm_c (endsV L) (by rw[endsV_len];omega) (fun q=>Nat.le_trans (jmps_le _ q) (by rw[eds,List.length_map,endsV_len];omega)) u4 wr hM)
   rw[endsV_eds] at hn
   obtain⟨C,ccap,rfl⟩:=own_form ho
   clear hat hM ho hv
   go_wp2_with (go_at_call 61;refine hn.out.mono ?_;rintro ee w3 ⟨v3,M,rfl,hM,ho3,hX3⟩)
   go_returns
   exact⟨_,M,by rw[hE.out];rfl,by rw[hM,hR2.out],ho3.lower hzX,hX.trans hX3⟩
def ppE(l:List Ed):Int:=if pkE l=0 then pcE (pkR l) else pkE l
def ppR(l:List Ed):List Ed:=if pkE l=0 then pcR (pkR l) else []
theorem packPack_c(L:List Ve)(hL:L.length≤4096)(v:Value)(w:World)(h:Ew w [] v L):Calls Tryz.prog 69 #[v] w fun e w'=>∃v' M,e= .returned (.tuple #[v', .int .i64 (ppE (eds L))])∧eds M=ppR (eds L)∧OwnPr w' w.heap.size v' M∧Ext w w':=by
 have hc:=hide (packEdges_c L hL v w h)
 have hpp:ppE (eds L)=if pkE (eds L)=0 then pcE (pkR (eds L)) else pkE (eds L):=rfl
 have hpr:ppR (eds L)=if pkE (eds L)=0 then pcR (pkR (eds L)) else []:=rfl
 generalize ppE (eds L)=E2 at *
 generalize ppR (eds L)=R2 at *
 obtain⟨A,cap,rfl, -, -, -⟩:=ew_form h
 clear h
 by_cases hz:pkE (eds L)=0
 ·rw[if_pos hz] at hpp hpr
  rw[hz] at hc
  obtain⟨R,hR⟩:∃R,R=pkR (eds L):=⟨_,rfl⟩
  rw[←hR] at hc hpp hpr
  replace hpp:=hide hpp
  replace hpr:=hide hpr
  replace hz:=hide hz
  replace hR:=hide hR
  go_enter Tryz.func69,Tryz.ntmps69
  go_wp2_with (first|(go_at_call 32;refine hc.out.mono ?_;rintro ee w1 ⟨v1,M1,rfl,hM1,ho1,hx1⟩;have hpc:=hide (pieces_c M1 v1 w1 ho1.ew);rw[hM1] at hpc;obtain⟨A1,c1,rfl⟩:=own_form ho1.1;replace hM1:=hide hM1;replace ho1:=hide ho1)|(go_at_call 129;refine hpc.out.mono ?_;rintro ee w2 ⟨v2,M2,rfl,hM2,ho2,hx2⟩;obtain⟨A2,c2,rfl⟩:=own_form ho2.1;replace hM2:=hide hM2;replace ho2:=hide ho2))
  go_returns
  exact⟨_,M2,by rw[hpp.out];rfl,by rw[hpr.out,hM2.out],ho2.out.lower hx1.size,hx1.trans hx2⟩
 ·rw[if_neg hz] at hpp hpr
  have hne:(pkE (eds L) != 0)=true:=by simp[hz]
  generalize pkE (eds L)=E at *
  subst hpp
  replace hpr:=hide hpr
  replace hz:=hide hz
  go_enter Tryz.func69,Tryz.ntmps69
  go_wp2_with (go_at_call 32;refine hc.out.mono ?_;rintro ee w1 ⟨v1,M1,rfl,hM1,ho1,hx1⟩;obtain⟨A1,c1,rfl⟩:=own_form ho1.1;replace hM1:=hide hM1;replace ho1:=hide ho1)
  go_returns
  exact⟨_,[],rfl,by rw[hpr.out];rfl,OwnPr.nil _ _,hx1⟩
theorem tPcF:ElemT Tryz.prog 73 114 (.agg #[.slice none 0 0, .int .i64 0, .int .i64 0]) 3 40:=ElemT.mk' Tryz.underlying73 (by kernel_rfl) rfl (by omega)
def pcO(v:Value)(x:Ed):List Value:=[v, .int .i64 x.2.1, .int .i64 x.2.2]
abbrev OwnPx:=OwnX (α:=Ed) 114 3 pcO (fun x=>x.1)
def exP1(x:Ex):Ed:=(x.1.2,x.2)
def exP(l:List PM):List Ed:=((exL (runS (0,[]) l).2).filter fun x=> !goneX x).map exP1
theorem OwnPx.ew{w:World}{base:Nat}{v:Value}{N:List Ve}(h:OwnPx w base v N):Ew w [] v N:=⟨Sl.own h.1 (by simp),fun p hp=>(h.2 p hp).rw⟩
theorem pcO_one{UA:Option Addr}{ul uc:Nat}{x:Ed}:∀y∈pcO (.slice UA ul uc) x,y.oneCell'=true:=by
 intro y hy;simp[pcO] at hy;rcases hy with rfl|rfl|rfl<;>rfl
theorem exP_len(l:List PM):(exP l).length≤l.length:=by
 have h1:=runS_len l (0,[])
 have h2:=List.length_filter_le (fun x:Ex=> !goneX x) (exL (runS (0,[]) l).2)
 unfold exP
 rw[List.length_map]
 unfold exL at h2 ⊢
 rw[List.length_map] at h2
 simp only[List.length_nil,Nat.zero_add] at h1
 omega
theorem table_c(L:List Vm)(v:Value)(w:World)(hL:Mw w [] v L)(hin:∀p∈L,inM p.2)(hlen:L.length≤4096):Calls Tryz.prog 31 #[v] w fun e w'=>∃v' M,e= .returned (.tuple #[v', .int .i64 (ppE (exP (pms L)))])∧eds M=ppR (exP (pms L))∧OwnPr w' w.heap.size v' M∧Ext w w':=by
 have hev:=hide (events_c L v w hL hin (by omega))
 have hPl:=exP_len (pms L)
 obtain⟨P,hP⟩:∃P,P=exP (pms L):=⟨_,rfl⟩
 rw[←hP] at hPl ⊢
 have hpl:(pms L).length=L.length:=by simp[pms]
 rw[hpl] at hPl
 have hPe:P=((exL (runS (0,[]) (pms L)).2).filter fun x=> !goneX x).map exP1:=hP
 replace hP:=hide hP
 obtain⟨Ee,hEe⟩:∃Ee,Ee=ppE P:=⟨_,rfl⟩
 obtain⟨Rr,hRr⟩:∃Rr,Rr=ppR P:=⟨_,rfl⟩
 rw[←hEe,←hRr]
 replace hEe:=hide hEe
 replace hRr:=hide hRr
 obtain⟨LA,lc,rfl, -, -, -⟩:=mw_form hL
 clear hL hin
 replace hPe:=hide hPe
 go_enter Tryz.func31,Tryz.ntmps31
 go_wp2_with (go_at_call 68;(refine hev.out.mono ?_;rintro ee w1 ⟨v1,M,rfl,ho1,hM,hX1⟩;obtain⟨A1,c1,e1⟩:=ho1.form;subst e1;have hMP:=hide (show M.map (fun p=>exP1 p.2)=P by (rw [hPe.out,←hM,List.map_map];rfl));replace ho1:=hide ho1;replace hX1:=hide hX1;clear hM))
 have hMl:M.length≤4096:=by have:=congrArg List.length hMP.out;rw[List.length_map] at this;omega
 clear hev
 go_loopg [4,10] M.length (fun gh lv iv wr=>∃(k:Nat) (N:List Ve),iv= .int .i64 k∧k+gh=M.length∧N.length=k∧Hid (OwnPx wr w1.heap.size lv N)∧Hid (eds N=(M.take k).map fun p=>exP1 p.2)∧Ext w1 wr)
 case atStart=>exact⟨0,[],rfl,by omega,rfl,OwnX.nil _ _,rfl,Ext.refl _⟩
 case round =>
  obtain⟨k,N,rfl,hk,hNl,hN,hNe,hX⟩:=hrel
  have hzX:=hX.size
  by_cases hlt:k<M.length
  ·have hltI:(k:Int)<M.length:=by omega
   obtain⟨x,hx⟩:∃x,M[k]? = some x:=⟨_,List.getElem?_eq_getElem hlt⟩
   obtain⟨g,cap',PA,pc,e1, -,hgl,e2,q0,q1,q2,q3⟩:=own_evat (ho1.out.ext hX) hx
   cases e1
   haveI:In g wr:=⟨hgl⟩
   have hrx:=hide ((ho1.out.ext hX).2 x (List.mem_of_getElem? hx))
   have hnx:=hide (show eds N++[exP1 x.2]=(M.take (k+1)).map fun p=>exP1 p.2 by rw[hNe.out,take_one hx,List.map_append];rfl)
   obtain⟨xv,⟨xi,xr⟩,x1,x2⟩:=x
   simp only at e2 q0 q1 q2 q3 hrx
   subst e2
   have hsrc:=hide (show Sl ((wr.alloc (.cells #[.int .i64 xi, .slice PA xr.length pc, .int .i64 x1, .int .i64 x2] 59)).alloc (.cells (pcO (.slice PA xr.length pc) (xr,(x1,x2))).toArray 114)) [] 3 (.slice (some ⟨wr.heap.size+1,0,none⟩) 1 1) 1 (pcO (.slice PA xr.length pc) (xr,(x1,x2))) by
    have:=Sl.own (S:=[]) (World.ownsRow_lit (base:=(wr.alloc (.cells #[.int .i64 xi, .slice PA xr.length pc, .int .i64 x1, .int .i64 x2] 59)).heap.size) (e:=114) (size:=3) (wr.alloc (.cells #[.int .i64 xi, .slice PA xr.length pc, .int .i64 x1, .int .i64 x2] 59)) (pcO (.slice PA xr.length pc) (xr,(x1,x2))).toArray 1 (Nat.le_refl _) (by decide) rfl) (by simp)
    rw[World.size_alloc] at this
    exact this)
   have hXW:=hide (((Ext.refl wr).alloc (.cells #[.int .i64 xi, .slice PA xr.length pc, .int .i64 x1, .int .i64 x2] 59)).alloc (.cells (pcO (.slice PA xr.length pc) (xr,(x1,x2))).toArray 114))
   obtain⟨C,ccap,e3⟩:=hN.out.form
   subst e3
   clear hx
   go_wp2_with (at_builtin;(refine wpl_app tPcF rfl (.tmp 14) (.tmp 20) rfl rfl (hN.out.ext hXW.out).1 rfl (src_sl Tryz.underlying73 hsrc.out pcO_one (by omega)) (by unfold maxLen;omega) (by omega) (by simp only[World.size_alloc];omega) ?_;intro v8 w8 ho8 hg8 hob8;replace hg8:World.grownBy _ w8 (Value.slice C N.length ccap).ownBlock:=hg8;have hN8:=hide ((hN.out.ext hXW.out).app (M:=[((.slice PA xr.length pc),(xr,(x1,x2)))]) (by decide) (by simpa using ho8) hg8 (by intro p hp;rw[List.mem_singleton.1 hp];exact RwO.ext hrx.out hXW.out));have hX8:=hide (ext_grown (hX.trans hXW.out) hg8 (fun y hy=>((hN.out.ext hXW.out).1.lt y hy).1));skip))
   go_roundg (M.length-(k+1))
   case measure=>omega
   case rel=>exact⟨k+1,N++[((.slice PA xr.length pc),(xr,(x1,x2)))],by go_num,by omega,by rw[List.length_append,List.length_singleton,hNl],hN8,(by show _=_;rw[show eds (N++[((.slice PA xr.length pc),(xr,(x1,x2)))])=eds N++[(xr,(x1,x2))] by simp[eds]];exact hnx.out),hX8.out⟩
  ·have hke:k=M.length:=by omega
   have hge:(M.length:Int)≤k:=by omega
   have dk:decide ((k:Int)<M.length)=false:=decide_eq_false (by omega)
   have hpk:=packPack_c N (by omega) _ wr (OwnPx.ew hN.out)
   rw[hNe.out,hke,List.take_length,hMP.out,←hEe.out,←hRr.out] at hpk
   obtain⟨C,ccap,e3⟩:=hN.out.form
   subst e3
   have hXf:=hide (hX1.out.trans hX)
   have hz1:=hXf.out.size
   replace hpk:=hide hpk
   clear hN hNe ho1 hNl hke hpl hPl hMl hMP
   go_wp2_with (go_at_call 69;(refine hpk.out.mono ?_;rintro ee w9 ⟨v9,M9,rfl,hM9,ho9,hX9⟩;obtain⟨A9,c9,e9⟩:=own_form ho9.1;subst e9;replace hM9:=hide hM9;replace ho9:=hide ho9;replace hX9:=hide hX9))
   go_returns
   exact⟨_,M9,rfl,hM9.out,ho9.out.lower hz1,hXf.out.trans hX9.out⟩
end Go.Proofs.YtajelkkiijdegaaGreat
namespace Go.Proofs.YtajelkkiijdegaaGreat
open Go.RowKit
theorem rowsL_one(q:List Vl)(hq:mayR q=true)(J:List Jp)(hJ:J≠[]):rowsL (J.map fun j=>(q,j))=[q]:=by
 obtain⟨h1,h2⟩:=rowsL_ok (l:=J.map fun j=>(q,j)) (fun e he=>by obtain⟨j, -,rfl⟩:=List.mem_map.1 he;exact hq)
 refine asc_unique rlt_irr rlt_asym _ _ h1 (by simp) fun r=>?_
 rw[h2]
 constructor
 ·rintro⟨e,he,rfl⟩
  obtain⟨j, -,rfl⟩:=List.mem_map.1 he
  simp
 ·intro hr
  rw[List.mem_singleton.1 hr]
  cases J with
  |nil=>exact absurd rfl hJ
  |cons j J=>exact⟨(q,j),by simp,rfl⟩
theorem jmps_one(q:List Vl)(J:List Jp):jmps (J.map fun j=>(q,j)) q=J:=by
 induction J with
 |nil=>rfl
 |cons j J ih=>rw[List.map_cons,jmps_cons,if_pos rfl,ih]
theorem tell_len0(v:Int→Int):∀(ps:List Int) (was:Int),(tell v ps was).length≤ps.length
 |[],_=>Nat.le_refl _
 |p::r,was=>by
  have:=tell_len0 v r (v p)
  unfold tell
  split
  ·rw[List.length_cons];omega
  ·rw[List.length_cons,List.length_cons];omega
theorem tell_bound(v:Int→Int)(K:Int)(hv:∀p, -K≤v p∧v p≤K):∀(ps:List Int) (was:Int), -K≤was→was≤K→∀j∈tell v ps was, -(2*K)≤j.2∧j.2≤2*K
 |[],_,_,_,j,hj=>by cases hj
 |p::r,was,h1,h2,j,hj=>by
  have hp:=hv p
  unfold tell at hj
  split at hj
  ·exact tell_bound v K hv r (v p) hp.1 hp.2 j hj
  ·rcases List.mem_cons.1 hj with rfl|hj
   ·simp only;omega
   ·exact tell_bound v K hv r (v p) hp.1 hp.2 j hj
theorem ne_one(q:List Vl)(hq:mayR q=true)(J:List Jp)(hJ:∀j∈J,tooJ j=false∧nowJ j=false)(hm:mayJ (nmL J)=true):neE (J.map fun j=>(q,j))=0∧neR (J.map fun j=>(q,j))=(nmL J).map fun j=>(q,j):=by
 have a1:(J.map fun j=>(q,j)).any badE=false:=List.any_eq_false.2 fun e he=>by
  obtain⟨j,hj,rfl⟩:=List.mem_map.1 he
  unfold badE
  rw[hq,(hJ j hj).1];decide
 have a2:(J.map fun j=>(q,j)).any (fun e=>nowJ e.2)=false:=List.any_eq_false.2 fun e he=>by
  obtain⟨j,hj,rfl⟩:=List.mem_map.1 he
  simp only
  rw[(hJ j hj).2];decide
 have hE:nmE J=0:=by
  unfold nmE
  rw[List.any_eq_false.2 fun j hj=>by rw[(hJ j hj).1];decide,List.any_eq_false.2 fun j hj=>by rw[(hJ j hj).2];decide,if_neg (by decide),if_neg (by decide)]
  exact full_zero.2 hm
 have hR:nmR J=nmL J:=by unfold nmR;rw[if_pos hE]
 have hl:=mayJ_len hm
 by_cases hn:J=[]
 ·subst hn
  have e1:nmL []=[]:=by decide +kernel
  rw[e1]
  refine⟨?_,?_⟩
  ·show neE ([]:List Ed)=0
   decide +kernel
  ·show neR ([]:List Ed)=[]
   decide +kernel
 ·have hb:byRows (J.map fun j=>(q,j))=[(q,J)]:=by unfold byRows;rw[rowsL_one q hq J hn,List.map_singleton,jmps_one]
  have e1:evE nmOp [(q,J)]=0:=by
   unfold evE
   rw[show (nmOp J).1=0 from hE,if_pos rfl]
   rfl
  have e2:evL nmOp [(q,J)]=(nmL J).map fun j=>(q,j):=by
   unfold evL
   rw[List.flatMap_cons,List.flatMap_nil,List.append_nil]
   show ((nmR J).map fun j=>(q,j))=_
   rw[hR]
  have e3:eachE nmOp [(q,J)]=0:=by
   unfold eachE
   rw[e1,if_pos rfl,e2,if_neg (by rw[List.length_map];omega)]
  refine⟨by unfold neE;rw[a1,a2,if_neg (by decide),if_neg (by decide),hb,e3],?_⟩
  have h0:neE (J.map fun j=>(q,j))=0:=by unfold neE;rw[a1,a2,if_neg (by decide),if_neg (by decide),hb,e3]
  unfold neR
  rw[if_pos h0,hb]
  unfold eachR
  rw[if_pos e3,e2]
def chJ(o n:Spn):List Jp:=[(n.1,1),(n.2, -1),(o.1, -1),(o.2,1)]
def spanB(s:Spn):Bool:=smayB s.1 s.2
def lifeB(s:Spn):Bool:=spanB s || decide (s=(0,0))
theorem life_rng{s:Spn}(h:lifeB s=true):(0≤s.1∧s.1≤1125899906842624)∧0≤s.2∧s.2≤1125899906842624:=by
 unfold lifeB spanB smayB isTickB at h
 rcases Bool.or_eq_true_iff.1 h with h|h
 ·simp only[Bool.and_eq_true,decide_eq_true_iff] at h
  omega
 ·rw[of_decide_eq_true h];decide
theorem chJ_fine{o n:Spn}(ho:lifeB o=true)(hn:lifeB n=true):∀j∈chJ o n,tooJ j=false∧nowJ j=false:=by
 have h1:=life_rng ho
 have h2:=life_rng hn
 intro j hj
 unfold tooJ nowJ
 rw[decide_eq_false_iff_not,decide_eq_false_iff_not]
 simp only[chJ,List.mem_cons,List.not_mem_nil,or_false] at hj
 rcases hj with rfl|rfl|rfl|rfl<;>simp only<;>omega
theorem ch_may{o n:Spn}(ho:lifeB o=true)(hn:lifeB n=true):mayJ (nmL (chJ o n))=true:=by
 have hf:=fun j hj=>(chJ_fine ho hn j hj).2
 have hc:=nm_canon (chJ o n)
 rw[mayJ_iff]
 have hmem:=fun (j:Jp) (hj:j∈nmL (chJ o n))=>tell_mem (jv (chJ o n)) (plc [] (inF (chJ o n))) 0 j hj
 refine⟨?_,fun j hj=>?_,hc.1⟩
 ·have h1:=tell_len0 (jv (chJ o n)) (plc [] (inF (chJ o n))) 0
  have h2:=plc_length (inF (chJ o n)) [] Asc.nil'
  have h3:(inF (chJ o n)).length≤(chJ o n).length:=List.length_filter_le _ _
  have h4:(chJ o n).length=4:=rfl
  unfold nmL
  rw[List.length_nil] at h2
  omega
 ·rw[okJ_iff]
  obtain⟨p1,p2⟩:=hmem j hj
  have hlt:=nmL_lt _ hf j hj
  have hge: -1≤j.1:=by
   rw[plc_mem] at p1
   rcases p1 with p1|⟨k,hk,e⟩
   ·cases p1
   ·have:=hf k (List.mem_filter.1 hk).1
    unfold nowJ at this
    rw[decide_eq_false_iff_not] at this
    omega
  refine⟨hge,hlt,hc.2 j hj,?_⟩
  have hv:∀t, -4≤jv (chJ o n) t∧jv (chJ o n) t≤4:=fun t=>by
   have:=jv_bound (f:=chJ o n) (K:=1) (by decide) (fun k hk=>by
    simp only[chJ,List.mem_cons,List.not_mem_nil,or_false] at hk
    rcases hk with rfl|rfl|rfl|rfl<;>simp) t
   have h4:(chJ o n).length=4:=rfl
   rw[h4] at this
   omega
  have:=tell_bound (jv (chJ o n)) 4 hv (plc [] (inF (chJ o n))) 0 (by decide) (by decide) j hj
  omega
end Go.Proofs.YtajelkkiijdegaaGreat
namespace Go.Proofs.YtajelkkiijdegaaGreat
open Go.RowKit
attribute [local go_sem] GW.cell GW.frozen In.eq_true In.le_true In.ne In.ne' In.ne_add In.ne_add' In.lt_add Upto.le_true Upto.le_add Upto.lt_add
end Go.Proofs.YtajelkkiijdegaaGreat
namespace Go.Proofs.YtajelkkiijdegaaGreat
open Go.RowKit
def spj(S:List Sp):List Jp:=S.flatMap fun s=>[(s.1,1),(s.2, -1)]
theorem spj_cons(s:Sp)(S:List Sp):spj (s::S)=(s.1,1)::(s.2, -1)::spj S:=rfl
theorem spj_len(S:List Sp):(spj S).length=2*S.length:=by
 induction S with
 |nil=>rfl
 |cons s S ih=>rw[spj_cons,List.length_cons,List.length_cons,List.length_cons,ih];omega
theorem spj_mem{S:List Sp}{j:Jp}(h:j∈spj S):(∃s∈S,j=(s.1,1))∨(∃s∈S,j=(s.2, -1)):=by
 obtain⟨s,hs,h⟩:=List.mem_flatMap.1 h
 simp only[List.mem_cons,List.not_mem_nil,or_false] at h
 rcases h with h|h
 ·exact .inl ⟨s,hs,h⟩
 ·exact .inr ⟨s,hs,h⟩
def nt:List Jp→Int→Int
 |[],_=>0
 |j::r,p=>(if j.1=p then j.2 else 0)+nt r p
theorem jv_nt(f:List Jp)(p:Int):jv f p-jv f (p-1)=nt f p:=by
 induction f with
 |nil=>rfl
 |cons a r ih =>
  rw[jv,jv,nt,←ih]
  by_cases h1:a.1=p
  ·rw[if_pos (by omega),if_neg (by omega),if_pos h1];omega
  ·by_cases h2:a.1≤p-1
   ·rw[if_pos (by omega),if_pos h2,if_neg h1];omega
   ·rw[if_neg (by omega),if_neg h2,if_neg h1];omega
theorem nt_zero{f:List Jp}{p:Int}(h:∀j∈f,j.1≠p):nt f p=0:=by
 induction f with
 |nil=>rfl
 |cons a r ih=>rw[nt,if_neg (h a (by simp)),ih fun j hj=>h j (by simp[hj])];rfl
theorem nt_mem{f:List Jp}(h:Asc f){j:Jp}(hj:j∈f):nt f j.1=j.2:=by
 induction f with
 |nil=>cases hj
 |cons a r ih =>
  obtain⟨h1,h2⟩:=List.pairwise_cons.1 h
  rcases List.mem_cons.1 hj with rfl|hj
  ·rw[nt,if_pos rfl,nt_zero fun k hk=>by have:=h1 k hk;omega];omega
  ·rw[nt,if_neg (by have:=h1 j hj;omega),ih h2 hj];omega
theorem spj_nt(S:List Sp)(p:Int):nt (spj S) p=((S.map Prod.fst).count p:Int)-((S.map Prod.snd).count p:Int):=by
 induction S with
 |nil=>rfl
 |cons s S ih =>
  rw[spj_cons,nt,nt,ih,List.map_cons,List.map_cons,List.count_cons,List.count_cons]
  by_cases h1:s.1=p<;>by_cases h2:s.2=p<;>simp[h1,h2]<;>omega
theorem count_rep(n:Nat)(x p:Int):(List.replicate n x).count p=if x=p then n else 0:=by
 rw[List.count_replicate]
 by_cases h:x=p<;>simp[h]
theorem begL_cons(j:Jp)(f:List Jp):begL (j::f)=List.replicate j.2.toNat j.1++begL f:=by simp[begL]
theorem endL_cons(j:Jp)(f:List Jp):endL (j::f)=List.replicate (-j.2).toNat j.1++endL f:=by simp[endL]
theorem fun_nt(f:List Jp)(p:Int):nt f p=((begL f).count p:Int)-((endL f).count p:Int):=by
 induction f with
 |nil=>rfl
 |cons j f ih =>
  rw[nt,ih,begL_cons,endL_cons,List.count_append,List.count_append,count_rep,count_rep]
  by_cases h:j.1=p
  ·simp only[if_pos h];omega
  ·simp only[if_neg h];omega
theorem begL_mem{f:List Jp}{x:Int}(h:x∈begL f):∃j∈f,j.1=x∧0<j.2:=by
 obtain⟨j,hj,h⟩:=List.mem_flatMap.1 h
 obtain⟨h1,h2⟩:=List.mem_replicate.1 h
 exact⟨j,hj,h2.symm,by omega⟩
theorem endL_mem{f:List Jp}{x:Int}(h:x∈endL f):∃j∈f,j.1=x∧j.2<0:=by
 obtain⟨j,hj,h⟩:=List.mem_flatMap.1 h
 obtain⟨h1,h2⟩:=List.mem_replicate.1 h
 exact⟨j,hj,h2.symm,by omega⟩
theorem rep_le(n:Nat)(x:Int):(List.replicate n x).Pairwise (· ≤ ·):=by
 induction n with
 |zero=>exact List.Pairwise.nil
 |succ n ih =>
  rw[List.replicate_succ,List.pairwise_cons]
  exact⟨fun y hy=>by rw[(List.mem_replicate.1 hy).2];exact Int.le_refl _,ih⟩
theorem begL_sorted:∀ {f:List Jp},Asc f→(begL f).Pairwise (· ≤ ·)
 |[],_=>List.Pairwise.nil
 |j::f,h=>by
  obtain⟨h1,h2⟩:=List.pairwise_cons.1 h
  rw[begL_cons,List.pairwise_append]
  refine⟨rep_le _ _,begL_sorted h2,fun x hx y hy=>?_⟩
  obtain⟨k,hk,rfl, -⟩:=begL_mem hy
  have:=h1 k hk
  rw[(List.mem_replicate.1 hx).2]
  omega
theorem endL_sorted:∀ {f:List Jp},Asc f→(endL f).Pairwise (· ≤ ·)
 |[],_=>List.Pairwise.nil
 |j::f,h=>by
  obtain⟨h1,h2⟩:=List.pairwise_cons.1 h
  rw[endL_cons,List.pairwise_append]
  refine⟨rep_le _ _,endL_sorted h2,fun x hx y hy=>?_⟩
  obtain⟨k,hk,rfl, -⟩:=endL_mem hy
  have:=h1 k hk
  rw[(List.mem_replicate.1 hx).2]
  omega
theorem asc_inj{f:List Jp}(h:Asc f){j k:Jp}(hj:j∈f)(hk:k∈f)(e:j.1=k.1):j=k:=by
 have h1:=nt_mem h hj
 have h2:=nt_mem h hk
 rw[e] at h1
 exact Prod.ext e (h1.symm.trans h2)
theorem beg_end{f:List Jp}(h:Asc f){x y:Int}(hx:x∈begL f)(hy:y∈endL f):x≠y:=by
 rintro rfl
 obtain⟨j,hj,e1,p1⟩:=begL_mem hx
 obtain⟨k,hk,e2,p2⟩:=endL_mem hy
 have:=asc_inj h hj hk (e1.trans e2.symm)
 subst this
 omega
theorem count_len:∀l m:List Int,(∀p,l.count p≤m.count p)→l.length≤m.length
 |[],m,_=>by simp
 |x::l,m,h=>by
  have hx:x∈m:=List.count_pos_iff.1 (by have:=h x;simp at this;omega)
  have hl:=List.length_erase_of_mem hx
  have hp:0<m.length:=List.length_pos_of_mem hx
  have ih:=count_len l (m.erase x) fun p=>by
   have:=h p
   rw[List.count_cons] at this
   rw[List.count_erase]
   omega
  rw[List.length_cons]
  omega
theorem spL_fst:∀b e:List Int,(spL b e).map Prod.fst=b
 |[],_=>rfl
 |x::b,[]=>by rw[spL,List.map_cons,spL_fst b []]
 |x::b,y::e=>by rw[spL,List.map_cons,spL_fst b e]
theorem spL_snd:∀b e:List Int,e.length≤b.length→(spL b e).map Prod.snd=e++List.replicate (b.length-e.length) 1125899906842624
 |[],[],_=>rfl
 |[],y::e,h=>by simp at h
 |x::b,[],_=>by
  have:=spL_snd b [] (by simp)
  rw[spL,List.map_cons,this]
  simp[List.replicate_succ]
 |x::b,y::e,h=>by
  have:=spL_snd b e (by simpa using h)
  rw[spL,List.map_cons,this]
  simp
structure OkS (S:List Sp):Prop where
 fst:(S.map Prod.fst).Pairwise (· ≤ ·)
 snd:(S.map Prod.snd).Pairwise (· ≤ ·)
 rng:∀s∈S, -1≤s.1∧s.1<s.2∧s.2≤1125899906842624
 off:∀s∈S,∀u∈S,s.1≠u.2
def cle:List Int→Int→Int
 |[],_=>0
 |x::l,t=>(if x≤t then 1 else 0)+cle l t
theorem cle_append(l m:List Int)(t:Int):cle (l++m) t=cle l t+cle m t:=by
 induction l with
 |nil=>simp[cle]
 |cons a r ih=>simp only[List.cons_append,cle,ih];omega
theorem cle_rep(n:Nat)(x t:Int):cle (List.replicate n x) t=if x≤t then (n:Int) else 0:=by
 induction n with
 |zero=>simp[cle]
 |succ n ih =>
  rw[List.replicate_succ,cle,ih]
  split<;>omega
theorem cle_range(l:List Int)(t:Int):0≤cle l t∧cle l t≤l.length:=by
 induction l with
 |nil=>simp[cle]
 |cons a r ih=>rw[cle,List.length_cons];split<;>omega
theorem cle_all{l:List Int}{t:Int}(h:∀x∈l,x≤t):cle l t=l.length:=by
 induction l with
 |nil=>rfl
 |cons a r ih=>rw[cle,List.length_cons,if_pos (h a (by simp)),ih fun x hx=>h x (by simp[hx])];omega
theorem cle_none{l:List Int}{t:Int}(h:∀x∈l,t<x):cle l t=0:=by
 induction l with
 |nil=>rfl
 |cons a r ih=>rw[cle,if_neg (by have:=h a (by simp);omega),ih fun x hx=>h x (by simp[hx])];rfl
theorem fun_cle(f:List Jp)(t:Int):jv f t=cle (begL f) t-cle (endL f) t:=by
 induction f with
 |nil=>rfl
 |cons j f ih =>
  rw[jv,ih,begL_cons,endL_cons,cle_append,cle_append,cle_rep,cle_rep]
  split<;>omega
theorem spj_cle(S:List Sp)(t:Int):jv (spj S) t=cle (S.map Prod.fst) t-cle (S.map Prod.snd) t:=by
 induction S with
 |nil=>rfl
 |cons s S ih =>
  rw[spj_cons,jv,jv,ih,List.map_cons,List.map_cons,cle,cle]
  simp only
  split<;>split<;>omega
theorem cle_at{l:List Int}(h:l.Pairwise (· ≤ ·)){k:Nat}{y:Int}(hk:l[k]? = some y):(k:Int)+1≤cle l y:=by
 have hlt:k<l.length:=(List.getElem?_eq_some_iff.1 hk).1
 have e:=cle_append (l.take (k+1)) (l.drop (k+1)) y
 rw[List.take_append_drop] at e
 have h1:cle (l.take (k+1)) y=((l.take (k+1)).length:Int):=cle_all fun x hx=>by
  rw[List.take_add_one,hk] at hx
  rcases List.mem_append.1 hx with hx|hx
  ·have hp:=h
   rw[←List.take_append_drop k l] at hp
   refine (List.pairwise_append.1 hp).2.2 x hx y ?_
   exact List.mem_of_getElem? (i:=0) (by rw[List.getElem?_drop,Nat.add_zero];exact hk)
  ·simp at hx;subst hx;exact Int.le_refl _
 have h2:=(cle_range (l.drop (k+1)) y).1
 rw[List.length_take] at h1
 omega
theorem cle_before{l:List Int}(h:l.Pairwise (· ≤ ·)){k:Nat}{x y:Int}(hk:l[k]? = some x)(hy:y<x):cle l y≤k:=by
 have hlt:k<l.length:=(List.getElem?_eq_some_iff.1 hk).1
 have e:=cle_append (l.take k) (l.drop k) y
 rw[List.take_append_drop] at e
 have h1:=(cle_range (l.take k) y).2
 have h2:cle (l.drop k) y=0:=cle_none fun z hz=>by
  rw[List.drop_eq_getElem_cons hlt] at hz
  have hx:l[k]=x:=(List.getElem?_eq_some_iff.1 hk).2
  rcases List.mem_cons.1 hz with rfl|hz
  ·omega
  ·have hp:=h
   rw[←List.take_append_drop k l,List.drop_eq_getElem_cons hlt] at hp
   have:=(List.pairwise_cons.1 (List.pairwise_append.1 hp).2.1).1 z hz
   omega
 rw[List.length_take] at h1
 omega
theorem end_le{f:List Jp}(hm:mayJ f=true)(h0:0≤leV f):(endL f).length≤(begL f).length:=by
 have:=pre_ends hm h0 f.length
 rwa [List.take_length] at this
theorem life_ok{f:List Jp}(hm:mayJ f=true)(h0:0≤leV f):OkS (lifeL f):=by
 have hasc:=(mayJ_iff.1 hm).2.2
 have hat:=mayJ_at hm
 have hle:=end_le hm h0
 have hbs:=begL_sorted hasc
 have hes:=endL_sorted hasc
 have hb:∀x∈begL f, -1≤x∧x<1125899906842624:=fun x hx=>by obtain⟨j,hj,rfl, -⟩:=begL_mem hx;exact hat j hj
 have he:∀x∈endL f, -1≤x∧x<1125899906842624:=fun x hx=>by obtain⟨j,hj,rfl, -⟩:=endL_mem hx;exact hat j hj
 have hfs:(lifeL f).map Prod.fst=begL f:=spL_fst _ _
 have hsn:=spL_snd _ _ hle
 have hsn':(lifeL f).map Prod.snd=endL f++List.replicate ((begL f).length-(endL f).length) 1125899906842624:=hsn
 have hsm:∀s∈lifeL f,s.2∈endL f∨s.2=1125899906842624:=fun s hs=>by
  have:s.2∈(lifeL f).map Prod.snd:=List.mem_map_of_mem hs
  rw[hsn'] at this
  rcases List.mem_append.1 this with h|h
  ·exact .inl h
  ·exact .inr (List.mem_replicate.1 h).2
 have hfm:∀s∈lifeL f,s.1∈begL f:=fun s hs=>by
  have:s.1∈(lifeL f).map Prod.fst:=List.mem_map_of_mem hs
  rwa [hfs] at this
 have hoff:∀s∈lifeL f,∀u∈lifeL f,s.1≠u.2:=fun s hs u hu=>by
  rcases hsm u hu with h|h
  ·exact beg_end hasc (hfm s hs) h
  ·have:=(hb s.1 (hfm s hs)).2;omega
 refine⟨by rw[hfs];exact hbs,?_,fun s hs=>?_,hoff⟩
 ·rw[hsn',List.pairwise_append]
  refine⟨hes,rep_le _ _,fun x hx y hy=>?_⟩
  rw[(List.mem_replicate.1 hy).2]
  exact Int.le_of_lt (he x hx).2
 ·obtain⟨b1,b2⟩:=hb s.1 (hfm s hs)
  rcases hsm s hs with h|h
  ·refine⟨b1,?_,Int.le_of_lt (he s.2 h).2⟩
   obtain⟨i,hi⟩:=List.getElem?_of_mem hs
   have hbi:(begL f)[i]? = some s.1:=by rw[←hfs,List.getElem?_map,hi];rfl
   have hei:(endL f)[i]? = some s.2:=by
    have h1:=spL_get (begL f) (endL f) i s.1 hbi
    have h2:(spL (begL f) (endL f))[i]? = some s:=hi
    rw[h2] at h1
    have h3:s.2=((endL f)[i]?).getD 1125899906842624:=by have:=Option.some.inj h1;rw[this]
    rcases hq:(endL f)[i]? with _|y
    ·rw[hq] at h3;have:=(he s.2 h).2;simp at h3;omega
    ·rw[hq] at h3;simp at h3;rw[h3]
   have h3:=cle_at hes hei
   obtain⟨k,hk,e, -⟩:=endL_mem h
   have h4:=(leF_le f f (jv f (-1))).2 k hk
   have h5:0≤jv f s.2:=by
    rw[←e]
    unfold leV at h0
    rw[if_pos hm] at h0
    omega
   rw[fun_cle] at h5
   have hne:=hoff s hs s hs
   rcases Int.lt_trichotomy s.1 s.2 with h6|h6|h6
   ·exact h6
   ·exact absurd h6 hne
   ·have:=cle_before hbs hbi h6;omega
  ·exact⟨b1,by omega,by omega⟩
theorem okS_fine{S:List Sp}(h:∀s∈S, -1≤s.1∧s.1<s.2∧s.2≤1125899906842624):∀j∈spj S,tooJ j=false∧nowJ j=false:=fun j hj=>by
 unfold tooJ nowJ
 rw[decide_eq_false_iff_not,decide_eq_false_iff_not]
 rcases spj_mem hj with ⟨s,hs,rfl⟩|⟨s,hs,rfl⟩<;>(have:=h s hs;simp only;omega)
theorem nm_fine{g f:List Jp}(h:∀j∈g,tooJ j=false∧nowJ j=false)(e:nmL g=f)(hf:mayJ f=true):nmOp g=(0,f):=by
 have e1:nmE g=0:=by
  unfold nmE
  have a1:g.any tooJ=false:=List.any_eq_false.2 fun j hj=>by rw[(h j hj).1];decide
  have a2:g.any nowJ=false:=List.any_eq_false.2 fun j hj=>by rw[(h j hj).2];decide
  rw[a1,a2,if_neg (by decide),if_neg (by decide),e]
  exact full_zero.2 hf
 unfold nmOp nmR
 rw[e1,if_pos rfl,e]
theorem life_jv{f:List Jp}(hle:(endL f).length≤(begL f).length){t:Int}(ht:t<1125899906842624):jv (spj (lifeL f)) t=jv f t:=by
 have h1:(lifeL f).map Prod.fst=begL f:=spL_fst _ _
 have h2:(lifeL f).map Prod.snd=endL f++List.replicate ((begL f).length-(endL f).length) 1125899906842624:=spL_snd _ _ hle
 rw[spj_cle,fun_cle,h1,h2,cle_append,cle_rep,if_neg (by omega)];omega
theorem life_nm{f:List Jp}(hm:mayJ f=true)(h0:0≤leV f):nmOp (spj (lifeL f))=(0,f):=by
 have hfine:=okS_fine (life_ok hm h0).rng
 refine nm_fine hfine ?_ hm
 refine one_form (tell_canon _ _ _ (plc_asc _ _ Asc.nil')) (mayJ_canon hm) (nmL_lt _ fun j hj=>(hfine j hj).2) (fun j hj=>(mayJ_at hm j hj).2) fun t ht=>?_
 rw[nmL_val _ (fun j hj=>(hfine j hj).2) t ht,life_jv (end_le hm h0) ht]
theorem count_above{l:List Int}{p:Int}(h:∀x∈l,x<1125899906842624)(hp:1125899906842624≤p):l.count p=0:=by
 rw[List.count_eq_zero]
 intro hm
 have:=h p hm;omega
theorem nm_nt{S:List Sp}(hr:∀s∈S, -1≤s.1∧s.1<s.2∧s.2≤1125899906842624){p:Int}(hp:p<1125899906842624):((begL (nmL (spj S))).count p:Int)-((endL (nmL (spj S))).count p:Int)=((S.map Prod.fst).count p:Int)-((S.map Prod.snd).count p:Int):=by
 have hfine:=okS_fine hr
 rw[←fun_nt,←spj_nt,←jv_nt,←jv_nt,nmL_val _ (fun j hj=>(hfine j hj).2) p hp,nmL_val _ (fun j hj=>(hfine j hj).2) (p-1) (by omega)]
theorem nm_lt{S:List Sp}(hr:∀s∈S, -1≤s.1∧s.1<s.2∧s.2≤1125899906842624):∀j∈nmL (spj S),j.1<1125899906842624:=nmL_lt _ fun j hj=>(okS_fine hr j hj).2
theorem nm_asc(g:List Jp):Asc (nmL g):=(tell_canon _ _ _ (plc_asc _ _ Asc.nil')).1
theorem nm_off{g:List Jp}(p:Int):(begL (nmL g)).count p=0∨(endL (nmL g)).count p=0:=by
 by_cases h1:(begL (nmL g)).count p=0
 ·exact .inl h1
 ·right
  rw[List.count_eq_zero]
  intro h2
  have h3:p∈begL (nmL g):=List.count_pos_iff.1 (by omega)
  exact beg_end (nm_asc g) h3 h2 rfl
theorem nm_cnt{S:List Sp}(hr:∀s∈S, -1≤s.1∧s.1<s.2∧s.2≤1125899906842624):(lifeL (nmL (spj S))).length≤S.length:=by
 have e:(lifeL (nmL (spj S))).length=(begL (nmL (spj S))).length:=spL_length _ _
 rw[e,show S.length=(S.map Prod.fst).length by simp]
 refine count_len _ _ fun p=>?_
 by_cases hp:p<1125899906842624
 ·have h1:=nm_nt hr hp
  have h2:=nm_off (g:=spj S) p
  omega
 ·rw[count_above (fun x hx=>by obtain⟨j,hj,rfl, -⟩:=begL_mem hx;exact nm_lt hr j hj) (by omega)]
  omega
theorem jv_pos{S:List Sp}(hr:∀s∈S,s.1<s.2)(t:Int):0≤jv (spj S) t:=by
 induction S with
 |nil=>exact Int.le_refl _
 |cons s S ih =>
  have h1:=ih fun x hx=>hr x (by simp[hx])
  have h2:=hr s (by simp)
  rw[spj_cons,jv,jv]
  simp only
  split<;>split<;>omega
theorem leV_pos{f:List Jp}(h:∀t,t<1125899906842624→0≤jv f t)(hm:mayJ f=true):0≤leV f:=by
 unfold leV
 rw[if_pos hm]
 have key:∀(g:List Jp) (m:Int),0≤m→(∀j∈g,0≤jv f j.1)→0≤leF f m g:=by
  intro g
  induction g with
  |nil=>intro m h _;exact h
  |cons a r ih=>intro m h k;exact ih (min m (jv f a.1)) (by have:=k a (by simp);omega) fun j hj=>k j (by simp[hj])
 exact key f _ (h (-1) (by omega)) fun j hj=>h j.1 (mayJ_at hm j hj).2
theorem few_may{S:List Sp}(hr:∀s∈S, -1≤s.1∧s.1<s.2∧s.2≤1125899906842624)(hl:S.length≤512):mayJ (nmL (spj S))=true:=by
 have hlen:∀(v:Int→Int) (ps:List Int) (was:Int),(tell v ps was).length≤ps.length:=by
  intro v ps
  induction ps with
  |nil=>intro was;simp[tell]
  |cons p r ih =>
   intro was
   rw[tell]
   split
   ·have:=ih (v p);rw[List.length_cons];omega
   ·have:=ih (v p);rw[List.length_cons,List.length_cons];omega
 have hnt:∀p, -(S.length:Int)≤nt (spj S) p∧nt (spj S) p≤S.length:=fun p=>by
  rw[spj_nt]
  have h1:=List.count_le_length (a:=p) (l:=S.map Prod.fst)
  have h2:=List.count_le_length (a:=p) (l:=S.map Prod.snd)
  rw[List.length_map] at h1 h2
  omega
 have hfine:=okS_fine hr
 rw[mayJ_iff]
 refine⟨?_,fun j hj=>?_,nm_asc _⟩
 ·have h1:=hlen (jv (spj S)) (plc [] (inF (spj S))) 0
  have h2:=plc_length (inF (spj S)) [] Asc.nil'
  have h3:(inF (spj S)).length≤(spj S).length:=List.length_filter_le _ _
  rw[spj_len] at h3
  have h4:(nmL (spj S)).length≤(plc [] (inF (spj S))).length:=h1
  simp only[List.length_nil] at h2
  omega
 ·have h1:=nt_mem (nm_asc (spj S)) hj
  have h2:=nm_lt hr j hj
  have h3:=(tell_mem _ _ _ j hj)
  rw[←jv_nt,nmL_val _ (fun j hj=>(hfine j hj).2) _ h2,nmL_val _ (fun j hj=>(hfine j hj).2) _ (by omega),jv_nt] at h1
  have h4:=hnt j.1
  obtain⟨k,hk,e⟩:=(plc0_mem _ _).1 h3.1
  have h5: -1≤k.1:=by
   have hk':k∈spj S:=(List.mem_filter.1 hk).1
   rcases spj_mem hk' with ⟨s,hs,rfl⟩|⟨s,hs,rfl⟩<;>(have:=hr s hs;simp only;omega)
  rw[okJ_iff]
  exact⟨by omega,h2,h3.2,by omega,by omega⟩
end Go.Proofs.YtajelkkiijdegaaGreat
