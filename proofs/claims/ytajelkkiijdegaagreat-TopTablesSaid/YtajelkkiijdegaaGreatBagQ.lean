/-
  A helper of ours: no claim of its own. Layer 12 (bag): a table that is forgotten ahead of a tick; a bag's Forget, in the document's words.
-/
import Derived.Test.YtajelkkiijdegaaGreatEdgO
import Derived.Test.YtajelkkiijdegaaGreatEdgEa
import Derived.Test.YtajelkkiijdegaaGreatBagM
import Derived.Test.YtajelkkiijdegaaGreatValR
import Derived.Test.YtajelkkiijdegaaGreatEdgEr
set_option linter.unusedVariables false
set_option linter.unusedSimpArgs false
set_option linter.unusedSectionVars false
set_option maxHeartbeats 64000000
set_option maxRecDepth 100000
namespace Go.Proofs.YtajelkkiijdegaaGreat
open Go.RowKit
attribute [local go_sem] GW.cell GW.frozen In.eq_true In.le_true In.ne In.ne' In.ne_add In.ne_add' In.lt_add Upto.le_true Upto.le_add Upto.lt_add Oper.semAt_some wide_depth wide_fn
theorem edgeBuild_c(r:List Vl)(f:List Jp)(u v:Value)(w:World)(hr:Rw w [] u r)(hf:Jw w [] v f):Calls Tryz.prog 79 #[u,v] w fun e w'=>∃v' M,e= .returned v'∧eds M=(if mayR r && mayJ f then f.map (fun j=>(r,j)) else [])∧OwnEr w' w.heap.size v' M∧Ext w w':=by
 have h1:=hide (rowMay_c r u w hr)
 have h2:=hide (fun w' (hX:Ext w w')=>stepMay_c f v w' (Sl.ext hf hX))
 have hr':=hide hr
 have hf':=hide hf
 obtain⟨U,ucap,rfl⟩:=rw_val hr
 obtain⟨V,vcap,rfl, -, -, -⟩:=jw_form hf
 obtain⟨R,hR⟩:∃R,R=(if mayR r && mayJ f then f.map (fun j=>(r,j)) else []):=⟨_,rfl⟩
 rw[←hR]
 clear hr hf
 cases ha:mayR r
 ·rw[ha] at h1
  replace hR:=hide (show eds []=R by rw[hR,ha];rfl)
  go_enter Tryz.func79,Tryz.ntmps79
  go_wp2_with (go_at_call 55;(with_reducible refine seq_gw h1.out ?_);intro g)
  go_returns
  exact⟨_,[],rfl,hR.out,OwnEr.nil _ _,g.grown⟩
 rw[ha] at h1
 have hr8:=mayR_len ha
 cases hb:mayJ f
 ·rw[hb] at h2
  replace hR:=hide (show eds []=R by rw[hR,ha,hb];rfl)
  go_enter Tryz.func79,Tryz.ntmps79
  go_wp2_with (first|(go_at_call 55;(with_reducible refine seq_gw h1.out ?_);intro g)|(go_at_call 106;(with_reducible refine seq_gw' (h2.out _ g.grown) ?_);intro g2))
  go_returns
  exact⟨_,[],rfl,hR.out,OwnEr.nil _ _,g2.grown⟩
 rw[hb] at h2
 have hfl:=mayJ_len hb
 replace hR:=hide (show (f.map fun j=>(r,j))=R by rw[hR,ha,hb];rfl)
 go_enter Tryz.func79,Tryz.ntmps79
 go_wp2_with (first|(go_at_call 55;(with_reducible refine seq_gw h1.out ?_);intro g)|(go_at_call 106;(with_reducible refine seq_gw' (h2.out _ g.grown) ?_);intro g2)|(go_at_call 132;refine (edgesOf_c r f _ _ _ (Sl.ext hr'.out g2.grown) hr8 (Sl.ext hf'.out g2.grown) (by omega)).mono ?_;rintro ee w3 ⟨v3,M,rfl,hM,ho3,hX3⟩))
 go_returns
 exact⟨_,M,rfl,hM.trans hR.out,ho3.lower g2.grown.size,g2.grown.trans hX3⟩
end Go.Proofs.YtajelkkiijdegaaGreat
namespace Go.Proofs.YtajelkkiijdegaaGreat
open Go.RowKit
attribute [local go_sem] GW.cell GW.frozen In.eq_true In.le_true In.ne In.ne' In.ne_add In.ne_add' In.lt_add Upto.le_true Upto.le_add Upto.lt_add
theorem values_c(mb:Nat)(w:World):Calls Tryz.prog 77 #[.map (some mb)] w fun e w'=>e= .returned (.func (.func 136) #[] #[.pointer (some ⟨w.heap.size,0,none⟩)])∧Ob w' w.heap.size 116 [.map (some mb)]∧Ext w w':=by
 have o:=hide (Ob.new w 116 [.map (some mb)])
 go_enter Tryz.func77,Tryz.ntmps77
 go_wp2_with fail
 go_returns
 exact⟨rfl,o.out,(Ext.refl w).alloc _⟩
theorem collect_c(kf:List Vl→List UInt8)(S:List Nat)(mb n:Nat)(T:List Fe)(b:Nat)(w:World)(hM:Fm kf w S mb n T)(hb:Ob w b 116 [.map (some mb)])(hT:T.length≤1000000):Calls Tryz.prog 134 #[.func (.func 136) #[] #[.pointer (some ⟨b,0,none⟩)]] w fun e w'=>∃v' D,e= .returned v'∧D.Perm T∧OwnFs w' w.heap.size v' D∧Ext w w':=by
 have h1:=hide (appendSeq_c kf S mb n T b w hM hb hT)
 clear hM hb
 go_enter Tryz.func134,Tryz.ntmps134
 go_wp2_with (go_at_call 186;refine h1.out.mono ?_;rintro ee w1 ⟨v1,D,rfl,hD,ho,hX⟩;obtain⟨A1,c1,rfl⟩:=own_form ho;replace ho:=hide ho;replace hX:=hide hX;replace hD:=hide hD)
 go_returns
 exact⟨_,D,rfl,hD.out,ho.out,hX.out⟩
theorem feOk_of{w w':World}{S:List Nat}{X:List Ed}{mb n:Nat}{T:List Fe}(hM:Fm rowB w S mb n T)(hx:BagX T X)(hX:Ext w w')(S':List Nat)(hS:∀b∈S',w.heap.size≤b):∀p∈T,FeOk w' S' p:=fun p hp=>by
 obtain⟨h1,h2⟩:=hM.2 p hp
 obtain⟨A,c,e⟩:=rw_val h1
 obtain⟨B,d,e2, -⟩:=jw_form h2
 exact⟨Sl.ext (Sl.new h1 (fun b hb=> .inr (hS b hb))) hX,⟨A,_,c,e⟩,⟨B,_,d,e2⟩,(hx.row hp).1⟩
theorem sortedFunc_c(S:List Nat)(mb n:Nat)(T:List Fe)(X:List Ed)(b:Nat)(w:World)(hM:Fm rowB w S mb n T)(hx:BagX T X)(hb:Ob w b 116 [.map (some mb)])(hT:T.length≤1000000):Calls Tryz.prog 76 #[.func (.func 136) #[] #[.pointer (some ⟨b,0,none⟩)], .func (.func 78) #[] #[]] w fun e w'=>∃v' s,e= .returned v'∧s.Perm T∧s.map (·.2.2)=grp X∧OwnFs w' w.heap.size v' s∧Ext w w':=by
 have h1:=hide (collect_c rowB S mb n T b w hM hb hT)
 have hok:=hide (fun w' (hX:Ext w w') S' hS=>feOk_of hM hx hX S' hS)
 clear hM hb
 go_enter Tryz.func76,Tryz.ntmps76
 go_wp2_with (first|(go_at_call 134;refine h1.out.mono ?_;rintro ee w1 ⟨v1,D,rfl,hD,ho,hX⟩;have hobg:=ob_ge ho;obtain⟨A1,c1,rfl⟩:=own_form ho;have hsr:=hide (sortF_c w.heap.size D _ w1 ho (fun p hp=>hok.out w1 hX _ (fun k hk=>(hobg k hk).1) p (hD.mem_iff.1 hp)) (by have:=hD.length_eq;omega));have hobh:=hide hobg;clear ho hobg;replace hX:=hide hX;replace hD:=hide hD)|(go_at_call 135;refine hsr.out.mono ?_;rintro ee w2 ⟨rfl,s,hsD,hss,ho2,hF2⟩;replace hsD:=hide hsD;replace hss:=hide hss;replace ho2:=hide ho2;replace hF2:=hide hF2))
 go_returns
 exact⟨_,s,rfl,hsD.out.trans hD.out,sorted_grp hx (hsD.out.trans hD.out) hss.out,ho2.out,ext_fr hX.out hF2.out (fun y hy=>(hobh.out y hy).1)⟩
theorem fs_at{w:World}{base:Nat}{v:Value}{D:List Fe}(h:OwnFs w base v D){i:Nat}{p:Fe}(hp:D[i]? = some p):∃g cap,v= .slice (some ⟨g,0,none⟩) D.length cap∧g<w.heap.size∧w.cell? ⟨g,i*2,none⟩=some p.1∧w.cell? ⟨g,i*2+1,none⟩=some p.2.1:=by
 have hi:=(List.getElem?_eq_some_iff.1 hp).1
 rcases h.2 with ⟨_,h0⟩|⟨g,cap,cur,rfl,_⟩
 ·omega
 ·have c0:=h.cells (g:=g) rfl _ _ (fcs_get D i p hp 0 _ rfl)
  have c1:=h.cells (g:=g) rfl _ _ (fcs_get D i p hp 1 _ rfl)
  rw[add_plain,Nat.zero_add] at c0 c1
  exact⟨g,cap,rfl,block_lt_of_cell c0,c0,c1⟩
def idO(f:List Jp):Int×List Jp:=(0,f)
theorem evL_take{G:List Gp}{k:Nat}{g:Gp}(h:G[k]? = some g):evL idO (G.take (k+1))=evL idO (G.take k)++g.2.map fun j=>(g.1,j):=by
 rw[List.take_add_one,h,Option.toList_some,evL_snoc];rfl
theorem evL_pre(G:List Gp)(k:Nat):(evL idO (G.take k)).length≤(evL idO G).length:=by
 have:evL idO G=evL idO (G.take k)++evL idO (G.drop k):=by unfold evL;rw[←List.flatMap_append,List.take_append_drop]
 rw[this,List.length_append];omega
theorem bagEdges_c(B mb n:Nat)(mk:Int)(T:List Fe)(X:List Ed)(w:World)(h:Bg rowB w [B,mb] B mb n mk T)(hx:BagX T X):Calls Tryz.prog 35 #[.pointer (some ⟨B,0,none⟩)] w fun e w'=>∃v' M,e= .returned v'∧eds M=X∧OwnEr w' w.heap.size v' M∧Ext w w':=by
 have c1:=h.1.cell 1 rfl
 have hlt:=h.1.lt
 haveI:In B w:=⟨hlt⟩
 have hM:=hide h.2
 have hTl:T.length≤4096:=by
  have k:=hx.2.1.length_eq
  rw[List.length_map] at k
  have k2:=grp_len2 X
  have k3:=mayE_len hx.may
  omega
 have hvals:=hide (fun w'=>values_c mb w')
 have hsort:=hide (fun w' (hX:Ext w w') b (hb:Ob w' b 116 [.map (some mb)])=>sortedFunc_c [B,mb] mb n T X b w' ⟨h.2.1.kept (ext_by hX) (by simp),fun p hp=>⟨Sl.ext (h.2.2 p hp).1 hX,Sl.ext (h.2.2 p hp).2 hX⟩⟩ hx hb (by omega))
 have hXe:Hid (evL idO (grp X)=X):=grp_back X
 have hXl:=mayE_len hx.may
 have hx':=hide hx
 clear h
 go_enter Tryz.func35,Tryz.ntmps35
 go_wp2_with (first|(go_at_call 77;refine (hvals.out _).mono ?_;rintro ee w1 ⟨rfl,hb1,hX1⟩)|(go_at_call 76;refine (hsort.out _ hX1 _ hb1).mono ?_;rintro ee w2 ⟨v2,s,rfl,hsT,hsG,ho2,hX2⟩;obtain⟨A2,c2,rfl⟩:=own_form ho2;replace ho2:=hide ho2;have hXs:=hide (hX1.trans hX2);replace hX2:=hide hX2;replace hsT:=hide hsT;replace hsG:=hide hsG;have hsl:=hide hsT.out.length_eq;clear hb1))
 have hz1:=hX1.size
 have hz2:=hX2.out.size
 clear hvals hsort hX1
 have hsb:s.length≤4096:=by have:=hsl.out;omega
 go_loopg [3,15] s.length (fun gh lv i wr=>∃(k:Nat) (N:List Ve),i= .int .i64 k∧k+gh=s.length∧OwnEr wr w2.heap.size lv N∧Hid (eds N=evL idO ((grp X).take k))∧Ext w2 wr)
 case atStart=>exact⟨0,[],rfl,by omega,OwnEr.nil _ _,(by show _=_;simp[evL,eds]),Ext.refl _⟩
 case round =>
  obtain⟨k,N,rfl,hk,ho,hN,hX⟩:=hrel
  have hzX:=hX.size
  have hXw:=hide (hXs.out.trans hX)
  by_cases hlt2:k<s.length
  ·have hkI:(k:Int)<s.length:=by omega
   obtain⟨⟨v1,vj,q,f⟩,hp⟩:∃p,s[k]? = some p:=⟨_,List.getElem?_eq_getElem hlt2⟩
   have hpT:((v1,vj,q,f):Fe)∈T:=hsT.out.mem_iff.1 (List.mem_of_getElem? hp)
   have hg:(grp X)[k]? = some (q,f):=by rw[←hsG.out,List.getElem?_map,hp];rfl
   obtain⟨g,cap,e,hgl,d0,d1⟩:=fs_at (own_ext ho2.out hX) hp
   obtain⟨rfl, -,rfl⟩:=Value.slice.inj e
   simp only at d0 d1
   haveI:In g wr:=⟨hgl⟩
   obtain⟨hrw,hjw⟩:=hM.out.2 _ hpT
   simp only at hrw hjw
   have hrok:=hx'.out.row hpT
   have hfm:mayJ f=true:=(mayE_iff.1 hx'.out.may).2.2 _ (hx'.out.mem hpT)
   have hbd:=hide (fun w' (hX':Ext w w')=>edgeBuild_c q f v1 vj w' (Sl.ext (Sl.less hrw (S':=[]) (by simp)) hX') (Sl.ext (Sl.less hjw (S':=[]) (by simp)) hX'))
   rw[show (mayR q && mayJ f)=true by rw[show mayR q=true from hrok.1,hfm];rfl,if_pos rfl] at hbd
   have hnx:=hide (show eds N++f.map (fun j=>(q,j))=evL idO ((grp X).take (k+1)) by rw[evL_take hg,hN.out])
   have hle:=evL_pre (grp X) (k+1)
   rw[←hnx.out,hXe.out,List.length_append,List.length_map] at hle
   simp only[eds,List.length_map] at hle
   obtain⟨VA,vcap,rfl⟩:=rw_val hrw
   obtain⟨JA,jcap,rfl, -, -, -⟩:=jw_form hjw
   have hobg:=ob_ge ho.1
   have ho':=hide ho
   clear hp hpT hg hrw hjw hrok hfm e hN ho hobg
   go_wp2_with (first|(go_at_call 79;refine (hbd.out _ (hXw.out.alloc _)).mono ?_;rintro ee w5 ⟨v5,M,rfl,hMe,ho5,hX5⟩;have hz5:=hX5.size;simp only[World.size_alloc] at hz5;have hMl:=hide (show M.length=f.length from (by have:=congrArg List.length hMe;simpa [eds] using this));obtain⟨A5,c5,rfl⟩:=own_form ho5.1;have ho5':=hide ho5;have hXr5:=hide (((Ext.refl wr).alloc (.cells #[.slice VA q.length vcap, .slice JA f.length jcap] 124)).trans hX5);have hMe':=hide hMe;clear ho5 hX5 hMe)|(at_builtin;(refine wpl_app tEdg rfl (.tmp 19) (.tmp 24) rfl rfl (own_ext ho'.out.1 hXr5.out) rfl (src_sl Tryz.underlying69 ho5'.out.ew.1 (Ew.one ho5'.out.ew) (by omega)) (by have:=hMl.out;unfold maxLen;omega) (by have:=hMl.out;omega) (by omega) ?_;intro v7 w7 ho7 hg7 hv7;replace ho7:=own_appE ho7;obtain⟨P7,k7,e7⟩:=own_form ho7;subst e7)))
   go_roundg (s.length-(k+1))
   case measure=>omega
   case rel =>
    have hoE:=(ho'.out.ext hXr5.out).app ho7 hg7 hv7 (fun p hp=>⟨_,ho5'.out.2 p hp,fun y hy=>List.mem_append_right _ (List.mem_range.2 (by
     simp only[World.size_alloc]
     rcases List.mem_append.1 hy with hy|hy
     ·have:=(ob_ge ho'.out.1 y hy).2;omega
     ·have:=List.mem_range.1 hy;omega))⟩)
    rw[List.length_append] at hoE
    refine⟨k+1,N++M,by go_num,by omega,hoE,?_,ext_grown (hX.trans hXr5.out) hg7 (fun y hy=>(ob_ge ho'.out.1 y (Option.mem_toList.2 hy)).1)⟩
    show _=_
    rw[eds,List.map_append]
    have e5:M.map Prod.snd=f.map fun j=>(q,j):=hMe'.out
    rw[e5]
    exact hnx.out
  ·have hge:(s.length:Int)≤k:=by omega
   have hGl:(grp X).length=s.length:=by rw[←hsG.out,List.length_map]
   have hfin:=hN.out
   rw[List.take_of_length_le (by omega),hXe.out] at hfin
   obtain⟨P,cp,rfl⟩:=own_form ho.1
   have ho':=hide ho
   replace hfin:=hide hfin
   clear ho hN
   go_wp2_with fail
   go_returns
   exact⟨_,N,rfl,hfin.out,ho'.out.lower (by omega),hXw.out⟩
def baE(X:List Ed)(mk:Int)(l:List Ed):Int:=if mayE l then (if l.all (fun e=> !ltP mk e.2) then (if neE (X++l)=0 then (if tabE (neR (X++l)) then 0 else 20) else 7) else 16) else 2
theorem ne_room{X l:List Ed}(hX:mayE X=true)(hl:mayE l=true)(h0:∀g∈grp l,(addOne X g).1=0):neE (X++l)=if 4096<(evL nmOp (byRows (X++l))).length then 7 else 0:=by
 rcases up_err hX hl with ⟨h1, -,h3⟩|⟨h1,⟨g,hg,h2⟩|⟨-,h2⟩⟩
 ·rw[if_neg (by omega),h1]
 ·rw[h0 g hg] at h2;cases h2
 ·rw[if_pos h2,h1]
theorem lenT_le{U:List Fe}{c:Int}(h:∀p∈U,(p.2.2.2.length:Int)≤c):lenT U≤c*U.length:=by
 induction U with
 |nil=>simp[lenT]
 |cons p U ih =>
  have h1:=ih (fun q hq=>h q (List.mem_cons_of_mem _ hq))
  have h2:=h p (by simp)
  unfold lenT at *
  rw[List.map_cons,List.sum_cons,List.length_cons]
  have:c*((U.length+1:Nat):Int)=c*U.length+c:=by rw[Int.natCast_add,Int.mul_add];omega
  omega
theorem nm_len1{f:List Jp}(h:(nmOp f).1=0):(nmOp f).2.length≤1024:=by
 have hE:nmE f=0:=h
 show (nmR f).length≤1024
 unfold nmR
 rw[if_pos hE]
 unfold nmE at hE
 split at hE
 ·cases hE
 ·split at hE
  ·cases hE
  ·exact mayJ_len (full_zero.1 hE)
theorem bagAdd_s(K:List Nat)(L:List Ve)(B mb n:Nat)(mk:Int)(T:List Fe)(X:List Ed)(v:Value)(w:World)(hC:Ew w [] v L)(hin:edsIn (eds L))(h:Bg rowB w (B::mb::K) B mb n mk T)(hx:BagX T X)(hBm:B≠mb)(hn:n≤900000000)(hK:∀x∈K,∃T vs,Ob w x T vs∧T≠83):Calls Tryz.prog 30 #[.pointer (some ⟨B,0,none⟩),v] w fun e w'=>e= .returned (.int .i64 (baE X mk (eds L))) ∧
 ((baE X mk (eds L)≠0∧Ext w w')∨(baE X mk (eds L)=0∧∃T' n',Bg rowB w' (B::mb::K) B mb n' mk T'∧n'≤n+4096∧BagX T' (neR (X++eds L))∧Fr [mb] w w')):=by
 have h1:=hide (fun w' (hX:Ext w w')=>edgeMay_c L v w' (hC.ext hX))
 have h2:=hide (fun w' (hX:Ext w w')=>containsLate_c rowB (B::mb::K) B mb n mk T L v w' (h.ext hX) (hC.ext hX))
 have h3:=hide (fun (hm:mayE (eds L)=true) w' (hX:Ext w w')=>bagSums_s K L B mb n mk T v w' (hC.ext hX) hm hin (h.ext hX) hBm (fun x hx=>by obtain⟨T9,vs9,o9,n9⟩:=hK x hx;exact⟨T9,vs9,o9.ext hX,n9⟩))
 have hall:(eds L).all (fun e=> !ltP mk e.2)=L.all (fun x:Ve=> !ltP mk x.2.2):=by rw[eds,List.all_map];rfl
 have hX0:=hide (Ext.refl w)
 have hBg:=hide h
 obtain⟨A,cap,rfl, -, -, -⟩:=ew_form hC
 clear hC h
 obtain⟨E,hE⟩:∃E,E=baE X mk (eds L):=⟨_,rfl⟩
 rw[←hE]
 unfold baE at hE
 rw[hall] at hE
 cases hm:mayE (eds L)
 ·rw[hm] at h1 hE
  rw[if_neg (by decide)] at hE
  subst hE
  clear h2 h3
  go_enter Tryz.func30,Tryz.ntmps30
  go_wp2_with (go_at_call 62;first|((with_reducible refine seq_gw' (h1.out _ hX0.out) ?_);intro g)|((with_reducible refine seq_gw (h1.out _ hX0.out) ?_);intro g))
  go_returns
  exact⟨rfl, .inl ⟨by decide,g.grown⟩⟩
 rw[hm] at h1 hE
 rw[if_pos rfl] at hE
 cases hl:L.all (fun x:Ve=> !ltP mk x.2.2)
 ·rw[hl] at h2 hE
  rw[if_neg (by decide)] at hE
  subst hE
  clear h3
  go_enter Tryz.func30,Tryz.ntmps30
  go_wp2_with (first|(go_at_call 62;first|((with_reducible refine seq_gw' (h1.out _ hX0.out) ?_);intro g)|((with_reducible refine seq_gw (h1.out _ hX0.out) ?_);intro g))|(go_at_call 63;first|((with_reducible refine seq_gw' (h2.out _ g.grown) ?_);intro g2)|((with_reducible refine seq_gw (h2.out _ g.grown) ?_);intro g2)))
  go_returns
  exact⟨rfl, .inl ⟨by decide,g2.grown⟩⟩
 rw[hl] at h2 hE
 rw[if_pos rfl] at hE
 have hs:=hide (h3.out hm)
 replace hE:=hide hE
 have hm':=hide hm
 clear h3 hl hall
 go_enter Tryz.func30,Tryz.ntmps30
 go_wp2_with (first|(go_at_call 62;first|((with_reducible refine seq_gw' (h1.out _ hX0.out) ?_);intro g)|((with_reducible refine seq_gw (h1.out _ hX0.out) ?_);intro g))|(go_at_call 63;first|((with_reducible refine seq_gw' (h2.out _ g.grown) ?_);intro g2)|((with_reducible refine seq_gw (h2.out _ g.grown) ?_);intro g2))|(go_at_call 65;refine (hs.out _ g2.grown).mono ?_;rintro ee w3 (⟨h0,mN,U,rfl,hU,hNb,hNB,hUp,hX3⟩|⟨q,hq,hq0,rfl,hX3⟩)))
 ·have hz:∀g∈grp (eds L),(addOne X g).1=0:=fun g hg=>by rw[←sum_one hx hm'.out hin hg];exact h0 g hg
  have hne:=ne_room hx.may hm'.out hz
  have hXw:=hide (g2.grown.trans hX3)
  have hB3:=hBg.out.ext hXw.out
  have hlen:=szW_x hx hm'.out hin hUp
  have hUl:U.length≤4096:=by
   have k:=hUp.length_eq
   rw[List.length_map,List.length_map] at k
   have k2:=grp_len2 (eds L)
   have k3:=mayE_len hm'.out
   omega
  have hT6:lenT T≤1000000:=by rw[lenT_x hx];have:=mayE_len hx.may;omega
  have hU6:lenT U≤1000000000:=by
   have k:=lenT_le (U:=U) (c:=1024) (fun p hp=>by
    obtain⟨q,hq,e⟩:=u_mem hUp hp
    have k1:=sum_one hx hm'.out hin hq
    have k2:p.2.2.2=(addOne X q).2:=by rw[e,←k1]
    rw[k2]
    have:=nm_len1 (f:=jmps X q.1++q.2) (hz q hq)
    have e2:(addOne X q).2=(nmOp (jmps X q.1++q.2)).2:=rfl
    rw[e2];omega)
   omega
  have hAt:∀p∈U,lenAt rowB T p≤1000000:=fun p hp=>by
   obtain⟨k1, -⟩:=u_row hx hm'.out hin hUp hp
   rw[lenAt_x,jmpAt_x hx (rows_ok hm'.out hin k1)]
   have:=mayJ_len (mayJ_rows hx.may p.2.2.1)
   omega
  have hsz:=hide (fun w' (hX:Ext w3 w')=>bagSize_c rowB (B::mb::K) B mb n mN U.length mk T U hT6 hU6 hAt (by omega) w' (hB3.ext hX) ⟨hU.1.kept (ext_by hX) (by simp),fun p hp=>⟨Sl.ext (hU.2 p hp).1 hX,Sl.ext (hU.2 p hp).2 hX⟩⟩)
  have hbl:=hide (fun w' (hX:Ext w3 w')=>areBelow_c rowB (B::mb::K) mN U.length U w' ⟨hU.1.kept (ext_by hX) (by simp),fun p hp=>⟨Sl.ext (hU.2 p hp).1 hX,Sl.ext (hU.2 p hp).2 hX⟩⟩)
  have hpt:=hide (fun w' (hX:Ext w3 w')=>bagPut_c rowB (B::mb::K) B mb n mN U.length mk T U (by omega) (Ne.symm hNb) w' (hB3.ext hX) hBm ⟨hU.1.kept (ext_by hX) (by simp),fun p hp=>⟨Sl.ext (hU.2 p hp).1 hX,Sl.ext (hU.2 p hp).2 hX⟩⟩)
  have hX00:=hide (Ext.refl w3)
  rw[hlen] at hsz
  obtain⟨z,hzz⟩:∃z,z=(evL nmOp (byRows (X++eds L))).length:=⟨_,rfl⟩
  rw[←hzz] at hsz hne
  have hU':=hide hU
  have hB3':=hide hB3
  clear hU6 hAt hT6 hlen hzz hU hB3 hX3 hz h0
  by_cases hfull:4096<z
  ·rw[if_pos hfull] at hne
   have hE7:E=7:=by rw[hE.out,if_neg (by omega)]
   subst hE7
   have dz:decide ((4096:Int)<z)=true:=decide_eq_true (by omega)
   clear hne hbl hpt
   go_wp2_with (go_at_call 66;first|((with_reducible refine seq_gw' (hsz.out _ hX00.out) ?_);intro g4)|((with_reducible refine seq_gw (hsz.out _ hX00.out) ?_);intro g4))
   go_returns
   exact⟨rfl, .inl ⟨by decide,hXw.out.trans g4.grown⟩⟩
  ·rw[if_neg hfull] at hne
   have dz:decide ((4096:Int)<z)=false:=decide_eq_false (by omega)
   have hb:=belT_x hx hm'.out hin hUp hne
   have hE2:E=if tabE (neR (X++eds L)) then 0 else 20:=by rw[hE.out,if_pos hne]
   cases ht:tabE (neR (X++eds L))
   ·rw[ht] at hb hE2
    rw[if_neg (by decide)] at hE2
    subst hE2
    rw[hb] at hbl
    clear hne hpt hb
    go_wp2_with (first|(go_at_call 66;first|((with_reducible refine seq_gw' (hsz.out _ hX00.out) ?_);intro g4)|((with_reducible refine seq_gw (hsz.out _ hX00.out) ?_);intro g4))|(go_at_call 67;first|((with_reducible refine seq_gw' (hbl.out _ g4.grown) ?_);intro g5)|((with_reducible refine seq_gw (hbl.out _ g4.grown) ?_);intro g5)))
    go_returns
    exact⟨rfl, .inl ⟨by decide,hXw.out.trans g5.grown⟩⟩
   ·have hnew:=hide (upd_x hx hm'.out hin hUp hne ht)
    rw[ht] at hb hE2
    rw[if_pos rfl] at hE2
    subst hE2
    rw[hb] at hbl
    clear hne hb
    go_wp2_with (first|(go_at_call 66;first|((with_reducible refine seq_gw' (hsz.out _ hX00.out) ?_);intro g4)|((with_reducible refine seq_gw (hsz.out _ hX00.out) ?_);intro g4))|(go_at_call 67;first|((with_reducible refine seq_gw' (hbl.out _ g4.grown) ?_);intro g5)|((with_reducible refine seq_gw (hbl.out _ g4.grown) ?_);intro g5))|(go_at_call 59;refine (hpt.out _ g5.grown).mono ?_;rintro ee w6 ⟨rfl,hM6,hF6⟩))
    go_returns
    have hsub:∀y,y∈[mb]→y∈(B::mb::K):=fun y hy=>by simp only[List.mem_singleton] at hy;subst hy;simp
    have hF3:Fr [mb] w3 w6:=(Fr.of_ext g5.grown).trans hF6
    have hF0:Fr [mb] w w6:=(Fr.of_ext hXw.out).trans hF3
    refine⟨rfl,_,_,⟨hBg.out.1.fr hF0 (by simp;exact hBm),hM6,fun p hp=>?_⟩,by omega,hnew.out,hF0⟩
    unfold updT at hp
    rcases List.mem_append.1 hp with hp|hp
    ·have:=hBg.out.2.2 p (List.mem_filter.1 hp).1
     exact⟨Sl.fr this.1 hF0 hsub,Sl.fr this.2 hF0 hsub⟩
    ·have:=hU'.out.2 p (List.mem_filter.1 hp).1
     exact⟨Sl.fr this.1 hF3 hsub,Sl.fr this.2 hF3 hsub⟩
 ·have k1:=sum_one hx hm'.out hin hq
  have k2:sumE T q=7:=by
   have k3:(addOne X q).1=sumE T q:=by rw[←k1]
   rcases one_err hx.may hm'.out hq with k|k
   ·rw[k3] at k;exact absurd k hq0
   ·rw[k3] at k;exact k
  have hne:neE (X++eds L)≠0:=fun hc=>by
   rcases up_err hx.may hm'.out with ⟨-,k, -⟩|⟨k, -⟩
   ·have:=k q hq
    rw[←k1] at this
    exact hq0 this
   ·rw[k] at hc;cases hc
  have hE7:E=7:=by rw[hE.out,if_neg hne]
  subst hE7
  rw[k2]
  have hXw:=hide (g2.grown.trans hX3)
  clear hX3 k1 k2 hne
  go_wp2_with fail
  go_returns
  exact⟨rfl, .inl ⟨by decide,hXw.out⟩⟩
end Go.Proofs.YtajelkkiijdegaaGreat
namespace Go.Proofs.YtajelkkiijdegaaGreat
open Go.RowKit
theorem reR_may{f:List Jp}{t:Int}(h:reE f t=0):mayJ f=true∧mayJ (reR f t)=true:=by
 obtain⟨h1,h2⟩:=reE_zero.1 h
 unfold reR
 rw[if_pos h]
 exact⟨h1,h2⟩
theorem atV_jv{f:List Jp}(h:mayJ f=true)(p:Int):atV f p=jv f p:=by unfold atV;rw[h];rfl
theorem jv_below{f:List Jp}(h:mayJ f=true){p:Int}(hp:p < -1):jv f p=0:=jv_low fun j hj=>by have:=(mayJ_at h j hj).1;omega
theorem jv_stay{f:List Jp}{p:Int}(h:∀j∈f,j.1≠p):jv f p=jv f (p-1):=by
 induction f with
 |nil=>rfl
 |cons a r ih =>
  rw[jv,jv,ih (fun j hj=>h j (List.mem_cons_of_mem _ hj))]
  have:=h a (by simp)
  congr 1
  by_cases h1:a.1≤p
  ·rw[if_pos h1,if_pos (by omega)]
  ·rw[if_neg h1,if_neg (by omega)]
theorem leF_iff(f:List Jp):∀(g:List Jp) (m:Int),0≤leF f m g↔0≤m∧∀j∈g,0≤jv f j.1
 |[],m=>by simp[leF]
 |a::g,m=>by
  have ih:=leF_iff f g (min m (jv f a.1))
  have e:leF f m (a::g)=leF f (min m (jv f a.1)) g:=by simp[leF]
  rw[e,ih]
  constructor
  ·rintro⟨h1,h2⟩
   refine⟨by omega,fun j hj=>?_⟩
   rcases List.mem_cons.1 hj with rfl|hj
   ·omega
   ·exact h2 j hj
  ·rintro⟨h1,h2⟩
   exact⟨by have:=h2 a (by simp);omega,fun j hj=>h2 j (List.mem_cons_of_mem _ hj)⟩
theorem le_iff{f:List Jp}(h:mayJ f=true):0≤leV f↔∀p, -1≤p→0≤jv f p:=by
 unfold leV
 rw[if_pos h,leF_iff]
 constructor
 ·rintro⟨h1,h2⟩
  have key:∀n:Nat,0≤jv f ((n:Int)-1):=by
   intro n
   induction n with
   |zero=>exact h1
   |succ n ih =>
    by_cases hj:∃j∈f,j.1=((n+1:Nat):Int)-1
    ·obtain⟨j,hj,e⟩:=hj
     rw[←e];exact h2 j hj
    ·rw[jv_stay (fun j hj' e=>hj ⟨j,hj',e⟩)]
     have:((n+1:Nat):Int)-1-1=(n:Int)-1:=by omega
     rw[this];exact ih
  intro p hp
  have:=key (p+1).toNat
  rwa [show (((p+1).toNat:Nat):Int)-1=p by omega] at this
 ·intro k
  exact⟨k _ (Int.le_refl _),fun j hj=>k _ (mayJ_at h j hj).1⟩
theorem le_re{f:List Jp}{t:Int}(h0:0≤t)(ht:t<1125899906842624)(hf:reE f t=0)(hl:0≤leV f):0≤leV (reR f t):=by
 obtain⟨hfm,hFm⟩:=reR_may hf
 rw[le_iff hFm]
 rw[le_iff hfm] at hl
 intro p hp
 rw[←atV_jv hFm]
 by_cases hpt:p<t
 ·rw[re_left hf hpt hp ht,atV_jv hfm];exact hl _ (by omega)
 ·rw[re_right hf (by omega) h0 ht,atV_jv hfm];exact hl p hp
theorem reC_len(f:List Jp)(t:Int):(reC f t).length≤f.length:=by
 have e:=congrArg List.length (cut_eq f t)
 rw[List.length_append] at e
 unfold reC
 split
 ·rename_i h
  have:cutL f t≠[]:=fun h'=>h (by rw[h'];rfl)
  have:=List.length_pos_iff.2 this
  rw[List.length_cons];omega
 ·omega
theorem reR_len{f:List Jp}{t:Int}(ht:t<1125899906842624)(hf:reE f t=0):(reR f t).length≤f.length:=by
 unfold reR
 rw[if_pos hf,←rest_code (reE_zero.1 hf).1 t ht]
 exact reC_len f t
def foX(X:List Ed)(t:Int):List Ed:=evL (reOp t) (byRows X)
theorem reR_nil{t:Int}(ht:t<1125899906842624):reE [] t=0∧reR [] t=[]:=by
 have h1:mayJ []=true:=by decide
 have h2:reL [] t=[]:=by rw[←rest_code h1 t ht];simp[reC,cutL,cutR,js]
 have h3:reE [] t=0:=reE_zero.2 ⟨h1,by rw[h2];exact h1⟩
 exact⟨h3,by unfold reR;rw[if_pos h3,h2]⟩
theorem sum_leI{α:Type}(f g:α→Int):∀(l:List α),(∀x∈l,f x≤g x)→(l.map f).sum≤(l.map g).sum
 |[],_=>by simp
 |a::l,h=>by
  have:=sum_leI f g l (fun x hx=>h x (List.mem_cons_of_mem _ hx))
  have:=h a (by simp)
  rw[List.map_cons,List.map_cons,List.sum_cons,List.sum_cons];omega
section
variable {X:List Ed} {t:Int} (hX:mayE X=true) (ht:t<1125899906842624) (h:∀r,reE (jmps X r) t=0)
include hX ht h
theorem fo_row(r:List Vl):jmps (foX X t) r=reR (jmps X r) t:=jmps_each (op:=reOp t) (reR_nil ht).2 (mayE_rise hX).1 r
theorem fo_may:mayE (foX X t)=true:=by
 refine may_each (op:=reOp t) (reR_nil ht).2 (mayE_rise hX).1 ?_ fun r=>(reR_may (h r)).2
 have h1:=ev_lenI (reOp t) X
 have h2:=len_rowsI hX
 have h3:=sum_leI (fun r=>(((reOp t) (jmps X r)).2.length:Int)) (fun r=>((jmps X r).length:Int)) (rowsL X) (fun r _=>by
  have:=reR_len ht (h r)
  show ((reR (jmps X r) t).length:Int)≤_
  omega)
 have h4:=mayE_len hX
 omega
theorem fo_tab(h0:0≤t)(hT:tabE X=true):tabE (foX X t)=true:=by
 rw[tabE_rows (fo_may hX ht h),List.all_eq_true]
 intro r _
 rw[decide_eq_true_iff,fo_row hX ht h]
 refine le_re h0 ht (h r) ?_
 by_cases hr:r∈rowsL X
 ·rw[tabE_rows hX] at hT
  have:=List.all_eq_true.1 hT r hr
  rwa [decide_eq_true_iff] at this
 ·rw[row_none hX hr];decide
theorem fo_in(hi:edsIn X):edsIn (foX X t):=by
 intro e he x hx
 have hr:e.1∈rowsL (foX X t):=((rowsL_ok (mayE_rise (fo_may hX ht h)).1).2 _).2 ⟨e,he,rfl⟩
 rw[mem_rows (mayE_rise (fo_may hX ht h)).1,fo_row hX ht h] at hr
 refine (rows_ok hX hi ((mem_rows (mayE_rise hX).1 _).2 fun hz=>?_)).2 x hx
 rw[hz,(reR_nil ht).2] at hr
 exact hr rfl
theorem fo_upd{T U:List Fe}(h0:0≤t)(hx:BagX T X)(hU:(U.map (·.2.2)).Perm (T.map fun p=>restG t p.2.2)):BagX (updT rowB T U) (foX X t):=by
 refine⟨fo_tab hX ht h h0 hx.1,?_,fo_in hX ht h hx.2.2⟩
 have hUg:(U.map (·.2.2)).Perm ((grp X).map (restG t)):=by
  refine hU.trans ?_
  have e:(T.map fun p=>restG t p.2.2)=(T.map (·.2.2)).map (restG t):=by rw[List.map_map];rfl
  rw[e]
  exact hx.2.1.map _
 have hnone:(T.filter fun q=> !U.any fun p=>(fent rowB q).1.sameKey (fent rowB p).1)=[]:=by
  rw[List.filter_eq_nil_iff]
  intro p hp
  have hm:restG t p.2.2∈U.map (·.2.2):=hU.mem_iff.2 (List.mem_map.2 ⟨p,hp,rfl⟩)
  obtain⟨u,hu,e⟩:=List.mem_map.1 hm
  have hr:u.2.2.1=p.2.2.1:=by rw[e];rfl
  have:(U.any fun q=>(fent rowB p).1.sameKey (fent rowB q).1)=true:=List.any_eq_true.2 ⟨u,hu,by rw[same_ent,hr];simp⟩
  rw[this];decide
 have hUn:(U.map (·.2.2.1)).Nodup:=by
  have e:U.map (·.2.2.1)=(U.map (·.2.2)).map Prod.fst:=by rw[List.map_map];rfl
  rw[e]
  refine ((hUg.map Prod.fst).nodup_iff).2 ?_
  rw[List.map_map]
  exact grp_nodup hX
 unfold updT
 rw[hnone,List.nil_append]
 refine (List.perm_ext_iff_of_nodup ?_ ?_).2 fun g=>?_
 ·refine nodup_of_map Prod.fst ?_
  rw[List.map_map]
  exact (List.filter_sublist.map _).nodup hUn
 ·exact nodup_of_map Prod.fst (grp_nodup (fo_may hX ht h))
 ·rw[grp_iff (fo_may hX ht h),fo_row hX ht h,List.mem_map]
  constructor
  ·rintro⟨u,hu,rfl⟩
   obtain⟨hu1,hu2⟩:=List.mem_filter.1 hu
   obtain⟨x,hx1,e⟩:=List.mem_map.1 (hUg.mem_iff.1 (List.mem_map.2 ⟨u,hu1,rfl⟩))
   have hxe:=((grp_iff hX x).1 hx1).1
   rw[←e]
   refine⟨by show reR x.2 t=reR (jmps X x.1) t;rw[←hxe],fun hz=>?_⟩
   have:u.2.2.2=[]:=by rw[←e];exact hz
   rw[this] at hu2
   cases hu2
  ·rintro⟨h1,h2⟩
   have hne:jmps X g.1≠[]:=fun hz=>h2 (by rw[h1,hz,(reR_nil ht).2])
   have hg:(g.1,jmps X g.1)∈grp X:=(grp_iff hX _).2 ⟨rfl,hne⟩
   obtain⟨u,hu,e⟩:=List.mem_map.1 (hUg.mem_iff.2 (List.mem_map.2 ⟨_,hg,rfl⟩))
   have e2:u.2.2=g:=by rw[e];exact Prod.ext rfl h1.symm
   refine⟨u,List.mem_filter.2 ⟨hu,?_⟩,e2⟩
   rw[e2]
   cases hg2:g.2 with
   |nil=>exact absurd hg2 h2
   |cons _ _=>rfl
end
theorem re_two{f:List Jp}{t:Int}(hf:mayJ f=true)(h:reE f t≠0):reE f t=7:=by
 unfold reE at h ⊢
 rw[hf] at h ⊢
 simp only[if_true] at h ⊢
 unfold full at h ⊢
 split at h
 ·exact absurd rfl h
 ·rename_i hh;rw[if_neg hh]
theorem bagForget_s(K:List Nat)(B mb n:Nat)(mk t:Int)(T:List Fe)(X:List Ed)(w:World)(h:Bg rowB w (B::mb::K) B mb n mk T)(hx:BagX T X)(hBm:B≠mb)(hn:n≤900000000)(hmk:mk<t)(h0:0≤t)(ht:t<1125899906842624)(hK:∀x∈K,x<w.heap.size):Calls Tryz.prog 28 #[.pointer (some ⟨B,0,none⟩), .int .i64 t] w fun e w' =>
 ((∃r,reE (jmps X r) t≠0)∧e= .returned (.int .i64 7)∧Ext w w') ∨
 ((∀r,reE (jmps X r) t=0)∧e= .returned (.int .i64 0)∧∃T' n',Bg rowB w' (B::mb::K) B mb n' t T'∧n'≤n+4096∧BagX T' (foX X t)∧Fr [B,mb] w w'):=by
 have hml:=h.2.1.lt
 have hbl:=h.1.lt
 have hTl:T.length≤4096:=by
  have k:=hx.2.1.length_eq
  rw[List.length_map] at k
  have k2:=grp_len2 X
  have k3:=mayE_len hx.may
  omega
 refine (bagForget_c rowB (B::mb::K) B mb n mk t T (by omega) w h hBm (by intro x hx';simp only[List.mem_cons] at hx';rcases hx' with rfl|rfl|hx';exact hbl;exact hml;exact hK x hx') ⟨by simp,by simp⟩).mono ?_
 rintro e w' ⟨-,h2⟩
 rcases h2 hmk with ⟨p,hp,hp0,rfl,hX⟩|⟨hz,rfl,U,hU,hUr,hM,hO,hF⟩
 ·have hg:=(grp_iff hx.may _).1 (hx.mem hp)
  have hj:mayJ p.2.2.2=true:=(mayE_iff.1 hx.may).2.2 _ (hx.mem hp)
  refine .inl ⟨⟨p.2.2.1,by rw[←hg.1];exact hp0⟩,by rw[re_two hj hp0],hX⟩
 ·have hall:∀r,reE (jmps X r) t=0:=fun r=>by
   by_cases hj:jmps X r=[]
   ·rw[hj];exact (reR_nil ht).1
   ·obtain⟨p,hp,e⟩:=List.mem_map.1 (hx.2.1.mem_iff.2 ((grp_iff hx.may (r,jmps X r)).2 ⟨rfl,hj⟩))
    have:=hz p hp
    rw[e] at this
    exact this
  have hUl:=hU.length_eq
  rw[List.length_map,List.length_map] at hUl
  refine .inr ⟨hall,rfl,_,_,⟨hO,hM,fun p hp=>?_⟩,by omega,fo_upd hx.may ht hall h0 hx hU,hF⟩
  unfold updT at hp
  rcases List.mem_append.1 hp with hp|hp
  ·have hsub:∀y,y∈[B,mb]→y∈B::mb::K:=fun y hy=>by simp only[List.mem_cons,List.not_mem_nil,or_false] at hy;rcases hy with rfl|rfl<;>simp
   have:=h.2.2 p (List.mem_filter.1 hp).1
   exact⟨Sl.fr this.1 hF hsub,Sl.fr this.2 hF hsub⟩
  ·exact hUr p (List.mem_filter.1 hp).1
end Go.Proofs.YtajelkkiijdegaaGreat
