/-
  A helper of ours: no claim of its own. The whole, T1 and T4: a message taken by a past, told for the walk; what fits; the rows' numbers.
-/
import Derived.Test.YtajelkkiijdegaaGreatPasM
import Derived.Test.YtajelkkiijdegaaGreatTopA
import Derived.Test.YtajelkkiijdegaaGreatPakI
set_option linter.unusedVariables false
set_option linter.unusedSimpArgs false
set_option linter.unusedSectionVars false
set_option maxHeartbeats 64000000
set_option maxRecDepth 100000
namespace Go.Proofs.YtajelkkiijdegaaGreat
open Go.RowKit
attribute [local go_sem] GW.cell GW.frozen In.eq_true In.le_true In.ne In.ne' In.ne_add In.ne_add' In.lt_add Upto.le_true Upto.le_add Upto.lt_add
theorem ptCol:ElemT Tryz.prog 23 87 (.agg #[.string ⟨#[]⟩, .int .i64 0]) 2 24:=ElemT.mk' Tryz.underlying23 (by kernel_rfl) rfl (by omega)
theorem cl_one1(l:List Cl):∀u∈cl l,u.oneCell'=true:=fun u hu=>by
 unfold cl at hu
 obtain⟨a, -,ha⟩:=List.mem_flatMap.1 hu
 simp[cc] at ha
 rcases ha with rfl|rfl<;>rfl
theorem schClone_c(l:List Cl)(v:Value)(w:World)(h:Cw w [] v l)(hz:l.length≤1048576):Calls Tryz.prog 37 #[v] w fun e w'=>∃v',e= .returned v'∧w'.ownsRow w.heap.size 87 2 v' l.length (cl l)∧Ext w w':=by
 obtain⟨A,cap,rfl,hl,hm, -⟩:=cw_form h
 have hq:=fun w=>Lib.run_eql_slice_nil (P:=Tryz.prog) w 23 87 A l.length cap 0 0 Tryz.underlying23
 cases A with
 |none =>
  have hl0:l=[]:=by
   obtain⟨A',cap',e,_,_,h3,h4⟩:=h
   rcases h4 with h4|⟨b,o,rfl,_⟩
   ·have:=congrArg List.length h4;rw[cl_length] at this;exact List.eq_nil_of_length_eq_zero (by simp at this;omega)
   ·cases e
  subst hl0
  clear h hq
  have hq0:=fun w=>Lib.run_eql_slice_nil (P:=Tryz.prog) w 23 87 none 0 cap 0 0 Tryz.underlying23
  show Calls Tryz.prog 37 #[.slice none 0 cap] w fun e w'=>∃v',e= .returned v'∧w'.ownsRow w.heap.size 87 2 v' 0 []∧Ext w w'
  go_enter Tryz.func37,Tryz.ntmps37
  go_wp2_with fail
  go_returns
  exact⟨_,rfl,World.ownsRow_nil _ _ _ _,Ext.refl w⟩
 |some a =>
  have hlit:=hide (World.ownsRow_lit (base:=w.heap.size) (e:=87) (size:=2) w #[] 0 (Nat.le_refl _) (by decide) rfl)
  have hv:=hide h
  clear h
  go_enter Tryz.func37,Tryz.ntmps37
  go_wp2_with (at_builtin;(refine wpl_app ptCol rfl (.tmp 5) (.tmp 6) rfl rfl hlit.out rfl (src_sl Tryz.underlying23 (Sl.ext hv.out ((Ext.refl w).alloc _)) (cl_one1 _) (by omega)) (by unfold maxLen;omega) (by omega) (by simp) ?_;intro v1 w1 ho1 hg1 _))
  go_returns
  have ho2:w1.ownsRow w.heap.size 87 2 v1 l.length (cl l):=by simpa using ho1
  exact⟨_,rfl,ho2,ext_grown ((Ext.refl w).alloc _) hg1 (fun k hk=>(hlit.out.lt k hk).1)⟩
theorem pnew_c(l:List Cl)(v:Value)(w:World)(h:Cw w [] v l)(ha:mayS l=true)(hz:l.length≤1048576):Calls Tryz.prog 7 #[v] w fun e w'=>∃p mb,e= .returned (.tuple #[.pointer (some ⟨p,0,none⟩), .int .i64 0])∧Pz w' w.heap.size p l 0 0 mb 0 []∧Ext w w'∧w.heap.size≤p∧w.heap.size≤mb:=by
 have h1:=hide (mayS_c l v w h)
 rw[ha] at h1
 have h2:=hide (fun w' (hX:Ext w w')=>schClone_c l v w' (Sl.ext h hX) hz)
 obtain⟨A,cap,rfl, -, -, -⟩:=cw_form h
 have hmk:∀w,(Instr.makeMap 88 none).run Tryz.prog w= .ok (.map (some w.heap.size)) (w.alloc (.map #[] 0)):=fun _=>by kernel_rfl
 clear h ha
 go_enter Tryz.func7,Tryz.ntmps7
 go_wp2_with (first|(go_at_call 36;(with_reducible refine seq_gw h1.out ?_);intro g)|(go_at_call 37;refine (h2.out _ g.grown).mono ?_;rintro ee w2 ⟨v2,rfl,ho2,hX2⟩;have hX3:=hide (g.grown.trans hX2);obtain⟨A2,c2,e2⟩:=own_form ho2;subst e2;replace ho2:=hide ho2;clear hX2))
 go_returns
 have hO:=Ob.new (w2.alloc (.map #[] 0)) 93 [.slice A2 l.length c2, .int .i64 0, .int .i64 0, .map (some w2.heap.size), .slice none 0 0]
 rw[World.size_alloc] at hO
 have hX4:=(((Ext.refl w2).alloc (.map #[] 0)).alloc (.cells #[.slice A2 l.length c2, .int .i64 0, .int .i64 0, .map (some w2.heap.size), .slice none 0 0] 93))
 have hs:=hX3.out.size
 exact⟨_,_,rfl,⟨⟨_,_,⟨hO,World.ownsRow_nil _ _ _ _,by simp⟩,own_base (own_ext ho2.out hX4) (Nat.zero_le _)⟩,(Mv.made kentP w2 Tryz.prog 3).alloc _,by simp⟩,hX3.out.trans hX4,by omega,hs⟩
def colA:List Cl:=[(⟨#[97]⟩,1)]
theorem cols_cw(w:World):Cw (w.alloc (.cells #[.string ⟨#[97]⟩, .int .i64 1] 87)) [] (.slice (some ⟨w.heap.size,0,none⟩) 1 1) colA:=by
 refine⟨some ⟨w.heap.size,0,none⟩,1,rfl,Nat.le_refl _,by decide,rfl, .inr ⟨w.heap.size,0,rfl,by simp,fun j u hj=>?_⟩⟩
 rw[Nat.zero_add]
 exact (Ob.new w 87 [.string ⟨#[97]⟩, .int .i64 1]).cell j hj
theorem mayColA:mayS colA=true:=by decide
end Go.Proofs.YtajelkkiijdegaaGreat
namespace Go.Proofs.YtajelkkiijdegaaGreat
open Go.RowKit
def resP(sc:List Cl)(s:StD)(m:PM):Int:=resI (mkM m) (decide (m.1.1=1)) (fitsS sc m.2) (chkD s m) 0
def stpP(sc:List Cl)(s:StD)(m:PM):StD:=if resP sc s m=0 then (tk s m).1 else s
def runP(sc:List Cl)(s:StD)(l:List PM):StD:=l.foldl (stpP sc) s
theorem resI_cnt{K:Int}{ins fit:Bool}{E:Int}{c d:Nat}(hc:c<4096)(hd:d<4096):resI K ins fit E c=resI K ins fit E d:=by
 unfold resI
 rw[decide_eq_false (show ¬4096≤c by omega),decide_eq_false (show ¬4096≤d by omega)]
theorem resP_zero{sc:List Cl}{s:StD}{m:PM}(h:resP sc s m=0):chkD s m=0:=resI_zero h
theorem stpP_stp(sc:List Cl)(s:StD)(m:PM):stpP sc s m=s∨stpP sc s m=stp s m:=by
 unfold stpP
 by_cases h:resP sc s m=0
 ·rw[if_pos h];right;unfold stp;rw[if_pos (resP_zero h)]
 ·rw[if_neg h];exact .inl rfl
theorem runP_snoc(sc:List Cl)(s:StD)(l:List PM)(m:PM):runP sc s (l++[m])=stpP sc (runP sc s l) m:=by unfold runP;rw[List.foldl_append];rfl
theorem runP_run(sc:List Cl):∀(n:Nat) (l:List PM),l.length=n→∃l',l'.length≤l.length∧runP sc (0,[]) l=runS (0,[]) l'
 |0,l,h=>by
  have:=List.eq_nil_of_length_eq_zero h
  subst this
  exact⟨[],Nat.le_refl _,rfl⟩
 |n+1,l,h=>by
  obtain⟨a,m,rfl⟩:∃a m,l=a++[m]:=by
   rcases List.eq_nil_or_concat l with rfl|⟨a,m,e⟩
   ·cases h
   ·exact⟨a,m,by simpa using e⟩
  obtain⟨l',h1,h2⟩:=runP_run sc n a (by simpa using h)
  rw[runP_snoc]
  rcases stpP_stp sc (runP sc (0,[]) a) m with e|e
  ·exact⟨l',by rw[List.length_append];simp;omega,by rw[e,h2]⟩
  ·exact⟨l'++[m],by simp;omega,by rw[e,h2,runS_app];rfl⟩
theorem runP_inv(sc:List Cl)(l:List PM):∃T,InvF T (runP sc (0,[]) l):=by
 obtain⟨l', -,e⟩:=runP_run sc _ l rfl
 rw[e]
 exact runS_inv l'
theorem runP_len(sc:List Cl)(l:List PM):(runP sc (0,[]) l).2.length≤l.length:=by
 obtain⟨l',h,e⟩:=runP_run sc _ l rfl
 rw[e]
 have:=runS_len l' (0,[])
 simp only[List.length_nil,Nat.zero_add] at this
 omega
theorem runP_take{sc:List Cl}{l:List PM}{k:Nat}{m:PM}(h:l[k]? = some m):runP sc (0,[]) (l.take (k+1))=stpP sc (runP sc (0,[]) (l.take k)) m:=by rw[take_one h,runP_snoc]
def chQ(sc:List Cl)(s:StD)(m:PM):Ch:=if resP sc s m=0 then (tk s m).2 else zCh
theorem chQ_T{sc:List Cl}{s:StD}{m:PM}{L:List Pb}:chT L s m (resP sc s m)=chQ sc s m:=by
 unfold chT chQ
 by_cases h0:resP sc s m=0
 ·by_cases h3:m.1.1=3
  ·rw[if_neg (by simp[h3]),if_pos h0]
   unfold tk
   rw[if_pos h3]
  ·rw[if_pos ⟨h0,h3⟩,if_pos h0]
 ·rw[if_neg (by simp[h0]),if_neg h0]
theorem chQ_V{sc:List Cl}{s:StD}{m:PM}(h0:resP sc s m=0):chg s m=chQ sc s m:=by
 unfold chg chQ
 rw[if_pos h0,if_pos (resP_zero h0)]
end Go.Proofs.YtajelkkiijdegaaGreat
namespace Go.Proofs.YtajelkkiijdegaaGreat
open Go.RowKit
attribute [local go_sem] GW.cell GW.frozen In.eq_true In.le_true In.ne In.ne' In.ne_add In.ne_add' In.lt_add Upto.le_true Upto.le_add Upto.lt_add
def CBk(w:World)(K:List Nat)(B mb:Nat)(mk:Int)(X:List Ed)(N:Nat):Prop:=∃T n,Bg rowB w (B::mb::K) B mb n mk T∧BagX T X∧n≤N
theorem CBk.ext{w w':World}{K:List Nat}{B mb N:Nat}{mk:Int}{X:List Ed}(h:CBk w K B mb mk X N)(k:Ext w w'):CBk w' K B mb mk X N:=by obtain⟨T,n,h1,h2,h3⟩:=h;exact⟨T,n,h1.ext k,h2,h3⟩
theorem CBk.le{w:World}{K:List Nat}{B mb N M:Nat}{mk:Int}{X:List Ed}(h:CBk w K B mb mk X N)(k:N≤M):CBk w K B mb mk X M:=by obtain⟨T,n,h1,h2,h3⟩:=h;exact⟨T,n,h1,h2,by omega⟩
theorem cAddK(K:List Nat)(L:List Ve)(B mb N:Nat)(mk:Int)(X:List Ed)(v:Value)(w:World)(h:CBk w K B mb mk X N)(hC:Ew w [] v L)(hin:edsIn (eds L))(hBm:B≠mb)(hN:N≤900000000)(hK:∀x∈K,∃T vs,Ob w x T vs∧T≠83):Calls Tryz.prog 30 #[.pointer (some ⟨B,0,none⟩),v] w fun e w'=>e= .returned (.int .i64 (baE X mk (eds L)))∧CBk w' K B mb mk (aX mk X (eds L)) (N+4096)∧Fr [B,mb] w w':=by
 obtain⟨T,n,hb,hx,hn⟩:=h
 refine (bagAdd_s K L B mb n mk T X v w hC hin hb hx hBm (by omega) hK).mono ?_
 rintro e w' ⟨rfl,⟨hne,hX⟩|⟨h0,T',n',k1,k2,k3,k4⟩⟩
 ·exact⟨rfl,⟨T,n,hb.ext hX,by unfold aX;rw[if_neg hne];exact hx,by omega⟩,Fr.of_ext hX⟩
 ·exact⟨rfl,⟨T',n',k1,by unfold aX;rw[if_pos h0];exact k3,by omega⟩,k4.more (fun k _ hk=>by simp only[List.mem_singleton] at hk;simp[hk])⟩
theorem cForgetK(K:List Nat)(t:Int)(B mb N:Nat)(mk:Int)(X:List Ed)(w:World)(h:CBk w K B mb mk X N)(hmk: -1≤mk)(hBm:B≠mb)(hN:N≤900000000)(hK:∀x∈K,x<w.heap.size):Calls Tryz.prog 28 #[.pointer (some ⟨B,0,none⟩), .int .i64 t] w fun e w'=>e= .returned (.int .i64 (fgE mk X t))∧CBk w' K B mb (fM mk X t) (fX mk X t) (N+4096)∧Fr [B,mb] w w':=by
 obtain⟨T,n,hb,hx,hn⟩:=h
 have hml:=hb.2.1.lt
 have hbl:=hb.1.lt
 have hTl:T.length≤4096:=by
  have k:=hx.2.1.length_eq
  rw[List.length_map] at k
  have k2:=grp_len2 X
  have k3:=mayE_len hx.may
  omega
 by_cases ht:t≤mk
 ·refine (bagForget_c rowB (B::mb::K) B mb n mk t T (by omega) w hb hBm (by intro x hx';simp only[List.mem_cons] at hx';rcases hx' with rfl|rfl|hx';exact hbl;exact hml;exact hK x hx') ⟨by simp,by simp⟩).mono ?_
  rintro e w' ⟨h1, -⟩
  obtain⟨rfl,hX⟩:=h1 ht
  unfold fgE fM fX
  rw[if_pos ht,if_pos ht,if_pos ht]
  exact⟨rfl,⟨T,n,hb.ext hX,hx,by omega⟩,Fr.of_ext hX⟩
 unfold fgE fM fX
 rw[if_neg ht,if_neg ht,if_neg ht]
 by_cases he:t<1125899906842624
 ·refine (bagForget_s K B mb n mk t T X w hb hx hBm (by omega) (by omega) (by omega) he hK).mono ?_
  rintro e w' (⟨⟨r,hr⟩,rfl,hX⟩|⟨hz,rfl,T',n',k1,k2,k3,k4⟩)
  ·rcases mp_re hx.may he with ⟨h1, -, -⟩|⟨-,h2⟩
   ·exact absurd (h1 r) hr
   ·rw[h2,if_neg (by decide),if_neg (by decide)]
    exact⟨rfl,⟨T,n,hb.ext hX,hx,by omega⟩,Fr.of_ext hX⟩
  ·rcases mp_re hx.may he with ⟨-,h2,h3⟩|⟨⟨r,hr⟩, -⟩
   ·rw[h2,if_pos rfl,if_pos rfl,h3]
    exact⟨rfl,⟨T',n',k1,k3,by omega⟩,k4⟩
   ·exact absurd (hz r) hr
 ·obtain⟨h2,h3⟩:=mp_end hx.may (show 1125899906842624≤t by omega)
  rw[h2,if_pos rfl,if_pos rfl,h3]
  refine (bagForget_c rowB (B::mb::K) B mb n mk t T (by omega) w hb hBm (by intro x hx';simp only[List.mem_cons] at hx';rcases hx' with rfl|rfl|hx';exact hbl;exact hml;exact hK x hx') ⟨by simp,by simp⟩).mono ?_
  rintro e w' ⟨-,h4⟩
  rcases h4 (by omega) with ⟨p,hp,hp0, -, -⟩|⟨hz,rfl,U,hU,hUr,hM,hO,hF⟩
  ·have hj:mayJ p.2.2.2=true:=(mayE_iff.1 hx.may).2.2 _ (hx.mem hp)
   exact absurd (reR_end hj (by omega)).1 hp0
  ·have hUl:=hU.length_eq
   rw[List.length_map,List.length_map] at hUl
   rw[upd_end (by omega) hx hU] at hM
   exact⟨rfl,⟨[],_,⟨hO,hM,by simp⟩,BagX.nil,by omega⟩,hF⟩
theorem sl_kq{w w':World}{p mbp sz n:Nat}{S:List Nat}{v:Value}{xs:List Value}(h:Sl w (mbp::(S++wrt p (usl w p))) sz v n xs)(k:Kq p mbp w w'):Sl w' (S++wrt p (usl w' p)) sz v n xs:=by
 obtain⟨A,cap,e1,h1,h2,h3,h4⟩:=h
 refine⟨A,cap,e1,h1,h2,h3,?_⟩
 rcases h4 with e|⟨b,o,e2,hn,hc⟩
 ·exact .inl e
 ·cases xs with
  |nil=>exact .inl rfl
  |cons x xs =>
   have hl:b<w.heap.size:=block_lt_of_cell (hc 0 x rfl)
   simp only[List.mem_cons,List.mem_append,not_or] at hn
   obtain⟨n1,n2,n3,n4⟩:=hn
   have hb:=k.blk b _ (Array.getElem?_eq_getElem hl) (by simp only[List.mem_cons,not_or];exact⟨n1,n3,n4⟩)
   rw[←Array.getElem?_eq_getElem hl] at hb
   refine .inr ⟨b,o,e2,?_,fun j u hu=>(World.cell?_of_block (a:=⟨b,o+j,none⟩) hb).trans (hc j u hu)⟩
   simp only[List.mem_cons,List.mem_append,not_or]
   refine⟨n2,n3,fun hm=>?_⟩
   rcases k.own b (by simpa using hm) with h9|h9
   ·rcases List.mem_cons.1 h9 with h9|h9
    ·exact n3 h9
    ·exact n4 h9
   ·omega
theorem ob_not_map{w:World}{C b:Nat}{T:TypeId}{vs:List Value}(o:Ob w C T vs)(hm:∃es c,w.heap[b]? = some (.map es c)):C≠b:=by
 rintro rfl
 obtain⟨es,c,h⟩:=hm
 unfold Ob at o
 rw[o] at h
 cases h
section
variable {w w':World} {base p mbp n:Nat} {sc:List Cl} {c ser:Int} {L:List Pb}
theorem pz_wrt(h:Pz w base p sc c ser mbp n L):∀x∈wrt p (usl w p),∃T vs,Ob w x T vs∧T≠83:=fun x hx=>by
 obtain⟨⟨sv,u,hP, -⟩, -⟩:=h
 rw[usl_of hP] at hx
 rcases List.mem_cons.1 hx with rfl|hx
 ·exact⟨_,_,hP.ob,by decide⟩
 ·rcases hP.own.2 with ⟨h', -⟩|⟨g,cap,cur,h', -,hg, -⟩
  ·rw[h'] at hx;simp[Value.ownBlock] at hx
  ·rw[h'] at hx
   have e1:x=g:=by simp[Value.ownBlock] at hx;first|exact hx|exact hx.symm
   exact⟨103,cur.toList,by rw[e1];unfold Ob;rw[hg,Array.toArray_toList],by decide⟩
theorem cbk_kq{B mB N:Nat}{mk:Int}{X:List Ed}{E:List Nat}(hC:CBk w (E++wrt p (usl w p)) B mB mk X N)(k:Kq p mbp w w')(h:Pz w base p sc c ser mbp n L)(hne:mB≠mbp):CBk w' (E++wrt p (usl w' p)) B mB mk X N:=by
 obtain⟨T,m,⟨hO,hMv,hFe⟩,hx,hn⟩:=hC
 obtain⟨⟨sv,u,hP, -⟩,hM, -⟩:=h
 obtain⟨es,q,hq⟩:=hMv.isMap
 have hb:=k.blk mB _ hq (by
  rw[usl_of hP]
  simp only[List.mem_cons,not_or]
  refine⟨hne,fun e=>ob_not_map hP.ob ⟨es,q,hq⟩ e.symm,fun hm=>?_⟩
  exact own_not_map hP.own ⟨es,q,hq⟩ (by simpa using hm))
 refine⟨T,m,⟨k.typ _ _ _ hO (by decide) (by decide),mv_block hMv (hb.trans hq.symm),fun y hy=>?_⟩,hx,hn⟩
 have:=hFe y hy
 exact⟨sl_kq (S:=B::mB::E) (sl_map this.1 hM.isMap) k,sl_kq (S:=B::mB::E) (sl_map this.2 hM.isMap) k⟩
theorem nt_bag{B mB:Nat}{vs:List Value}{T:TypeId}(o:Ob w B 118 vs)(hm:∃es c,w.heap[mB]? = some (.map es c))(hT:118≠T):∀b∈[B,mB],NT w T b:=fun b hb=>by
 simp only[List.mem_cons,List.not_mem_nil,or_false] at hb
 rcases hb with rfl|rfl
 ·exact o.nt hT
 ·obtain⟨es,q,hq⟩:=hm
  intro cs c hc
  rw[hq] at hc
  cases hc
theorem pz_bag{B mB:Nat}{vs:List Value}(h:Pz w base p sc c ser mbp n L)(o:Ob w B 118 vs)(hm:∃es c,w.heap[mB]? = some (.map es c))(hne:mB≠mbp)(hF:Fr [B,mB] w w'):Pz w' base p sc c ser mbp n L∧usl w' p=usl w p:=by
 obtain⟨⟨sv,u,hP,hC⟩,hM,hR⟩:=h
 have hn:∀ {x:Nat} {T:TypeId} {us:List Value},Ob w x T us→118≠T→x∉[B,mB]:=fun {x T us} h9 h8=>by
  simp only[List.mem_cons,List.not_mem_nil,or_false,not_or]
  exact⟨fun e=>Ob.ne o h9 h8 e.symm,ob_not_map h9 hm⟩
 refine⟨⟨⟨sv,u,⟨hP.ob.fr hF (hn hP.ob (by decide)),own_stay hP.own hF (nt_bag o hm (by decide)),fun y hy=>Ob.fr (hP.evs y hy) hF (hn (hP.evs y hy) (by decide))⟩,own_stay hC hF (nt_bag o hm (by decide))⟩,pmv_fr hM hF ?_,fun y hy=>own_stay (hR y hy) hF (nt_bag o hm (by decide))⟩,usl_same (hF.block p hP.ob.lt (hn hP.ob (by decide)))⟩
 simp only[List.mem_cons,List.not_mem_nil,or_false,not_or]
 exact⟨fun e=>mv_ob hM o e.symm,fun e=>hne e.symm⟩
theorem own_blk{e sz k:Nat}{v:Value}{xs:List Value}{B:Nat}(h:w.ownsRow B e sz v k xs):∀x∈ob v,∃vs,Ob w x e vs:=fun x hx=>by
 rcases h.2 with ⟨h', -⟩|⟨g,cap,cur,h', -,hg, -⟩
 ·rw[h'] at hx;simp[ob,Value.ownBlock] at hx
 ·rw[h'] at hx
  have e1:x=g:=by simp[ob,Value.ownBlock] at hx;first|exact hx|exact hx.symm
  exact⟨cur.toList,by rw[e1];unfold Ob;rw[hg,Array.toArray_toList]⟩
theorem cbk_app{B mB N k b0:Nat}{mk:Int}{X:List Ed}{W:List Nat}{v v1:Value}{xs:List Value}(hC:CBk w (ob v++W) B mB mk X N)(ho:w.ownsRow b0 44 5 v k xs)(hF:Fr (ob v) w w')(hob:v1.ownBlock=v.ownBlock∨v1.ownBlock=some w.heap.size):CBk w' (ob v1++W) B mB mk X N:=by
 obtain⟨T,m,⟨hO,hMv,hFe⟩,hx,hn⟩:=hC
 have hB:B∉ob v:=fun hm=>by obtain⟨vs,o⟩:=own_blk ho B hm;exact Ob.ne hO o (by decide) rfl
 have hmB:mB∉ob v:=fun hm=>by obtain⟨vs,o⟩:=own_blk ho mB hm;exact ob_not_map o hMv.isMap rfl
 refine⟨T,m,⟨hO.fr hF hB,pmv_fr hMv hF hmB,fun y hy=>?_⟩,hx,hn⟩
 have key:∀ {sz k:Nat} {u:Value} {us:List Value},Sl w (B::mB::(ob v++W)) sz u k us→Sl w' (B::mB::(ob v1++W)) sz u k us:=fun {sz k u us} h9=>by
  obtain⟨A,cap,e1,h1,h2,h3,h4⟩:=Sl.fr h9 hF (by intro b hb;simp only[List.mem_cons,List.mem_append];exact .inr (.inr (.inl hb)))
  refine⟨A,cap,e1,h1,h2,h3,?_⟩
  obtain⟨A',cap',e1', -, -, -,h4'⟩:=h9
  rw[e1'] at e1
  simp only[Value.slice.injEq] at e1
  obtain⟨rfl, -, -⟩:=e1
  rcases h4 with e|⟨b,o,e2,hnb,hc⟩
  ·exact .inl e
  ·rcases h4' with e|⟨b',o',e2', -,hc'⟩
   ·exact .inl e
   ·cases us with
    |nil=>exact .inl rfl
    |cons z us =>
     rw[e2] at e2'
     obtain⟨rfl, -⟩:b=b'∧o=o':=by simpa using e2'
     have hl:b<w.heap.size:=block_lt_of_cell (hc' 0 z rfl)
     refine .inr ⟨b,o,e2,?_,hc⟩
     simp only[List.mem_cons,List.mem_append,not_or] at hnb ⊢
     refine⟨hnb.1,hnb.2.1,fun hm=>?_,hnb.2.2.2⟩
     have hm':v1.ownBlock=some b:=by simpa [ob] using hm
     rcases hob with e|e
     ·rw[e] at hm';exact hnb.2.2.1 (by simpa [ob] using hm')
     ·rw[e] at hm';have:=Option.some.inj hm';omega
 have:=hFe y hy
 exact⟨key this.1,key this.2⟩
def PQ(sc:List Cl)(l:List PM)(B p mb k:Nat)(w:World):Prop:=∃(n:Nat) (L:List Pb),n≤k∧L.length≤k∧PInv L (runP sc (0,[]) (l.take k))∧Pz w B p sc (runP sc (0,[]) (l.take k)).1 (runP sc (0,[]) (l.take k)).2.length mb n L∧(∀y∈L,∀x∈y.1.2.1,inI x.2.1)
theorem PQ.ext{l:List PM}{B mb k:Nat}(h:PQ sc l B p mb k w)(hX:Ext w w'):PQ sc l B p mb k w':=by
 obtain⟨n,L,h1,h2,h4,h5,h6⟩:=h
 exact⟨n,L,h1,h2,h4,h5.ext hX,h6⟩
theorem PQ.lt{l:List PM}{B mb k:Nat}(h:PQ sc l B p mb k w):p<w.heap.size:=by
 obtain⟨n,L,h1,h2,h4,⟨⟨sv,u,hP, -⟩, -⟩,h6⟩:=h
 exact hP.ob.lt
theorem pq_past{l:List PM}{B mb k:Nat}(h:PQ sc l B p mb k w)(hl:l.length≤400)(pk pi pf pt:Int)(pr:List Vl)(rv:Value)(hq:l[k]? = some ((pk,pi,pf,pt),pr))(hin:inM ((pk,pi,pf,pt),pr))(hrv:Rw w [] rv pr)(hbw:B≤w.heap.size)(hbm:B≤mb)(hbp:B≤p) :
 Calls Tryz.prog 10 #[.pointer (some ⟨p,0,none⟩),mg pk pi pf pt rv] w fun e w'=>∃cv,e= .returned (.tuple #[.agg (chO cv (chQ sc (runP sc (0,[]) (l.take k)) ((pk,pi,pf,pt),pr))).toArray, .int .i64 (resP sc (runP sc (0,[]) (l.take k)) ((pk,pi,pf,pt),pr))])∧RwO w' cv (chQ sc (runP sc (0,[]) (l.take k)) ((pk,pi,pf,pt),pr)).2.1∧PQ sc l B p mb (k+1) w'∧Kq p mb w w'∧Below B w w':=by
 obtain⟨n,L,h1,h2,h4,h5,h6⟩:=h
 have hk:k<l.length:=(List.getElem?_eq_some_iff.1 hq).1
 have hst:=runP_take (sc:=sc) hq
 obtain⟨T,hT⟩:=runP_inv sc (l.take k)
 have hsl:=runP_len sc (l.take k)
 rw[List.length_take] at hsl
 unfold PQ
 rw[hst]
 generalize runP sc (0,[]) (l.take k)=s at *
 refine (ptake_c pk pi pf pt pr rv w h5 h4 hT hin h6 (by omega) hrv hbw hbm hbp (by unfold maxLen;omega) (by omega)).mono ?_
 rintro e w' ⟨cv,R,hR,he,hro,hP0,hP1,hK,hB⟩
 have hRe:R=resP sc s ((pk,pi,pf,pt),pr):=hR.trans (resI_cnt (by omega) (by omega))
 rw[hRe] at he hP0 hP1 hro
 rw[chQ_T (sc:=sc)] at he hro
 refine⟨cv,he,hro,?_,hK,hB⟩
 unfold stpP
 by_cases h0:resP sc s ((pk,pi,pf,pt),pr)=0
 ·obtain⟨b,v,hP⟩:=hP1 h0
  simp only[if_pos h0]
  exact⟨n+1,_,by omega,Nat.le_trans len_nx (by omega),h4.take hT _ b v (resP_zero h0),hP,fun y hy=>by
   rcases row_nx hy with e|⟨z,hz,e⟩
   ·rw[e];exact hin.2
   ·rw[e];exact h6 z hz⟩
 ·simp only[if_neg h0]
  exact⟨n,L,by omega,by omega,h4,hP0 h0,h6⟩
theorem pq_bag{l:List PM}{B mb k Bg mB:Nat}{vs:List Value}(h:PQ sc l B p mb k w)(o:Ob w Bg 118 vs)(hm:∃es c,w.heap[mB]? = some (.map es c))(hne:mB≠mb)(hF:Fr [Bg,mB] w w'):PQ sc l B p mb k w'∧usl w' p=usl w p:=by
 obtain⟨n,L,h1,h2,h4,h5,h6⟩:=h
 obtain⟨h9,h8⟩:=pz_bag h5 o hm hne hF
 exact⟨⟨n,L,h1,h2,h4,h9,h6⟩,h8⟩
theorem pq_app{l:List PM}{B mb k b0 k2:Nat}{v:Value}{xs:List Value}(h:PQ sc l B p mb k w)(ho:w.ownsRow b0 44 5 v k2 xs)(hF:Fr (ob v) w w'):PQ sc l B p mb k w'∧usl w' p=usl w p:=by
 obtain⟨n,L,h1,h2,h4,h5,h6⟩:=h
 obtain⟨⟨sv,u,hP,hC⟩,hM,hR⟩:=h5
 have hn:∀ {x:Nat} {T:TypeId} {us:List Value},Ob w x T us→44≠T→x∉ob v:=fun {x T us} h9 h8 hm=>by
  obtain⟨vs,o⟩:=own_blk ho x hm
  exact Ob.ne o h9 h8 rfl
 have hnt:∀ {T:TypeId},44≠T→∀b∈ob v,NT w T b:=fun {T} hT b hb=>by
  obtain⟨vs,o⟩:=own_blk ho b hb
  exact o.nt hT
 refine⟨⟨n,L,h1,h2,h4,⟨⟨sv,u,⟨hP.ob.fr hF (hn hP.ob (by decide)),own_stay hP.own hF (hnt (by decide)),fun y hy=>Ob.fr (hP.evs y hy) hF (hn (hP.evs y hy) (by decide))⟩,own_stay hC hF (hnt (by decide))⟩,pmv_fr hM hF (fun hm=>by obtain⟨vs,o⟩:=own_blk ho mb hm;exact ob_not_map o hM.isMap rfl),fun y hy=>own_stay (hR y hy) hF (hnt (by decide))⟩,h6⟩,usl_same (hF.block p hP.ob.lt (hn hP.ob (by decide)))⟩
theorem pq_wrt{l:List PM}{B mb k:Nat}(h:PQ sc l B p mb k w):∀x∈wrt p (usl w p),∃T vs,Ob w x T vs∧T≠83:=by
 obtain⟨n,L,h1,h2,h4,h5,h6⟩:=h
 exact pz_wrt h5
theorem pq_clock{l:List PM}{B mb k:Nat}(h:PQ sc l B p mb k w):Calls Tryz.prog 13 #[.pointer (some ⟨p,0,none⟩)] w fun e w'=>e= .returned (.int .i64 (runP sc (0,[]) (l.take k)).1)∧Ext w w':=by
 obtain⟨n,L,h1,h2,h4,h5,h6⟩:=h
 exact pclock_c w h5
theorem CBk.lt{K:List Nat}{B mB N:Nat}{mk:Int}{X:List Ed}(h:CBk w K B mB mk X N):(∃vs,Ob w B 118 vs)∧∃es c,w.heap[mB]? = some (.map es c):=by
 obtain⟨T,m,⟨hO,hMv, -⟩, -⟩:=h
 exact⟨⟨_,hO⟩,hMv.isMap⟩
end
def r5T:List Vl:=[(1,5,⟨#[]⟩)]
def lvT(u:Value):List Vm:=[(u,((1,1,2,9),r5T)),(.slice none 0 0,((2,1,0,4),[]))]
def lmT:List PM:=[((1,1,2,9),r5T),((2,1,0,4),[])]
theorem ppE_lvT:ppE (exP lmT)=0:=by decide +kernel
theorem ppR_lvT:ppR (exP lmT)=[(r5T,(2,4))]:=by decide +kernel
theorem ed_oneT{M:List Ve}{x:Ed}(h:eds M=[x]):∃y:Ve,M=[y]∧y.2=x:=by
 cases M with
 |nil=>cases h
 |cons y r =>
  cases r with
  |nil=>exact⟨y,rfl,(List.cons.inj h).1⟩
  |cons z r=>exact absurd (congrArg List.length h) (by simp[eds])
abbrev oT5:Obj:= .cells #[.int .i64 1, .int .i64 5, .string ⟨#[]⟩] 83
abbrev oTm(u:Value):Obj:= .cells (mc (lvT u)).toArray 44
theorem inM_lvT(u:Value):∀p∈lvT u,inM p.2:=by
 intro p hp
 simp only[lvT,List.mem_cons,List.not_mem_nil,or_false] at hp
 rcases hp with rfl|rfl
 ·exact⟨by show inI 1∧inI 1∧inI 2∧inI 9;decide,by intro a ha;simp only[r5T,List.mem_singleton] at ha;subst ha;decide⟩
 ·exact⟨by decide,by simp⟩
theorem mw_lvT(w:World):Mw ((w.alloc oT5).alloc (oTm (.slice (some ⟨w.heap.size,0,none⟩) 1 1))) [] (.slice (some ⟨w.heap.size+1,0,none⟩) 2 2) (lvT (.slice (some ⟨w.heap.size,0,none⟩) 1 1)):=by
 have h1:Rw (w.alloc oT5) [] (.slice (some ⟨w.heap.size,0,none⟩) 1 1) r5T:=Sl.own (World.ownsRow_lit (base:=w.heap.size) (e:=83) (size:=3) w #[.int .i64 1, .int .i64 5, .string ⟨#[]⟩] 1 (Nat.le_refl _) (by decide) rfl) (by simp)
 refine⟨?_,fun p hp=>?_⟩
 ·have:=Sl.own (S:=[]) (World.ownsRow_lit (base:=(w.alloc oT5).heap.size) (e:=44) (size:=5) (w.alloc oT5) (mc (lvT (.slice (some ⟨w.heap.size,0,none⟩) 1 1))).toArray 2 (Nat.le_refl _) (by decide) rfl) (by simp)
  rw[World.size_alloc] at this
  exact this
 ·simp only[lvT,List.mem_cons,List.not_mem_nil,or_false] at hp
  rcases hp with rfl|rfl
  ·exact Sl.alloc h1 _
  ·exact Sl.nil _ _ _
theorem tcols_c(w:World):Calls Tryz.prog 25 #[] w fun e w'=>e= .returned (.slice (some ⟨w.heap.size,0,none⟩) 1 1)∧w'=w.alloc (.cells #[.string ⟨#[97]⟩, .int .i64 1] 87):=by
 go_enter Tryz.func25,Tryz.ntmps25
 go_wp2_with fail
 go_returns
 exact⟨rfl,rfl⟩
theorem tfive_c(w:World):Calls Tryz.prog 54 #[] w fun e w'=>e= .returned (.slice (some ⟨w.heap.size,0,none⟩) 1 1)∧w'=w.alloc oT5:=by
 go_enter Tryz.func54,Tryz.ntmps54
 go_wp2_with fail
 go_returns
 exact⟨rfl,rfl⟩
theorem topFolded_c(w:World):Calls Tryz.prog 24 #[] w fun e w'=>e= .returned (.bool true)∧Ext w w':=by
 obtain⟨LV,hLV⟩:∃LV,LV=lvT (.slice (some ⟨w.heap.size,0,none⟩) 1 1):=⟨_,rfl⟩
 have hM0:=mw_lvT w
 have hin:=inM_lvT (.slice (some ⟨w.heap.size,0,none⟩) 1 1)
 rw[←hLV] at hin
 have hpm:pms LV=lmT:=by rw[hLV];rfl
 have hll:LV.length=2:=by rw[hLV];rfl
 have hMw:Hid (Mw ((w.alloc oT5).alloc (oTm (.slice (some ⟨w.heap.size,0,none⟩) 1 1))) [] (.slice (some ⟨w.heap.size+1,0,none⟩) 2 2) LV):=by rw[hLV];exact hM0
 have htb:=hide (fun w' (hX:Ext ((w.alloc oT5).alloc (oTm (.slice (some ⟨w.heap.size,0,none⟩) 1 1))) w')=>table_c LV _ w' (hMw.out.ext hX) hin (by omega))
 rw[hpm,ppE_lvT,ppR_lvT] at htb
 clear hM0 hin hpm hll hLV
 go_enter Tryz.func24,Tryz.ntmps24
 go_wp2_with (first
  |(go_at_call 54;refine (tfive_c _).mono ?_;rintro ee w1 ⟨rfl,rfl⟩)
  |(go_at_call 31;(refine (htb.out _ (Ext.refl _)).mono ?_;rintro ee w3 ⟨v3,M3,rfl,hM3,ho3,hX3⟩;obtain⟨x,rfl,hx⟩:∃x:Ve,M3=[x]∧x.2=(r5T,(2,4)):=ed_oneT hM3;obtain⟨A3,c3,e3, -, -,hat⟩:=ew_form ho3.ew;subst e3;obtain⟨b3,o3,rfl, -,hb3,p0,p1,p2⟩:=hat 0 x rfl;rw[hx] at p1 p2;simp only[Nat.zero_mul,Nat.add_zero] at p0 p1 p2;haveI:In b3 w3:=⟨hb3⟩;replace hX3:=hide hX3;clear hM3 ho3 hat)))
 go_returns
 exact⟨by first|rfl|simp,(((Ext.refl w).alloc _).alloc _).trans hX3.out⟩
namespace TopTab
theorem own_one{w:World}{base:Nat}{v:Value}{F:List Vm}{q:Vm}(h:w.ownsRow base 44 5 v (F.length+1) (mc F++mc1 q)):w.ownsRow base 44 5 v (F++[q]).length (mc (F++[q])):=by
 have e1:mc (F++[q])=mc F++mc1 q:=by unfold mc;rw[List.flatMap_append];simp
 rw[e1,List.length_append,List.length_singleton];exact h
def fitB(p:Vm):Bool:=decide (p.2.1.1≠1) || fitsS colA p.2.2
theorem fit_take(l:List Vm){k:Nat}{p:Vm}(h:l[k]? = some p):(l.take (k+1)).filter fitB=(l.take k).filter fitB++(if fitB p then [p] else []):=by
 rw[List.take_add_one,h,List.filter_append]
 simp only[Option.toList_some,List.filter_cons,List.filter_nil]
theorem chk_mk{s:StD}{m:PM}(h:mkM m≠0):chkD s m=mkM m:=by unfold chkD chkO;rw[if_pos h]
theorem res_fit{s:StD}{p:Vm}(hf:fitB p=true):resP colA s p.2=chkD s p.2:=by
 unfold resP resI
 by_cases hK:mkM p.2=0
 ·rw[if_pos hK]
  have h1:(decide (p.2.1.1=1) && !fitsS colA p.2.2)=false:=by
   unfold fitB at hf
   by_cases h:p.2.1.1=1
   ·simp[h] at hf;simp[hf]
   ·simp[h]
  rw[h1]
  by_cases hE:chkD s p.2=0
  ·rw[hE];simp
  ·simp[hE]
 ·rw[if_neg hK,chk_mk hK]
theorem res_unfit{s:StD}{p:Vm}(hf:fitB p=false):resP colA s p.2≠0:=by
 unfold resP resI
 unfold fitB at hf
 simp at hf
 by_cases hK:mkM p.2=0
 ·rw[if_pos hK,hf.1,hf.2]
  simp
 ·rw[if_neg hK];exact hK
theorem run_fit:∀(l:List Vm) (s:StD),runP colA s (pms l)=runS s (pms (l.filter fitB))
 |[],_=>rfl
 |p::r,s=>by
  show runP colA (stpP colA s p.2) (pms r)=_
  rw[run_fit r]
  by_cases hf:fitB p=true
  ·rw[List.filter_cons_of_pos hf]
   show _=runS (stp s p.2) (pms (r.filter fitB))
   congr 1
   unfold stpP stp
   rw[res_fit hf]
  ·rw[List.filter_cons_of_neg hf]
   congr 1
   unfold stpP
   rw[if_neg (res_unfit (by simpa using hf))]
def SI(s:StD):Prop:=∀e∈s.2,∀x∈e.1.2,inI x.2.1
theorem si_stp{s:StD}(h:SI s){m:PM}(hm:inM m):SI (stp s m)∧(chkD s m=0→∀x∈(chg s m).2.1,inI x.2.1):=by
 by_cases h0:chkD s m=0
 ·rcases take_ways h0 with ⟨-,e1,e2⟩|⟨-, -,e1,e2⟩|⟨-,j,e,hj, -, -, -, -,e1,e2⟩
  ·rw[e1,e2]
   exact⟨h,fun _ x hx=>by simp[zCh] at hx⟩
  ·unfold SI
   rw[e1,e2]
   refine⟨fun e he=>?_,fun _=>hm.2⟩
   rcases List.mem_append.1 he with he|he
   ·exact h e he
   ·obtain rfl:=List.mem_singleton.1 he;exact hm.2
  ·unfold SI
   rw[e1,e2]
   have he:=h e (List.mem_of_getElem? hj)
   refine⟨fun e' he'=>?_,fun _=>he⟩
   rcases List.mem_or_eq_of_mem_set he' with he'|rfl
   ·exact h e' he'
   ·split<;>exact he
 ·rw[stp_no h0]
  exact⟨h,fun e=>absurd e h0⟩
theorem si_stpP{s:StD}(h:SI s){m:PM}(hm:inM m):SI (stpP colA s m):=by
 rcases stpP_stp colA s m with e|e
 ·rw[e];exact h
 ·rw[e];exact (si_stp h hm).1
theorem fd_in{q:List Vl}{o n:Spn}(hq:∀x∈q,inI x.2.1):edsIn (fdR q o n):=fun e he=>by
 unfold fdR at he
 split at he
 ·obtain⟨j, -,rfl⟩:=List.mem_map.1 he
  exact hq
 ·cases he
section
variable {w w':World} {base p mbp n:Nat} {sc:List Cl}
theorem cbk_pq{B mB N k base2:Nat}{mk:Int}{X:List Ed}{E:List Nat}{l:List PM}(hC:CBk w (E++wrt p (usl w p)) B mB mk X N)(hK:Kq p mbp w w')(h:PQ sc l base2 p mbp k w)(hne:mB≠mbp):CBk w' (E++wrt p (usl w' p)) B mB mk X N:=by
 obtain⟨n,L,h1,h2,h4,h5,h6⟩:=h
 exact cbk_kq hC hK h5 hne
theorem pq_past2{l:List PM}{B mb k:Nat}(h:PQ sc l B p mb k w)(hl:l.length≤400)(pk pi pf pt:Int)(pr:List Vl)(rv:Value)(hq:l[k]? = some ((pk,pi,pf,pt),pr))(hin:inM ((pk,pi,pf,pt),pr))(hrv:Rw w [] rv pr)(hbw:B≤w.heap.size)(hbm:B≤mb)(hbp:B≤p)(R:Int)(CH:Ch)(hR:R=resP sc (runP sc (0,[]) (l.take k)) ((pk,pi,pf,pt),pr))(hCH:CH=chQ sc (runP sc (0,[]) (l.take k)) ((pk,pi,pf,pt),pr)) :
 Calls Tryz.prog 10 #[.pointer (some ⟨p,0,none⟩),mg pk pi pf pt rv] w fun e w'=>∃(CA:Option Addr) (cc:Nat),e= .returned (.tuple #[.agg #[.int .i64 CH.1, .slice CA CH.2.1.length cc, .int .i64 CH.2.2.1.1, .int .i64 CH.2.2.1.2, .int .i64 CH.2.2.2.1, .int .i64 CH.2.2.2.2], .int .i64 R])∧Rw w' [] (.slice CA CH.2.1.length cc) CH.2.1∧PQ sc l B p mb (k+1) w'∧Kq p mb w w'∧Below B w w' :=
 (pq_past h hl pk pi pf pt pr rv hq hin hrv hbw hbm hbp).mono fun e w' ⟨cv,he,hr,hT,hK,hB⟩=>by
  rw[←hR,←hCH] at he
  rw[←hCH] at hr
  obtain⟨CA,cc,ec⟩:=rwo_val hr
  subst ec
  exact⟨CA,cc,by rw[he];rfl,hr.rw,hT,hK,hB⟩
theorem cbk_zero{b0 mB:Nat}(h:Bg rowB w [] b0 mB 0 (-1) [])(K:List Nat):CBk w K b0 mB (-1) [] 0:=⟨[],0,⟨h.1,h.2.1,by simp⟩,BagX.nil,Nat.le_refl _⟩
theorem cbk_edges{K:List Nat}{Bg mB N:Nat}{mk:Int}{X:List Ed}(h:CBk w K Bg mB mk X N):Calls Tryz.prog 35 #[.pointer (some ⟨Bg,0,none⟩)] w fun e w'=>∃v' M,e= .returned v'∧eds M=X∧OwnEr w' w.heap.size v' M∧Ext w w':=by
 obtain⟨T,m,⟨hO,hMv,hFe⟩,hx,hn⟩:=h
 exact bagEdges_c Bg mB m mk T X w ⟨hO,hMv,fun y hy=>⟨Sl.less (hFe y hy).1 (by intro b hb;simp only[List.mem_cons,List.not_mem_nil,or_false] at hb;rcases hb with rfl|rfl<;>simp),Sl.less (hFe y hy).2 (by intro b hb;simp only[List.mem_cons,List.not_mem_nil,or_false] at hb;rcases hb with rfl|rfl<;>simp)⟩⟩ hx
end
end TopTab
end Go.Proofs.YtajelkkiijdegaaGreat
