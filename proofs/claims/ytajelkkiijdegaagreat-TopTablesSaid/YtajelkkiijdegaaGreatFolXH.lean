/-
  A helper of ours: no claim of its own. Layer 13 (fold): what is done with each message's result, by the code (Changes).
-/
import Derived.Test.YtajelkkiijdegaaGreatFolPA
import Derived.Test.YtajelkkiijdegaaGreatBagI
import Derived.Test.YtajelkkiijdegaaGreatEdgO
set_option linter.unusedVariables false
set_option linter.unusedSimpArgs false
set_option linter.unusedSectionVars false
set_option maxHeartbeats 64000000
set_option maxRecDepth 100000
namespace Go.Proofs.YtajelkkiijdegaaGreat
open Go.RowKit
def NT(w:World)(e:TypeId)(b:Nat):Prop:=∀cs c,w.heap[b]? ≠ some (.cells cs e c)
theorem Ob.nt{w:World}{b:Nat}{T e:TypeId}{vs:List Value}(h:Ob w b T vs)(hT:T≠e):NT w e b:=fun cs c hc=>by
 unfold Ob at h
 rw[h] at hc
 injection hc with hc
 injection hc with _ h2
 exact hT h2
theorem map_nt{w:World}{b:Nat}{e:TypeId}(h:∃es c,w.heap[b]? = some (.map es c)):NT w e b:=fun cs c hc=>by
 obtain⟨es,c',h⟩:=h
 rw[h] at hc
 cases hc
theorem own_nt{w:World}{base e e2 sz n:Nat}{v:Value}{xs:List Value}(h:w.ownsRow base e2 sz v n xs)(hT:e2≠e):∀b∈ob v,NT w e b:=by
 intro b hb cs c hc
 rcases h.2 with ⟨rfl, -⟩|⟨g,cap,cur,rfl, -,hg, -⟩
 ·simp[ob,Value.ownBlock] at hb
 ·have:b=g:=by simpa [ob,Value.ownBlock] using hb
  subst this
  rw[hg] at hc
  injection hc with hc
  injection hc with _ h2
  exact hT h2
theorem own_stay{w w':World}{S:List Nat}{base e sz n:Nat}{v:Value}{xs:List Value}(h:w.ownsRow base e sz v n xs)(hF:Fr S w w')(hS:∀b∈S,NT w e b):w'.ownsRow base e sz v n xs:=by
 refine⟨h.1,?_⟩
 rcases h.2 with h2|⟨g,cap,cur,e1,hb,hg,r⟩
 ·exact .inl h2
 ·exact .inr ⟨g,cap,cur,e1,hb,(hF.block g (lt_of_block hg) (fun m=>hS g m _ _ hg)).trans hg,r⟩
def RwO(w:World)(v:Value)(l:List Vl):Prop:=w.ownsRow 0 83 3 v l.length (rc l)
theorem RwO.rw{w:World}{v:Value}{l:List Vl}(h:RwO w v l):Rw w [] v l:=Sl.own h (by simp)
theorem RwO.ext{w w':World}{v:Value}{l:List Vl}(h:RwO w v l)(k:Ext w w'):RwO w' v l:=own_ext h k
theorem RwO.stay{w w':World}{S:List Nat}{v:Value}{l:List Vl}(h:RwO w v l)(hF:Fr S w w')(hS:∀b∈S,NT w 83 b):RwO w' v l:=own_stay h hF hS
def OwnX{α:Type}(e:TypeId)(sz:Nat)(f:Value→α→List Value)(row:α→List Vl)(w:World)(base:Nat)(v:Value)(L:List (Value×α)):Prop:=w.ownsRow base e sz v L.length (L.flatMap fun p=>f p.1 p.2)∧∀p∈L,RwO w p.1 (row p.2)
section
variable {α:Type} {e:TypeId} {sz:Nat} {f:Value→α→List Value} {row:α→List Vl} {w w':World} {base:Nat} {v v':Value} {L M:List (Value×α)}
theorem OwnX.nil(w:World)(base:Nat):OwnX e sz f row w base (.slice none 0 0) []:=⟨World.ownsRow_nil _ _ _ _,by simp⟩
theorem OwnX.ext(h:OwnX e sz f row w base v L)(k:Ext w w'):OwnX e sz f row w' base v L:=⟨own_ext h.1 k,fun p hp=>(h.2 p hp).ext k⟩
theorem OwnX.stay{S:List Nat}(h:OwnX e sz f row w base v L)(hF:Fr S w w')(hS:∀b∈S,NT w e b∧NT w 83 b):OwnX e sz f row w' base v L:=⟨own_stay h.1 hF fun b hb=>(hS b hb).1,fun p hp=>(h.2 p hp).stay hF fun b hb=>(hS b hb).2⟩
theorem OwnX.app(he:e≠83)(h:OwnX e sz f row w base v L)(ho:w'.ownsRow base e sz v' (L.length+M.length) ((L.flatMap fun p=>f p.1 p.2)++M.flatMap fun p=>f p.1 p.2))(hg:w.grownBy w' v.ownBlock)(hM:∀p∈M,RwO w p.1 (row p.2)):OwnX e sz f row w' base v' (L++M):=by
 refine⟨by rw[List.length_append,List.flatMap_append];exact ho,fun p hp=>?_⟩
 have hF:=fr_grown hg
 have hN:=own_nt h.1 he
 rcases List.mem_append.1 hp with hp|hp
 ·exact (h.2 p hp).stay hF hN
 ·exact (hM p hp).stay hF hN
theorem OwnX.form(h:OwnX e sz f row w base v L):∃A cap,v= .slice A L.length cap:=own_form h.1
end
theorem put_done{w w' wA:World}{s mb:Nat}{S:List Nat}(hF:Fr S w w')(hX:Ext wA w)(hS:∀b∈S,wA.heap.size≤b∧b≠s∧b≠mb)(hst:StOk w s mb):Ext wA w'∧w'.heap[s]? = w.heap[s]? ∧ w'.heap[mb]? = w.heap[mb]? := by
 obtain⟨⟨vs,h1⟩,es,c,h2⟩:=hst
 exact⟨ext_fr hX hF fun b hb=>(hS b hb).1,hF.block s h1.lt fun m=>(hS s m).2.1 rfl,hF.block mb (lt_of_block h2) fun m=>(hS mb m).2.2 rfl⟩
theorem StOk.nt{w:World}{s mb:Nat}(h:StOk w s mb){e:TypeId}(he:212≠e):∀b∈[s,mb],NT w e b:=by
 obtain⟨⟨vs,h1⟩,h2⟩:=h
 intro b hb
 simp only[List.mem_cons,List.not_mem_nil,or_false] at hb
 rcases hb with rfl|rfl
 ·exact h1.nt he
 ·exact map_nt h2
theorem StOk.ne_ob{w:World}{s mb b:Nat}{T:TypeId}{vs:List Value}(h:StOk w s mb)(hb:Ob w b T vs)(hT:212≠T):b≠s∧b≠mb:=by
 have h1:=h.nt hT
 exact⟨fun e=>by subst e;exact h1 b (by simp) _ _ hb,fun e=>by subst e;exact h1 b (by simp) _ _ hb⟩
theorem StOk.ne_own{w:World}{s mb base e sz n:Nat}{v:Value}{xs:List Value}(h:StOk w s mb)(ho:w.ownsRow base e sz v n xs)(hT:212≠e):∀b∈ob v,b≠s∧b≠mb:=by
 have h1:=h.nt hT
 intro b hb
 rcases ho.2 with ⟨rfl, -⟩|⟨g,cap,cur,rfl, -,hg, -⟩
 ·simp[ob,Value.ownBlock] at hb
 ·have:b=g:=by simpa [ob,Value.ownBlock] using hb
  subst this
  exact⟨fun e=>by subst e;exact h1 b (by simp) _ _ hg,fun e=>by subst e;exact h1 b (by simp) _ _ hg⟩
end Go.Proofs.YtajelkkiijdegaaGreat
namespace Go.Proofs.YtajelkkiijdegaaGreat
open Go.RowKit
attribute [local go_sem] GW.cell GW.frozen In.eq_true In.le_true In.ne In.ne' In.ne_add In.ne_add' In.lt_add Upto.le_true Upto.le_add Upto.lt_add
theorem tErn:ElemT Tryz.prog 160 27 (.int .i64 0) 1 8:=ElemT.mk' Tryz.underlying160 (by kernel_rfl) rfl (by omega)
theorem tChs:ElemT Tryz.prog 53 39 zChV 6 64:=ElemT.mk' Tryz.underlying53 (by kernel_rfl) rfl (by omega)
def ns(l:List Int):List Value:=l.map (Value.int .i64)
def BxA(w:World)(base B:Nat)(l:List Int):Prop:=∃sv,Ob w B 160 [sv]∧w.ownsRow base 27 1 sv l.length (ns l)∧base≤B
theorem BxA.ext{w w':World}{base B:Nat}{l:List Int}(h:BxA w base B l)(k:Ext w w'):BxA w' base B l:=by obtain⟨sv,h1,h2,h3⟩:=h;exact⟨sv,h1.ext k,own_ext h2 k,h3⟩
theorem BxA.stay{w w':World}{base B s mb:Nat}{l:List Int}(h:BxA w base B l)(hst:StOk w s mb)(hF:Fr [s,mb] w w'):BxA w' base B l:=by
 obtain⟨sv,h1,h2,h3⟩:=h
 have hne:=hst.ne_ob h1 (by decide)
 exact⟨sv,h1.fr hF (by simp only[List.mem_cons,List.not_mem_nil,or_false];omega),own_stay h2 hF (hst.nt (by decide)),h3⟩
theorem ansPut_c(wA:World)(B s mb:Nat)(l:List Int)(k i f t:Int)(u v:Value)(VA UA:Option Addr)(vl vc ul uc:Nat)(hv:v= .slice VA vl vc)(hu:u= .slice UA ul uc)(c:Ch)(e:Int)(hl:l.length≤100000)(w:World)(h:BxA w wA.heap.size B l)(hX:Ext wA w)(hst:StOk w s mb) :
 Calls Tryz.prog 144 #[mg k i f t v,chV u c, .int .i64 e, .pointer (some ⟨B,0,none⟩)] w fun r w'=>r= .returned (.tuple #[])∧BxA w' wA.heap.size B (l++[e])∧Ext wA w'∧w'.heap[s]? = w.heap[s]? ∧ w'.heap[mb]? = w.heap[mb]? := by
 obtain⟨sv,hO,ho,hB⟩:=h
 subst hv;subst hu
 obtain⟨A,cap,rfl⟩:=own_form ho
 have hlt:=hO.lt
 have c0:=hO.cell 0 rfl
 haveI:In B w:=⟨hlt⟩
 have hbase:=hX.size
 have hne1:=hst.ne_ob hO (by decide)
 have hne2:=hide (hst.ne_own ho (by decide))
 have hnB:=hO.not_own ho (by decide)
 have hge:=hide (ob_ge ho)
 replace hO:=hide hO
 replace ho:=hide ho
 have hsrc:Src Tryz.prog 1 160 (.slice (some ⟨w.heap.size+1+1,0,none⟩) 1 1) 1 [.int .i64 e] (((w.alloc (mO k i f t (.slice VA vl vc))).alloc (.cells (chO (.slice UA ul uc) c).toArray 39)).alloc (.cells #[.int .i64 e] 27)):=by
  have:=src_one (P:=Tryz.prog) Tryz.underlying160 ((w.alloc (mO k i f t (.slice VA vl vc))).alloc (.cells (chO (.slice UA ul uc) c).toArray 39)) (.int .i64 e) 27 rfl
  rw[World.size_alloc,World.size_alloc] at this
  exact this
 replace hsrc:=hide hsrc
 go_enter Tryz.func144,Tryz.ntmps144
 go_wp2_with (at_builtin;(refine wpl_app tErn rfl (.tmp 7) (.tmp 9) rfl rfl (own_ext ho.out (Gn.ext (w:=w))) rfl hsrc.out (by unfold maxLen;omega) (by omega) (by first|omega|(simp;omega)) ?_;intro v1 w1 ho1 hg1 hob1;replace hg1:World.grownBy _ w1 (Value.slice A l.length cap).ownBlock:=hg1;have hXb:=(Gn.ext (w:=w):Ext w ((((w.alloc (mO k i f t (.slice VA vl vc))).alloc (.cells (chO (.slice UA ul uc) c).toArray 39)).alloc (.cells #[.int .i64 e] 27))));have O1:=(hO.out.ext hXb).grown hg1 (fun e=>hnB e.symm);have k0:=O1.cell 0 rfl;have z0:=O1.free 0;have hlt1:=O1.lt;haveI:In B w1:=⟨hlt1⟩;obtain⟨A1,cp1,rfl⟩:=own_form ho1))
 go_end0
 have hF:=((Fr.of_ext (S:=B::ob (.slice A l.length cap)) hXb).then (fr_grown hg1) (fun x hx=> .inl (by simp;exact .inr (by simpa [ob] using hx)))).setCell ⟨B,0,none⟩ (.slice A1 (l.length+1) cp1) (.inl (by simp))
 have hP:=put_done hF hX (by
  intro b hb
  rcases List.mem_cons.1 hb with rfl|hb
  ·exact⟨hB,hne1⟩
  ·exact⟨(hge.out b hb).1,hne2.out b hb⟩) hst
 refine⟨rfl,⟨.slice A1 (l.length+1) cp1,O1.set 0 _,?_,hB⟩,hP⟩
 have h1:=own_stay ho1 ((Fr.refl [B] w1).setCell ⟨B,0,none⟩ (.slice A1 (l.length+1) cp1) (.inl (by simp))) (by intro b hb;rw[List.mem_singleton.1 hb];exact O1.nt (by decide))
 rw[List.length_append,List.length_singleton]
 unfold ns at h1 ⊢
 rw[List.map_append]
 exact h1
abbrev OwnCh:=OwnX 39 6 chO (fun c:Ch=>c.2.1)
def BxH(w:World)(base B:Nat)(L:List (Value×Ch)):Prop:=∃sv,Ob w B 53 [sv]∧OwnCh w base sv L∧base≤B
theorem BxH.ext{w w':World}{base B:Nat}{L:List (Value×Ch)}(h:BxH w base B L)(k:Ext w w'):BxH w' base B L:=by obtain⟨sv,h1,h2,h3⟩:=h;exact⟨sv,h1.ext k,h2.ext k,h3⟩
theorem BxH.stay{w w':World}{base B s mb:Nat}{L:List (Value×Ch)}(h:BxH w base B L)(hst:StOk w s mb)(hF:Fr [s,mb] w w'):BxH w' base B L:=by
 obtain⟨sv,h1,h2,h3⟩:=h
 have hne:=hst.ne_ob h1 (by decide)
 exact⟨sv,h1.fr hF (by simp only[List.mem_cons,List.not_mem_nil,or_false];omega),h2.stay hF (fun b hb=>⟨hst.nt (by decide) b hb,hst.nt (by decide) b hb⟩),h3⟩
theorem isChange_c(UA:Option Addr)(ul uc:Nat)(c:Ch)(w:World):Calls Tryz.prog 93 #[chV (.slice UA ul uc) c] w fun e w'=>e= .returned (.bool (decide (0<c.1)))∧Ext w w':=by
 obtain⟨cs,cr,⟨o1,o2⟩,n1,n2⟩:=c
 by_cases h:0<cs
 ·have hI:(0:Int)<cs:=by omega
  have d1:decide (0<cs)=true:=decide_eq_true h
  go_enter Tryz.func93,Tryz.ntmps93
  go_wp2_with fail
  go_returns
  exact⟨by simp[h],(Ext.refl w).alloc _⟩
 ·have hI:¬(0:Int)<cs:=by omega
  obtain rfl:cs=0:=by omega
  go_enter Tryz.func93,Tryz.ntmps93
  go_wp2_with fail
  go_returns
  exact⟨by simp,(Ext.refl w).alloc _⟩
theorem chO_new(u:Value)(c:Ch)(w:World):Sl (w.alloc (.cells (chO u c).toArray 39)) [] 6 (.slice (some ⟨w.heap.size,0,none⟩) 1 1) 1 (chO u c) :=
 Sl.own (World.ownsRow_lit (base:=w.heap.size) (e:=39) (size:=6) w (chO u c).toArray 1 (Nat.le_refl _) (by decide) rfl) (by simp)
theorem chO_one{UA:Option Addr}{ul uc:Nat}{c:Ch}:∀x∈chO (.slice UA ul uc) c,x.oneCell'=true:=by
 intro x hx;simp[chO] at hx;rcases hx with rfl|rfl|rfl|rfl|rfl|rfl<;>rfl
theorem chgPut_c(wA:World)(B s mb:Nat)(L:List (Value×Ch))(k i f t:Int)(u v:Value)(VA:Option Addr)(vl vc:Nat)(hv:v= .slice VA vl vc)(c:Ch)(hu:Rw wA [] u c.2.1)(hr8:c.2.1.length≤8)(e:Int)(hl:L.length≤100000)(w:World)(h:BxH w wA.heap.size B L)(hX:Ext wA w)(hst:StOk w s mb) :
 Calls Tryz.prog 92 #[mg k i f t v,chV u c, .int .i64 e, .pointer (some ⟨B,0,none⟩)] w fun r w'=>r= .returned (.tuple #[])∧(∃L',BxH w' wA.heap.size B L'∧L'.map Prod.snd=L.map Prod.snd++(if decide (0<c.1) then [c] else []))∧Ext wA w'∧w'.heap[s]? = w.heap[s]? ∧ w'.heap[mb]? = w.heap[mb]? := by
 have hcp:=hide (fun w' (hx:Ext wA w')=>rowCopy_c c.2.1 u w' (Sl.ext hu hx) (by omega))
 obtain⟨UA,uc,eu⟩:=rw_val hu
 subst hv;subst eu
 have hic:=hide (fun w=>isChange_c UA c.2.1.length uc c w)
 have hh:=h
 obtain⟨sv,hO,ho,hB⟩:=h
 obtain⟨A,cap,rfl⟩:=ho.form
 have hlt:=hO.lt
 have q0:=hO.cell 0 rfl
 haveI:In B w:=⟨hlt⟩
 have hbase:=hX.size
 have hne1:=hst.ne_ob hO (by decide)
 have hnB:=hO.not_own ho.1 (by decide)
 replace hO:=hide hO
 replace ho:=hide ho
 cases hc:decide (0<c.1)
 ·rw[hc] at hic
  replace hh:=hide hh
  go_enter Tryz.func92,Tryz.ntmps92
  go_wp2_with (go_at_call 93;first|((with_reducible refine seq_gw' (hic.out _) ?_);intro g1)|((with_reducible refine seq_gw (hic.out _) ?_);intro g1))
  go_end0
  have hXb:=(Gn.ext (w:=w):Ext w g1.val)
  exact⟨rfl,⟨L,hh.out.ext hXb,by simp⟩,put_done (Fr.of_ext (S:=[]) hXb) hX (by simp) hst⟩
 ·rw[hc] at hic
  obtain⟨cs,cr,⟨o1,o2⟩,n1,n2⟩:=c
  simp only at hr8 hcp hic
  clear hh hu
  have hOc0:=hide (show Ob ((w.alloc (mO k i f t (.slice VA vl vc))).alloc (.cells (chO (.slice UA cr.length uc) (cs,cr,(o1,o2),n1,n2)).toArray 39)) (w.heap.size+1) 39 (chO (.slice UA cr.length uc) (cs,cr,(o1,o2),n1,n2)) by
   have:=Ob.new (w.alloc (mO k i f t (.slice VA vl vc))) 39 (chO (.slice UA cr.length uc) (cs,cr,(o1,o2),n1,n2))
   rw[World.size_alloc] at this
   exact this)
  go_enter Tryz.func92,Tryz.ntmps92
  go_wp2_with (first|(go_at_call 93;first|((with_reducible refine seq_gw' (hic.out _) ?_);intro g1)|((with_reducible refine seq_gw (hic.out _) ?_);intro g1))|(go_at_call 53;(refine (hcp.out g1.val (hX.trans (Gn.ext (w:=w)))).mono ?_;rintro ee w2 ⟨v2,rfl,ho2,hx2⟩;obtain⟨A2,c2,e2⟩:=own_form ho2;subst e2;have hX2:=hide ((Gn.ext (w:=w):Ext w g1.val).trans hx2);have hOc:=hOc0.out.ext (g1.grown.trans hx2);have y0:=hOc.cell 0 rfl;have y1:=hOc.cell 1 rfl;have y2:=hOc.cell 2 rfl;have y3:=hOc.cell 3 rfl;have y4:=hOc.cell 4 rfl;have y5:=hOc.cell 5 rfl;have e1:=hOc.free 1;have yl:=hOc.lt;haveI:In (w.heap.size+1) w2:=⟨yl⟩;have hOB:=hO.out.ext hX2.out;have b0:=hOB.cell 0 rfl;have bl:=hOB.lt;haveI:In B w2:=⟨bl⟩;have hR2:Hid (RwO w2 (.slice A2 cr.length c2) cr):=own_base ho2 (Nat.zero_le _);replace hOc:=hide hOc;have hsrc:=hide (show Sl ((w2.setCell ⟨w.heap.size+1,1,none⟩ (.slice A2 cr.length c2)).alloc (.cells (chO (.slice A2 cr.length c2) (cs,cr,(o1,o2),n1,n2)).toArray 39)) [] 6 (.slice (some ⟨w2.heap.size,0,none⟩) 1 1) 1 (chO (.slice A2 cr.length c2) (cs,cr,(o1,o2),n1,n2)) by (have:=chO_new (.slice A2 cr.length c2) (cs,cr,(o1,o2),n1,n2) (w2.setCell ⟨w.heap.size+1,1,none⟩ (.slice A2 cr.length c2));rw[World.size_setCell] at this;exact this));have hXW:=hide ((hX2.out.setCell (p:=⟨w.heap.size+1,1,none⟩) (Nat.le_succ _) (.slice A2 cr.length c2)).alloc (.cells (chO (.slice A2 cr.length c2) (cs,cr,(o1,o2),n1,n2)).toArray 39));have hRW:=hide (((RwO.stay hR2.out ((Fr.refl [w.heap.size+1] w2).setCell ⟨w.heap.size+1,1,none⟩ (.slice A2 cr.length c2) (.inl (by simp))) (by intro b hb;rw[List.mem_singleton.1 hb];exact hOc.out.nt (by decide)))).ext ((Ext.refl _).alloc (.cells (chO (.slice A2 cr.length c2) (cs,cr,(o1,o2),n1,n2)).toArray 39)));clear ho2 hx2 hOB))|(at_builtin;(refine wpl_app tChs rfl (.tmp 13) (.tmp 15) rfl rfl (ho.out.ext hXW.out).1 rfl (src_sl Tryz.underlying53 hsrc.out chO_one (by omega)) (by unfold maxLen;omega) (by omega) (by simp only[World.size_alloc,World.size_setCell];omega) ?_;intro v1 w1 ho1 hg1 hob1;replace hg1:World.grownBy _ w1 (Value.slice A L.length cap).ownBlock:=hg1;have O1:=(hO.out.ext hXW.out).grown hg1 (fun e=>hnB e.symm);have k0:=O1.cell 0 rfl;have z0:=O1.free 0;have hlt1:=O1.lt;haveI:In B w1:=⟨hlt1⟩;have hN1:=hide ((ho.out.ext hXW.out).app (M:=[((.slice A2 cr.length c2),(cs,cr,(o1,o2),n1,n2))]) (by decide) (by simpa using ho1) hg1 (by intro p hp;rw[List.mem_singleton.1 hp];exact hRW.out));obtain⟨A1,cp1,rfl⟩:=own_form ho1)))
  go_end0
  have hge:=ob_ge ho.out.1
  have hne2:=hst.ne_own ho.out.1 (by decide)
  have hF:=((Fr.of_ext (S:=B::ob (.slice A L.length cap)) hXW.out).then (fr_grown hg1) (fun x hx=> .inl (by simp;exact .inr (by simpa [ob] using hx)))).setCell ⟨B,0,none⟩ (.slice A1 (L.length+1) cp1) (.inl (by simp))
  have hP:=put_done hF hX (by
   intro b hb
   rcases List.mem_cons.1 hb with rfl|hb
   ·exact⟨hB,hne1⟩
   ·exact⟨(hge b hb).1,hne2 b hb⟩) hst
  refine⟨rfl,⟨L++[((.slice A2 cr.length c2),(cs,cr,(o1,o2),n1,n2))],⟨.slice A1 (L.length+1) cp1,O1.set 0 _,?_,hB⟩,by simp⟩,hP⟩
  exact hN1.out.stay ((Fr.refl [B] w1).setCell ⟨B,0,none⟩ (.slice A1 (L.length+1) cp1) (.inl (by simp))) (by intro b hb;rw[List.mem_singleton.1 hb];exact⟨O1.nt (by decide),O1.nt (by decide)⟩)
end Go.Proofs.YtajelkkiijdegaaGreat
