/-
  A helper of ours: no claim of its own. Layer 12 (bag): the functions that the rows of edges have with these, by the code.
-/
import Derived.Test.YtajelkkiijdegaaGreatReg
import Derived.Test.YtajelkkiijdegaaGreatEdgGs
import Derived.Test.YtajelkkiijdegaaGreatEdgGx
import Derived.Test.YtajelkkiijdegaaGreatStepD
import Derived.Test.YtajelkkiijdegaaGreatStepV
set_option linter.unusedVariables false
set_option linter.unusedSimpArgs false
set_option linter.unusedSectionVars false
set_option maxHeartbeats 64000000
set_option maxRecDepth 100000
namespace Go.Proofs.YtajelkkiijdegaaGreat
open Go.RowKit
attribute [local go_sem] GW.cell GW.frozen In.eq_true In.le_true In.ne In.ne' In.ne_add In.ne_add' In.lt_add Upto.le_true Upto.le_add Upto.lt_add Oper.semAt_some wide_depth wide_fn
section
variable {α:Type} {f:α→Lit×Value} {P:Program} {k:TypeId} {w:World} {b n:Nat} {M:List α} {ops:Array Oper} {rest:List Oper} {o:Oper} {a:Act} {Q:Exit→Act→World→Prop} {F:Fence} {d:Nat}
theorem wplIn_mstore{t e:TypeId}(hg:o.guard=none)(m x v:Operand)(hop:o.op=Op.mapUpdate t m x v){key:Value}(y:α)(hm:a.eval m= .map (some b))(hx:a.eval x=key)(hv:a.eval v=(f y).2)(K:Go.Maps.Keyed P k)(ht:P.underlying t=some (.map k e))(hn:n<maxLen)(h:Mv w P k f b n M)(hkey:keyOf P k key=some (f y).1)
 (hK:∀w',Mv w' P k f b (n+1) (putM f M y)→w.grownBy w' (some b)→wpListIn F d P ops Q rest (a.put o.dst undef) w'):wpListIn F d P ops Q (o::rest) a w:=by
 refine wpListIn_plain hg fun K' hK'=>?_
 obtain⟨w',hrun,r1,r2⟩:=h.store K ht hn y hkey
 unfold Oper.wpIn
 refine⟨?_,?_⟩
 ·simp[Oper.about,hop]
 ·rw[Oper.semAt_plain F _ _ (by rw[hop];intro c hc';cases hc')]
  simp[execOp,hop,hm,hx,hv,hrun,Result.andThen]
  exact hK' _ _ (hK w' r1 r2)
theorem Mv.isMap(h:Mv w P k f b n M):∃es c,w.heap[b]? = some (.map es c):=by
 obtain⟨es,⟨es',c,h,_⟩,_⟩:=h
 exact⟨es',c,h⟩
theorem Stab.mv{B:Nat}(hb:b<B):Stab B fun W=>Mv W P k f b n M :=
 ⟨fun A C x e=>x.kept (ext_by e) (by simp),fun A l o o' x hl _ _=>x.kept (put_grown A l o') (by simp;omega)⟩
end
theorem sl_map{w:World}{S:List Nat}{sz n b:Nat}{v:Value}{xs:List Value}(h:Sl w S sz v n xs)(hm:∃es c,w.heap[b]? = some (.map es c)):Sl w (b::S) sz v n xs:=by
 obtain⟨A,cap,rfl,h1,h2,h3,h4⟩:=h
 refine⟨A,cap,rfl,h1,h2,h3,?_⟩
 rcases h4 with h4|⟨c,p,e,hcS,hc⟩
 ·exact .inl h4
 ·rcases xs with _|⟨x,xs⟩
  ·exact .inl rfl
  ·refine .inr ⟨c,p,e,fun m=>?_,hc⟩
   rcases List.mem_cons.1 m with m|m
   ·subst m
    obtain⟨es,k,hm⟩:=hm
    have q:=hc 0 x rfl
    simp[World.cell?,hm] at q
   ·exact hcS m
theorem ew_map{w:World}{S:List Nat}{v:Value}{L:List Ve}{b:Nat}(h:Ew w S v L)(hm:∃es c,w.heap[b]? = some (.map es c)):Ew w (b::S) v L:=⟨sl_map h.1 hm,fun p hp=>sl_map (h.2 p hp) hm⟩
theorem sl_own_kind{w:World}{base e sz n:Nat}{v:Value}{xs:List Value}{S:List Nat}(h:w.ownsRow base e sz v n xs)(hS:∀k,v.ownBlock=some k→k∉S):Sl w S sz v n xs:=by
 obtain⟨A,cap,e1,h1,h2,h3,h4⟩:=Sl.own (S:=[]) h (by simp)
 refine⟨A,cap,e1,h1,h2,h3,?_⟩
 rcases h4 with h4|⟨c,p,e2, -,hc⟩
 ·exact .inl h4
 ·exact .inr ⟨c,p,e2,hS c (by rw[e1,e2];rfl),hc⟩
theorem keepsF_fr{B:Nat}{S:List Nat}{W W':World}(h:Fr S W W')(hS:∀y∈S,y<B):KeepsFrom B W W' :=
 ⟨h.size,fun k o hk ho _=>(h.block k (lt_of_block ho) (fun m=>by have:=hS k m;omega)).trans ho⟩
theorem own_not_map{w:World}{base e sz n b:Nat}{v:Value}{xs:List Value}(h:w.ownsRow base e sz v n xs)(hm:∃es c,w.heap[b]? = some (.map es c)):v.ownBlock≠some b:=by
 rcases h.2 with ⟨rfl,_⟩|⟨g,cap,cur,rfl,_,hh,_⟩
 ·simp[Value.ownBlock]
 ·intro he
  obtain rfl:g=b:=by simpa [Value.ownBlock] using he
  obtain⟨es,c,hm⟩:=hm
  rw[hh] at hm
  cases hm
theorem key_other{G:List Gp}(hp:(G.map Prod.fst).Pairwise rlt)(hv:∀g∈G,mayR g.1=true∧∀x∈g.1,inI x.2.1){k:Nat}{x:Gp}(hx:G[k]? = some x){g:Gp}(hg:g∈G.take k):rowB g.1≠rowB x.1:=by
 obtain⟨hk,hxe⟩:=List.getElem?_eq_some_iff.1 hx
 obtain⟨i,hi,hge⟩:=List.mem_take_iff_getElem.1 hg
 have h1:=List.pairwise_iff_getElem.1 hp i k (by rw[List.length_map];omega) (by rw[List.length_map];omega) (by omega)
 rw[List.getElem_map,List.getElem_map,hge,hxe] at h1
 intro h2
 have v1:=hv g (List.mem_of_mem_take hg)
 have v2:=hv x (List.mem_of_getElem? hx)
 exact rlt_ne h1 ((rowB_inj v1.1 v2.1 v1.2 v2.2).1 h2)
def sumG(T:List Fe)(g:Gp):Gp:=(g.1,twR addO (jmpAt T g.1) g.2)
def sumE(T:List Fe)(g:Gp):Int:=twE addO (jmpAt T g.1) g.2
def FbM(mN b:Nat)(W:World):Prop:=b≠mN
abbrev IS(w:World)(b2 b4 b5 b6 mN B mb:Nat)(K:List Nat)(T:List Fe)(B0:Nat)(G:List Gp)(k:Nat)(W:World):Prop :=
 ((Ob W b4 116 [.map none]∧Ob W b5 27 [.int .i64 0])∧(Ob W b2 65 [.pointer (some ⟨B,0,none⟩)]∧Ob W b6 116 [.map (some mN)])) ∧
 ((∃U:List Fe,(Mv W Tryz.prog 9 (fent rowB) mN U.length U∧∀p,∀(_:p∈U),Rw W (mN::B::mb::b4::b5::K) p.1 p.2.2.1∧Jw W (mN::B::mb::b4::b5::K) p.2.1 p.2.2.2)∧((U.map (·.2.2)).Perm ((G.take k).map (sumG T))∧∀g∈G.take k,sumE T g=0))∧(Ext w W∧B0≤W.heap.size))
theorem IS.stab(w:World)(b2 b4 b5 b6 mN B mb:Nat)(K:List Nat)(T:List Fe)(B0:Nat)(G:List Gp)(k C:Nat)(hC:w.heap.size≤C)(hm:mN<C):Stab C (IS w b2 b4 b5 b6 mN B mb K T B0 G k) :=
 (((Stab.ob _ _ _).and (Stab.ob _ _ _)).and ((Stab.ob _ _ _).and (Stab.ob _ _ _))).and ((Stab.ex fun U=>((Stab.mv hm).and (Stab.all fun p=>Stab.all fun _=>(Stab.sl _ _ _ _ _).and (Stab.sl _ _ _ _ _))).and (Stab.pure _)).and ((Stab.of_ext hC).and ⟨fun A C h e=>Nat.le_trans h e.size,fun A l o o' h _ _ _=>by simpa using h⟩))
abbrev IxS(w:World)(b4 b5:Nat)(T:List Fe)(G:List Gp)(c:Code)(k:Nat)(W:World):Prop :=
 c= .ret∧((∃E:Int,(∃g∈G,sumE T g≠0∧E=sumE T g)∧(Ob W b4 116 [.map none]∧Ob W b5 27 [.int .i64 E]))∧Ext w W)
theorem IxS.stab(w:World)(b4 b5:Nat)(T:List Fe)(G:List Gp)(c:Code)(k C:Nat)(hC:w.heap.size≤C):Stab C (IxS w b4 b5 T G c k) :=
 (Stab.pure _).and ((Stab.ex fun E=>(Stab.pure _).and ((Stab.ob _ _ _).and (Stab.ob _ _ _))).and (Stab.of_ext hC))
theorem jmpAt_look{S:List Nat}{B mb n:Nat}{mk:Int}{T:List Fe}{w:World}(h:Bg rowB w S B mb n mk T)(r:List Vl)(hrl:(rowB r).length≤1000000000):∃v1 JB jc,(∀w',Ext w w'→(Instr.lookup 116 (.map (some mb)) (.string ⟨(rowB r).toArray⟩) false).run Tryz.prog w'= .ok (.agg #[v1, .slice JB (jmpAt T r).length jc]) w')∧Jw w [] (.slice JB (jmpAt T r).length jc) (jmpAt T r):=by
 have hkey:keyOf Tryz.prog 9 (.string ⟨(rowB r).toArray⟩)=some (.string (rowB r)):=by
  have:=Go.WideMaps.keyOf_string_mk (P:=Tryz.prog) (k:=9) Tryz.underlying9 (s:=⟨(rowB r).toArray⟩) (by show (rowB r).toArray.size≤_;rw[List.size_toArray];unfold maxLen;omega)
  simpa using this
 have hz0:∀w',(zeroValue 124).run Tryz.prog w'= .ok (.agg #[.slice none 0 0, .slice none 0 0]) w':=fun _=>by kernel_rfl
 have key1:∀w',Ext w w'→(Instr.lookup 116 (.map (some mb)) (.string ⟨(rowB r).toArray⟩) false).run Tryz.prog w'= .ok (((getM (fent rowB) T (.string (rowB r))).map fun q=>(fent rowB q).2).getD (.agg #[.slice none 0 0, .slice none 0 0])) w':=fun w' hX=>(h.2.1.kept (ext_by hX) (by simp)).lookup fnKey Tryz.underlying116 (hz0 _) hkey
 unfold jmpAt
 cases hgm:getM (fent rowB) T (.string (rowB r)) with
 |none =>
  rw[hgm] at key1
  exact⟨.slice none 0 0,none,0,key1,Sl.nil _ _ _⟩
 |some q2 =>
  rw[hgm] at key1
  have hmem:=List.mem_of_find?_eq_some hgm
  have hjw:=(h.2.2 q2 hmem).2
  obtain⟨J2,c2,e2, -⟩:=jw_form hjw
  refine⟨q2.1,J2,c2,fun w' hX=>?_,?_⟩
  ·rw[←e2];exact key1 w' hX
  ·rw[←e2];exact Sl.less hjw (by simp)
theorem bagSums_s(K:List Nat)(L:List Ve)(B mb n:Nat)(mk:Int)(T:List Fe)(v:Value)(w:World)(hC:Ew w [] v L)(hm:mayE (eds L)=true)(hin:∀e∈eds L,∀x∈e.1,inI x.2.1)(h:Bg rowB w (B::mb::K) B mb n mk T)(hBm:B≠mb)(hK:∀x∈K,∃T vs,Ob w x T vs∧T≠83):Calls Tryz.prog 65 #[.pointer (some ⟨B,0,none⟩),v] w fun e w' =>
 ((∀g∈grp (eds L),sumE T g=0)∧∃mN U,e= .returned (.tuple #[.map (some mN), .int .i64 0])∧Fm rowB w' (B::mb::K) mN U.length U∧mN≠mb∧mN≠B∧(U.map (·.2.2)).Perm ((grp (eds L)).map (sumG T))∧Ext w w') ∨
 (∃g∈grp (eds L),sumE T g≠0∧e= .returned (.tuple #[.map none, .int .i64 (sumE T g)])∧Ext w w'):=by
 have hKl:=hide (fun x (hx:x∈K)=>(show x<w.heap.size by obtain⟨T,vs,o, -⟩:=hK x hx;exact o.lt))
 have hKh:=hide hK
 clear hK
 have hgr:=hide (fun w' (hX:Ext w w')=>groups_c L v w' (hC.ext hX))
 have hrise:=(mayE_iff.1 hm).2.1
 have hgp:=hide (grp_rows hrise)
 obtain⟨G,hG⟩:∃G,G=grp (eds L):=⟨_,rfl⟩
 rw[←hG]
 have hpw:Hid ((G.map Prod.fst).Pairwise rlt):=by rw[hG];exact hgp.out.1
 have hGm:Hid (∀g∈G,mayJ g.2=true∧g.1.length≤8∧mayR g.1=true∧∀x∈g.1,inI x.2.1):=fun g hg=>by
  rw[hG] at hg
  obtain⟨e,he,er⟩:=(hgp.out.2.1 g.1).1 (List.mem_map.2 ⟨g,hg,rfl⟩)
  exact⟨(mayE_iff.1 hm).2.2 g hg,grp_r8 hm g hg,by rw[←er];exact hrise.1 e he,by rw[←er];exact hin e he⟩
 have hLl:L.length≤4096:=by have:=mayE_len hm;simpa [eds] using this
 have hm':=hide hm
 obtain⟨A,cap,rfl,hlc,hlm, -⟩:=ew_form hC
 replace hG:=hide hG
 clear hC hin hrise hm hgp
 have hBg:=hide h
 have hBl:=h.1.lt
 have hml:=h.2.1.lt
 have hmk:∀w,(Instr.makeMap 116 none).run Tryz.prog w= .ok (.map (some w.heap.size)) (w.alloc (.map #[] 0)):=fun _=>by kernel_rfl
 clear h
 obtain⟨O2,hO2⟩:∃O2:Obj,O2= .cells #[.pointer (some ⟨B,0,none⟩)] 65:=⟨_,rfl⟩
 obtain⟨O4,hO4⟩:∃O4:Obj,O4= .cells #[.map none] 116:=⟨_,rfl⟩
 obtain⟨O5,hO5⟩:∃O5:Obj,O5= .cells #[.int .i64 0] 27:=⟨_,rfl⟩
 obtain⟨O6,hO6⟩:∃O6:Obj,O6= .cells #[.map (some (w.heap.size+3))] 116:=⟨_,rfl⟩
 obtain⟨Wb,hWb⟩:∃Wb,Wb=((((w.alloc O2).alloc O4).alloc O5).alloc (.map #[] 0)).alloc O6:=⟨_,rfl⟩
 have hX0:Ext w Wb:=by rw[hWb];exact (((((Ext.refl w).alloc _).alloc _).alloc _).alloc _).alloc _
 have a2:Ob Wb w.heap.size 65 [.pointer (some ⟨B,0,none⟩)]:=by rw[hWb,hO2];exact ((((Ob.new w _ _).alloc _).alloc _).alloc _).alloc _
 have a4:Ob Wb (w.heap.size+1) 116 [.map none]:=by rw[hWb,hO4];have:=((((Ob.new (w.alloc O2) 116 [.map none]).alloc O5).alloc (.map #[] 0)).alloc O6);rwa [World.size_alloc] at this
 have a5:Ob Wb (w.heap.size+2) 27 [.int .i64 0]:=by rw[hWb,hO5];have:=((Ob.new ((w.alloc O2).alloc O4) 27 [.int .i64 0]).alloc (.map #[] 0)).alloc O6;rwa [World.size_alloc,World.size_alloc] at this
 have aN:Mv Wb Tryz.prog 9 (fent rowB) (w.heap.size+3) 0 []:=by rw[hWb];have:=(Mv.made (fent rowB) (((w.alloc O2).alloc O4).alloc O5) Tryz.prog 9).alloc O6;rwa [World.size_alloc,World.size_alloc,World.size_alloc] at this
 have a6:Ob Wb (w.heap.size+4) 116 [.map (some (w.heap.size+3))]:=by rw[hWb,hO6];have:=Ob.new ((((w.alloc O2).alloc O4).alloc O5).alloc (.map #[] 0)) 116 [.map (some (w.heap.size+3))];rwa [World.size_alloc,World.size_alloc,World.size_alloc,World.size_alloc] at this
 rw[hO2,hO4,hO5,hO6] at hWb
 clear hO2 hO4 hO5 hO6
 have hgb:=hgr.out Wb hX0
 replace hgb:=hide hgb
 have hX0h:=hide hX0
 refine calls_marks Tryz.func65 rfl ?_
 simp only[Tryz.ntmps65,List.size_toArray,List.length_cons,List.length_nil,Nat.reduceAdd,Nat.reduceSub,Array.replicate_succ,Array.replicate_zero,List.push_toArray,List.append_toArray,List.nil_append,List.cons_append]
 go_wp2_with (go_at_call 122;rw[←hWb];(refine hgb.out.mono ?_;rintro ee w1 ⟨b,rfl,v1,M,hb,hM,hMe,hX1⟩))
 rw[if_pos hm'.out] at hM
 have p2:=a2.ext hX1
 have p4:=a4.ext hX1
 have p5:=a5.ext hX1
 have p6:=a6.ext hX1
 have pN:=aN.kept (ext_by hX1) (by simp)
 have hXw:Ext w w1:=hX0.trans hX1
 have hzw:=hXw.size
 clear hgr hgb hWb a2 a4 a5 a6 aN hX0 hX0h hX1 hm' hmk
 simp only[Nat.add_assoc,Nat.reduceAdd]
 generalize hb4:w.heap.size+1=b4 at *
 generalize hb5:w.heap.size+2=b5 at *
 generalize hbN:w.heap.size+3=mN at *
 generalize hb6:w.heap.size+4=b6 at *
 have hmN:=pN.lt
 have hb6l:=p6.lt
 have hG2:G=grp (eds M):=by rw[hG.out,hM]
 have hML:M.length≤4096:=by have:=congrArg List.length hM;simp only[eds,List.length_map] at this;omega
 have hGl:G.length≤4096:=by rw[hG2];have:=grp_len2 (eds M);simp only[eds,List.length_map] at this ⊢;omega
 have hseq:=groups_seqx [mN] M v1 w1 w1 b (ew_map hMe pN.isMap) (by omega) (fun g hg=>Nat.le_trans (hGm.out g (by rw[hG2];exact hg)).2.1 (by omega)) (Ext.refl _) hb
 rw[←hG2] at hseq
 clear hG2 hMe hM
 refine wp_rangeX2 (X:=[mN]) (xs:=G) rfl (enters_of Tryz.func175 (by kernel_rfl) rfl) hseq (Ext.refl _) (Nat.le_refl _) (fun x vs W h=>h.size) (fun x vs=>Hgg.stab x vs)
  (FbM mN) (fun b=>Stab.pure _) (IS w w.heap.size b4 b5 b6 mN B mb K T w1.heap.size G)
  (fun k A o hI=>by obtain⟨_,⟨U,⟨hMv,_⟩,_⟩,_⟩:=hI;have:=hMv.lt;show A.heap.size≠mN;omega)
  (IxS w b4 b5 T G)
  (fun k=>IS.stab w _ _ _ _ _ _ _ _ _ _ _ k _ hzw hmN)
  (fun c k=>IxS.stab w _ _ _ _ c k _ hzw)
  ⟨⟨⟨p4,p5⟩,p2,p6⟩,⟨[],⟨pN,by simp⟩,by simp,by simp⟩,hXw,Nat.le_refl _⟩
  (fun k x vs a' _=>∃r f,vs= #[r,f]∧a'={ tmps:= #[.pointer (some ⟨B,0,none⟩), .slice A L.length cap, .pointer (some ⟨w.heap.size,0,none⟩),undef, .pointer (some ⟨b4,0,none⟩), .pointer (some ⟨b5,0,none⟩), .pointer (some ⟨b6,0,none⟩),r,f,undef,undef,undef, .map (some mN), .slice A L.length cap, .func (.func 175) #[] #[.pointer (some ⟨b,0,none⟩)],r,f,undef,undef,undef,undef,undef,undef,undef,undef,undef,undef,undef,undef,undef,undef,undef,undef,undef,undef,undef,undef,undef,undef,undef],defers:=[]})
  (fun k x vs a'=>Stab.pure _) ?assign ?body ?done ?stop
 case assign =>
  rintro LL k x vs W K _ ⟨r,f,rfl, -, -⟩ hK
  gi_wp2
  exact hK _ _ (Ext.refl _) ⟨r,f,rfl,rfl⟩
 case body =>
  rintro LL k x vs a' W hx ⟨⟨⟨o4,o5⟩,o2,o6⟩,⟨U,⟨hMv,hUr⟩,hUp,hU0⟩,hXk,h1W⟩ ⟨r',f',e',hr,hf⟩ ⟨r,f,rfl,rfl⟩
  obtain⟨rfl,rfl⟩:r=r'∧f=f':=by simpa using e'
  obtain⟨q,J⟩:=x
  obtain⟨hJm,hq8,hqm,hqi⟩:=hGm.out (q,J) (List.mem_of_getElem? hx)
  simp only at hJm hq8 hqm hqi hr hf
  have hBW:=hBg.out.ext hXk
  have hBo:=hide hBW.1
  have hrl:=rowB_len hqi
  have hkc:=hide (rowKey_c q hqi r W (Sl.own (S:=[]) hr (by simp)))
  obtain⟨v1',JB,jc,hlk,hjl⟩:=jmpAt_look hBW q (by omega)
  have hkey:keyOf Tryz.prog 9 (.string ⟨(rowB q).toArray⟩)=some (.string (rowB q)):=by
   have:=Go.WideMaps.keyOf_string_mk (P:=Tryz.prog) (k:=9) Tryz.underlying9 (s:=⟨(rowB q).toArray⟩) (by show (rowB q).toArray.size≤_;rw[List.size_toArray];unfold maxLen;omega)
   simpa using this
  have hadd:=hide (fun w' (hX:Ext W w')=>stepAdd_c (jmpAt T q) J (.slice JB (jmpAt T q).length jc) f w' (Sl.ext hjl hX) (Sl.ext (own_jw (S:=[]) hf (by simp)) hX))
  have hother:=hide (fun g (hg:g∈G.take k)=>key_other hpw.out (fun g hg=>⟨(hGm.out g hg).2.2.1,(hGm.out g hg).2.2.2⟩) hx hg)
  have hrS:=hide (show Rw W (mN::B::mb::b4::b5::K) r q from sl_own_kind hr (fun k hk hm=>by
   simp only[List.mem_cons,List.not_mem_nil,or_false] at hm
   rcases hm with rfl|rfl|rfl|rfl|rfl|hm
   ·exact own_not_map hr hMv.isMap hk
   ·exact Ob.not_own hBW.1 hr (by decide) hk
   ·exact own_not_map hr hBW.2.1.isMap hk
   ·exact Ob.not_own o4 hr (by decide) hk
   ·exact Ob.not_own o5 hr (by decide) hk
   ·obtain⟨T9,vs9,o9,n9⟩:=hKh.out k hm;exact Ob.not_own (o9.ext hXk) hr n9.symm hk))
  obtain⟨RA,rcap,rfl⟩:=own_form hr
  obtain⟨JA,jcap,rfl⟩:=own_form hf
  have hUl:U.length<maxLen:=by
   have h1:=hUp.length_eq
   rw[List.length_map,List.length_map,List.length_take] at h1
   unfold maxLen;omega
  have hmem:=hide (List.mem_of_getElem? hx)
  have hx':=hide hx
  have hMv':=hide hMv
  have hUr':=hide hUr
  have hUp':=hide hUp
  have hU0':=hide hU0
  have hXk':=hide hXk
  have hlk':=hide hlk
  have hfd:∀w':World,(Instr.field 124 (.agg #[v1', .slice JB (jmpAt T q).length jc]) 1).run Tryz.prog w'= .ok (.slice JB (jmpAt T q).length jc) w':=fun _=>by first|kernel_rfl|simp[go_sem]
  have hmbW:=hBW.2.1.lt
  have hBW0:=hBW.1.lt
  have hmNW:=hMv.lt
  have hb4W:=o4.lt
  have hb5W:=o5.lt
  have o4':=hide o4
  have o5':=hide o5
  have o2':=hide o2
  have o6':=hide o6
  obtain⟨Ks,hK⟩:∃K:ByteArray,K=⟨(rowB q).toArray⟩:=⟨_,rfl⟩
  rw[←hK] at hkc hlk' hkey
  replace hkey:=hide hkey
  clear hx hMv hUr hUp hU0 hXk hlk hr hf hBW hJm hqm hqi hrl hjl o4 o5 o2 o6 hK
  by_cases h0:twE addO (jmpAt T q) J=0
  ·rw[h0] at hadd
   generalize hR:twR addO (jmpAt T q) J=R at *
   replace hR:=hide hR
   replace h0:=hide h0
   gi_wp2_with (first|(gi_at_call 123;refine (in_round hkc.out).mono ?_;rintro ee W2 ⟨rfl,hX2⟩;have c2:=(o2'.out.ext hX2).cell 0 rfl;have cB:=(hBo.out.ext hX2).cell 1 rfl;have lk:=hlk'.out W2 hX2;have hz2:=hX2.size)|(gi_at_call 124;refine (in_round (hadd.out _ hX2)).mono ?_;rintro ee W3 ⟨v3,rfl,ho3,hX3⟩;obtain⟨A3,c3,rfl⟩:=own_form ho3;have c6:=(o6'.out.ext (hX2.trans hX3)).cell 0 rfl;have hM3:=hide (hMv'.out.kept (ext_by (hX2.trans hX3)) (by simp));replace ho3:=hide ho3)|(refine wplIn_mstore rfl (.tmp 34) (.tmp 35) (.tmp 38) rfl ((.slice RA q.length rcap, .slice A3 R.length c3,(q,R)):Fe) rfl rfl rfl fnKey Tryz.underlying116 hUl hM3.out hkey.out ?_;intro W4 hM4 hg4))
   have hX13:=hX2.trans hX3
   have hF:Fr [mN] W W4:=(Fr.of_ext hX13).grown hg4 (fun k hk=>by obtain rfl:=Option.some.inj hk;exact .inl (by simp))
   have hFy:Fr [mN] W3 W4:=(Fr.refl _ _).grown hg4 (fun k hk=>by obtain rfl:=Option.some.inj hk;exact .inl (by simp))
   have hsub:∀y,y∈[mN]→y∈(mN::B::mb::b4::b5::K):=fun y hy=>by simp only[List.mem_singleton] at hy;subst hy;simp
   have hne:∀y∈U,(fent rowB y).1.sameKey (fent rowB ((.slice RA q.length rcap, .slice A3 R.length c3,(q,R)):Fe)).1=false:=fun y hy=>by
    cases hs:(fent rowB y).1.sameKey (fent rowB ((.slice RA q.length rcap, .slice A3 R.length c3,(q,R)):Fe)).1
    ·rfl
    ·exfalso
     have h1:y.2.2∈(G.take k).map (sumG T):=hUp'.out.mem_iff.1 (List.mem_map.2 ⟨y,hy,rfl⟩)
     obtain⟨g,hg,e⟩:=List.mem_map.1 h1
     have h2:=WideAt.sameKey_eq hs
     simp only[fent] at h2
     have h3:rowB y.2.2.1=rowB q:=by injection h2
     rw[←e] at h3
     exact hother.out g hg h3
   have hM5:=hM4
   unfold putM at hM5
   rw[del_none (kl:=(fent rowB ((.slice RA q.length rcap, .slice A3 R.length c3,(q,R)):Fe)).1) hne] at hM5
   have hF2z:=hX2.size
   refine⟨keepsF_fr hF (by simp;exact hmN),belX_fr hF h1W (by simp),⟨⟨⟨o4'.out.fr hF (by simp;omega),o5'.out.fr hF (by simp;omega)⟩,o2'.out.fr hF (by simp;omega),o6'.out.fr hF (by simp;omega)⟩,⟨((.slice RA q.length rcap, .slice A3 R.length c3,(q,R)):Fe)::U,⟨hM5,fun p hp=>?_⟩,?_,?_⟩,ext_fr hXk'.out hF (by intro y hy;simp only[List.mem_singleton] at hy;omega),Nat.le_trans h1W hF.size⟩,fun y T us hy oy=>⟨hy,oy.fr hF (by simp;exact hy)⟩⟩
   ·rcases List.mem_cons.1 hp with rfl|hp
    ·exact⟨Sl.fr (Sl.ext hrS.out hX13) hFy hsub,Sl.fr (Sl.own ho3.out (fun y hy=>by simp only[List.mem_cons,List.not_mem_nil,or_false] at hy;rcases hy with hy|hy|hy|hy|hy|hy<;>first|omega|(have h9:=hKl.out y hy;omega))) hFy hsub⟩
    ·exact⟨Sl.fr (hUr'.out p hp).1 hF hsub,Sl.fr (hUr'.out p hp).2 hF hsub⟩
   ·have e1:G.take (k+1)=G.take k++[(q,J)]:=by rw[List.take_add_one,hx'.out,Option.toList_some]
    rw[e1,List.map_cons,List.map_append]
    have e2:sumG T (q,J)=(q,R):=by unfold sumG;rw[hR.out]
    rw[List.map_cons,List.map_nil,e2]
    exact (hUp'.out.cons _).trans (List.perm_append_singleton _ _).symm
   ·have e1:G.take (k+1)=G.take k++[(q,J)]:=by rw[List.take_add_one,hx'.out,Option.toList_some]
    intro g hg
    rw[e1] at hg
    rcases List.mem_append.1 hg with hg|hg
    ·exact hU0'.out g hg
    ·obtain rfl:=List.mem_singleton.1 hg
     exact h0.out
  ·obtain⟨E,hE⟩:∃E,E=twE addO (jmpAt T q) J:=⟨_,rfl⟩
   rw[←hE] at hadd h0
   have hEI:(E != 0)=true:=by simpa using h0
   replace hE:=hide hE
   have hb45:b4≠b5:=by omega
   gi_wp2_with (first|(gi_at_call 123;refine (in_round hkc.out).mono ?_;rintro ee W2 ⟨rfl,hX2⟩;have c2:=(o2'.out.ext hX2).cell 0 rfl;have cB:=(hBo.out.ext hX2).cell 1 rfl;have lk:=hlk'.out W2 hX2;have hz2:=hX2.size)|(gi_at_call 124;refine (in_round (hadd.out _ hX2)).mono ?_;rintro ee W3 ⟨v3,rfl,ho3,hX3⟩;obtain⟨A3,c3,rfl⟩:=own_form ho3;have x4:=o4'.out.ext (hX2.trans hX3);have x5:=o5'.out.ext (hX2.trans hX3);have k4:=x4.cell 0 rfl;have k5:=x5.cell 0 rfl;have f4:=x4.free 0;have f5:=x5.free 0;have l4:=x4.lt;have l5:=x5.lt;haveI:In b4 W3:=⟨l4⟩;haveI:In b5 W3:=⟨l5⟩;replace x4:=hide x4;replace x5:=hide x5))
   have z4:Ob ((W3.setCell ⟨b4,0,none⟩ (.map none)).setCell ⟨b5,0,none⟩ (.int .i64 E)) b4 116 [.map none]:=(x4.out.set 0 _).far _ _ hb45
   have z5:Ob ((W3.setCell ⟨b4,0,none⟩ (.map none)).setCell ⟨b5,0,none⟩ (.int .i64 E)) b5 27 [.int .i64 E]:=(x5.out.far ⟨b4,0,none⟩ _ (Ne.symm hb45)).set 0 _
   exact⟨keepsF_fr (S:=[b4,b5]) (((Fr.of_ext (hX2.trans hX3)).setCell ⟨b4,0,none⟩ _ (.inl (by simp))).setCell ⟨b5,0,none⟩ _ (.inl (by simp))) (by intro y hy;simp only[List.mem_cons,List.not_mem_nil,or_false] at hy;omega),rfl,⟨E,⟨(q,J),hmem.out,by unfold sumE;rw[←hE.out];exact h0,hE.out⟩,z4,z5⟩,((hXk'.out.trans (hX2.trans hX3)).setCell (p:=⟨b4,0,none⟩) (by show w.heap.size≤b4;omega) _).setCell (p:=⟨b5,0,none⟩) (by show w.heap.size≤b5;omega) _⟩
 case done =>
  rintro D W hD ⟨⟨⟨o4,o5⟩,o2,o6⟩,⟨U,⟨hMv,hUr⟩,hUp,hU0⟩,hXk,h1W⟩ hK
  rw[List.take_of_length_le (Nat.le_refl _)] at hUp hU0
  have hb45:b4≠b5:=by omega
  have q4:=o4.cell 0 rfl
  have q5:=o5.cell 0 rfl
  have q6:=o6.cell 0 rfl
  have f4:=o4.free 0
  have f5:=o5.free 0
  have l4:=o4.lt
  have l5:=o5.lt
  have l6:=o6.lt
  haveI:In b4 W:=⟨l4⟩
  haveI:In b5 W:=⟨l5⟩
  haveI:In b6 W:=⟨l6⟩
  have o4':=hide o4
  have o5':=hide o5
  have hMv':=hide hMv
  have hUr':=hide hUr
  have hUp':=hide hUp
  have hU0':=hide hU0
  have hXk':=hide hXk
  have hK':=hide hK
  clear o4 o5 o2 o6 hMv hUr hUp hU0 hXk hK
  go_wp2_with fail
  have y4:Ob ((W.setCell ⟨b4,0,none⟩ (.map (some mN))).setCell ⟨b5,0,none⟩ (.int .i64 0)) b4 116 [.map (some mN)]:=(o4'.out.set 0 _).far _ _ hb45
  have y5:Ob ((W.setCell ⟨b4,0,none⟩ (.map (some mN))).setCell ⟨b5,0,none⟩ (.int .i64 0)) b5 27 [.int .i64 0]:=(o5'.out.far ⟨b4,0,none⟩ _ (Ne.symm hb45)).set 0 _
  have hF2:Fr [b4,b5] W ((W.setCell ⟨b4,0,none⟩ (.map (some mN))).setCell ⟨b5,0,none⟩ (.int .i64 0)):=((Fr.refl [b4,b5] W).setCell ⟨b4,0,none⟩ _ (.inl (by simp))).setCell ⟨b5,0,none⟩ _ (.inl (by simp))
  have hK2:=(KeepsOthers.setCell (W.setCell ⟨b4,0,none⟩ (.map (some mN))) ⟨b5,0,none⟩ (.int .i64 0)).same D _ ((KeepsOthers.setCell W ⟨b4,0,none⟩ (.map (some mN))).same D _ hK'.out rfl) rfl
  have z4:=(ob_put (o':= .deferred none) hK2 rfl y4).cell 0 rfl
  have z5:=(ob_put (o':= .deferred none) hK2 rfl y5).cell 0 rfl
  have hM2:Mv ((W.setCell ⟨b4,0,none⟩ (.map (some mN))).setCell ⟨b5,0,none⟩ (.int .i64 0)) Tryz.prog 9 (fent rowB) mN U.length U:=by
   obtain⟨es,h1,h2⟩:=hMv'.out
   exact⟨es,(h1.setCell (by show mN≠b4;omega) _).setCell (by show mN≠b5;omega) _,h2⟩
  have hM3:=(Stab.mv (B:=mN+1) (P:=Tryz.prog) (k:=9) (f:=fent rowB) (b:=mN) (n:=U.length) (M:=U) (by omega)).put _ D _ (.deferred none) hM2 (by omega) hK2 rfl
  have hU2:∀p∈U,Rw (((W.setCell ⟨b4,0,none⟩ (.map (some mN))).setCell ⟨b5,0,none⟩ (.int .i64 0)).putObj D (.deferred none)) (B::mb::K) p.1 p.2.2.1∧Jw (((W.setCell ⟨b4,0,none⟩ (.map (some mN))).setCell ⟨b5,0,none⟩ (.int .i64 0)).putObj D (.deferred none)) (B::mb::K) p.2.1 p.2.2.2:=fun p hp =>
   ⟨Sl.less ((Stab.sl (B:=0) _ _ _ _ _).put _ D _ _ (Sl.fr (hUr'.out p hp).1 hF2 (by intro x hx;simp only[List.mem_cons,List.not_mem_nil,or_false] at hx;rcases hx with rfl|rfl<;>simp)) (Nat.zero_le _) hK2 rfl) (by intro x hx;simp only[List.mem_cons] at hx;rcases hx with rfl|rfl|hx<;>simp[*]),Sl.less ((Stab.sl (B:=0) _ _ _ _ _).put _ D _ _ (Sl.fr (hUr'.out p hp).2 hF2 (by intro x hx;simp only[List.mem_cons,List.not_mem_nil,or_false] at hx;rcases hx with rfl|rfl<;>simp)) (Nat.zero_le _) hK2 rfl) (by intro x hx;simp only[List.mem_cons] at hx;rcases hx with rfl|rfl|hx<;>simp[*])⟩
  refine ret_mark hK2 (v:= .tuple #[.map (some mN), .int .i64 0]) ?_ (.inl ⟨hU0'.out,mN,U,rfl,⟨hM3,hU2⟩,by omega,by omega,hUp'.out,put_ext ((hXk'.out.setCell (p:=⟨b4,0,none⟩) (by show w.heap.size≤b4;omega) _).setCell (p:=⟨b5,0,none⟩) (by show w.heap.size≤b5;omega) _) (by omega) _⟩)
  simp[results,Tryz.f65,go_sem,z4,z5]
 case stop =>
  rintro D c k W hD hk ⟨rfl,⟨E,⟨g,hg,hg0,rfl⟩,o4,o5⟩,hXk⟩ hK
  have hK':=hide hK
  go_wp2
  have z4:=(ob_put (o':= .deferred none) hK'.out rfl o4).cell 0 rfl
  have z5:=(ob_put (o':= .deferred none) hK'.out rfl o5).cell 0 rfl
  refine ret_mark hK'.out (v:= .tuple #[.map none, .int .i64 (sumE T g)]) ?_ (.inr ⟨g,hg,hg0,rfl,put_ext hXk (by omega) _⟩)
  simp[results,Tryz.f65,go_sem,z4,z5]
end Go.Proofs.YtajelkkiijdegaaGreat
