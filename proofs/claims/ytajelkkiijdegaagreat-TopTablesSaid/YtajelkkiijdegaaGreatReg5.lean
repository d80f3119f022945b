/-
  A helper of ours: no claim of its own. A region that draws its order, whose first operation is a move that the tail's first operation does not wait for ('p.x = append(p.x, ..)'): as if it did.
-/
import Derived.Test.YtajelkkiijdegaaGreatPasI
import Derived.Test.YtajelkkiijdegaaGreatStepR
set_option linter.unusedVariables false
set_option linter.unusedSimpArgs false
set_option linter.unusedSectionVars false
set_option maxHeartbeats 64000000
set_option maxRecDepth 100000
namespace Go.Proofs.YtajelkkiijdegaaGreat
open Go.RowKit Go.Shelf Go.Lib
attribute [local go_sem] GW.cell GW.frozen In.eq_true In.le_true In.ne In.ne' In.ne_add In.ne_add' In.lt_add Upto.le_true Upto.le_add Upto.lt_add
theorem pzero_cells(n:Nat):(Builtin.zeroCells (Value.pointer none).cells n).toList=List.replicate n (.pointer none):=by
 have hs:(Value.pointer none).cells= #[.pointer none]:=rfl
 rw[hs]
 unfold Builtin.zeroCells
 apply List.ext_getElem
 ·simp
 ·intro i h1 h2
  simp[Nat.mod_one]
theorem psets_past(xs vs:List Value)(o:Nat)(h:xs.length≤o):psets xs o vs=xs:=by
 apply List.ext_getElem?
 intro i
 rw[psets_get]
 split
 ·omega
 ·rfl
theorem psets_del(l:List Nat)(p:Nat)(hp:p<l.length):(psets (tg1 l) p (tg1 (l.drop (p+1)))).take (l.length-1)=tg1 (l.take p++l.drop (p+1)):=by
 have hd:(tg1 (l.drop (p+1))).length=l.length-(p+1):=by rw[tg1_length,List.length_drop]
 apply List.ext_getElem?
 intro i
 have ht:(tg1 (l.take p)).length=p:=by rw[tg1_length,List.length_take,Nat.min_eq_left (by omega)]
 rw[List.getElem?_take,psets_get,tg1_app,List.getElem?_append,ht,hd,tg1_length,←tg1_take]
 by_cases h1:i<p
 ·rw[if_pos (by omega),if_neg (by omega),if_pos h1,List.getElem?_take,if_pos h1]
 ·rw[if_neg h1]
  by_cases h2:i<l.length-1
  ·rw[if_pos h2,if_pos (by omega)]
  ·rw[if_neg h2,List.getElem?_eq_none (by rw[hd];omega)]
theorem psets_cut(l:List Nat)(c:Nat)(hc:c≤l.length):(psets (tg1 l) 0 (tg1 (l.drop c))).take (l.length-c)=tg1 (l.drop c):=by
 have hd:(tg1 (l.drop c)).length=l.length-c:=by rw[tg1_length,List.length_drop]
 apply List.ext_getElem?
 intro i
 rw[List.getElem?_take,psets_get,hd,tg1_length]
 by_cases h2:i<l.length-c
 ·rw[if_pos h2,if_pos (by omega),Nat.sub_zero]
 ·rw[if_neg h2,List.getElem?_eq_none (by rw[hd];omega)]
theorem pdel1_c(base g cap p:Nat)(l:List Nat)(w:World)(h:w.ownsRow base 103 1 (.slice (some ⟨g,0,none⟩) l.length cap) l.length (tg1 l))(hp:p<l.length)(hn:l.length≤1048576) :
 Calls Tryz.prog 148 #[.slice (some ⟨g,0,none⟩) l.length cap, .int .i64 p, .int .i64 ((p:Int)+1)] w fun e w' =>
  e= .returned (.slice (some ⟨g,0,none⟩) ((l.length-1:Nat)) cap)∧w'.ownsRow base 103 1 (.slice (some ⟨g,0,none⟩) ((l.length-1:Nat)) cap) (l.length-1) (tg1 (l.take p++l.drop (p+1)))∧Fr [g] w w':=by
 have hcap:l.length≤cap∧cap≤9223372036854775807:=by
  rcases h.2 with ⟨h',_⟩|⟨g',cap',cur,h',hb,hg,hnc,hcm,hcs,htake⟩
  ·simp at h'
  ·simp only[Value.slice.injEq] at h'
   obtain⟨_,_,rfl⟩:=h'
   unfold maxLen at hcm
   exact⟨hnc,by omega⟩
 obtain⟨hc1,hc2⟩:=hcap
 obtain⟨n,hnl⟩:∃n,n=l.length:=⟨_,rfl⟩
 obtain⟨news,hnews⟩:∃news,news=tg1 (l.drop (p+1)):=⟨_,rfl⟩
 have hlen:news.length=(n-(p+1)):=by rw[hnews,tg1_length,List.length_drop,hnl]
 rw[←hnl] at h hp hn hc1 ⊢
 have hcell:=World.ownsRow.cellAt h
 have hfr:=World.ownsRow.frozenAt h
 have hgl:=(World.ownsRow.lt h g rfl).2
 have hone:=tg1_one l
 have hmem:∀u∈news,u∈tg1 l:=by
  intro u hu
  rw[hnews,←tg1_drop] at hu
  exact List.mem_of_mem_drop hu
 have hget:∀t,t<news.length→w.cell? ⟨g,(p+1)+t,none⟩=news[t]? := by
  intro t ht
  rw[hcell _ (by omega),hnews,←tg1_drop,List.getElem?_drop]
 obtain⟨A,hA,hsrc⟩:∃A:Addr,(if cap=p+1 then some (⟨g,0,none⟩:Addr) else some ⟨g,(p+1),none⟩)=some A∧Hid (∀t u,news[t]? = some u→w.drew.cell? (A.add t)=some u):=by
  by_cases hx:cap=p+1
  ·refine⟨⟨g,0,none⟩,by simp[hx],fun t u hu=>?_⟩
   have h0:news.length=0:=by rw[hlen];omega
   rw[List.length_eq_zero_iff.1 h0] at hu
   simp at hu
  ·refine⟨⟨g,(p+1),none⟩,by simp[hx],fun t u hu=>?_⟩
   have ht:=(List.getElem?_eq_some_iff.1 hu).1
   rw[add_plain]
   exact (hget t ht).trans hu
 have s1:Hid (news.length=(n-(p+1))*1):=by show _=_;rw[Nat.mul_one];exact hlen
 have s2:Hid (∀u∈news,u.oneCell'=true):=fun u hu=>hone u (hmem u hu)
 have s3:Hid (∀t,t<news.length→(w.drew.cell? ⟨g,0+p*1+t,none⟩).isSome=true∧w.drew.frozen? ⟨g,0+p*1+t,none⟩=false):=by
  intro t ht
  rw[Nat.zero_add,Nat.mul_one]
  refine⟨?_,hfr _⟩
  show (w.cell? _).isSome=true
  rw[hcell _ (by omega),List.getElem?_eq_getElem (by rw[tg1_length];omega)]
  rfl
 obtain⟨W1,hW1⟩:∃W1,W1=w.drew.setCells g (0+p*1) news:=⟨_,rfl⟩
 have hD:w.drew.ownsRow base 103 1 (.slice (some ⟨g,0,none⟩) n cap) n (tg1 l):=h
 have hO1:W1.ownsRow base 103 1 (.slice (some ⟨g,0,none⟩) n cap) n (psets (tg1 l) (p) news):=by
  rw[hW1,Nat.zero_add,Nat.mul_one];exact pown_sets _ _ _ _ hD
 have hF1:Fr [g] w W1:=by rw[hW1];exact pfr_setCells (by simp) _ _ _ (Fr.refl _ w).drew
 have hcell1:=World.ownsRow.cellAt hO1
 have hfr1:=World.ownsRow.frozenAt hO1
 obtain⟨W2,hW2⟩:∃W2,W2=W1.setCells g ((n-1)) [.pointer none]:=⟨_,rfl⟩
 have hcl:∀ty,(Builtin.clear_ #[89] ty #[.slice (some ⟨g,(n-1),none⟩) (n-(n-1)) (cap-(n-1))]).run Tryz.prog W1= .ok (.tuple #[]) W2:=fun ty=>by
  rw[hW2,show n-(n-1)=1 by omega]
  refine pmrun_clear W1 _ _ ty (.pointer none) _ Tryz.underlying89 Tryz.zeroValue103 g ((n-1)) 1 (cap-(n-1)) (by omega) (by first|kernel_rfl|rfl|simp[Builtin.zeroCells,Value.cells]|decide) ?_ (fun i hi=>?_) (fun i hi=>hfr1 _)
  ·intro u hu
   simp at hu
   subst hu
   rfl
  ·simp only[List.length_cons,List.length_nil] at hi
   rw[hcell1 _ (by omega),List.getElem?_eq_getElem (by rw[psets_length,tg1_length];omega)]
   rfl
 have hO2:Hid (W2.ownsRow base 103 1 (.slice (some ⟨g,0,none⟩) ((n-1:Nat)) cap) (n-1) (tg1 (l.take p++l.drop (p+1)))):=by
  have ht:=pmown_take hO1 (i:=n-1) (by omega)
  rw[Nat.mul_one] at ht
  have hsd:=psets_del l p (by omega)
  rw[←hnl,←hnews] at hsd
  rw[hsd] at ht
  show W2.ownsRow _ _ _ _ _ _
  have:=pown_sets [.pointer none] ((n-1)) _ W1 ht
  rw[hW2]
  have hlt:(tg1 (l.take p++l.drop (p+1))).length=(n-1):=by rw[tg1_length,List.length_append,List.length_take,List.length_drop];omega
  rwa [psets_past _ _ _ (by rw[hlt];exact Nat.le_refl _)] at this
 have hF2:Hid (Fr [g] w W2):=by rw[hW2];exact pfr_setCells (by simp) _ _ _ hF1
 replace hW1:=hide hW1
 replace hW2:=hide hW2
 have hpI:(p:Int)+1≤n:=by omega
 have hcI:(n:Int)≤cap:=by omega
 have hne:¬(p:Int)=(p:Int)+1:=by omega
 have hneb:((p:Int) == (p:Int)+1)=false:=by rw[beq_eq_false_iff_ne];exact hne
 have hnn:n≤1048576:=by omega
 have hic:p≤cap:=by omega
 have hjc:p+1≤cap:=by omega
 have hpn1:p+1≤n:=by omega
 have hp10:(0:Int)≤(p:Int)+1:=by omega
 have mixed:Tryz.prog.follows .mixedOrders=true:=by kernel_rfl
 clear hcell hfr hone hmem hget hlen hD hO1 hF1 hcell1 hfr1 h hn hp hnews hnl
 have hen:p+(n-(p+1))=n-1:=by omega
 have hEn:Hid (p+(n-(p+1))=n-1):=hen
 rw[←hen] at hcl
 have hm1:p+(n-(p+1))≤n:=by omega
 have hm2:¬cap=p+(n-(p+1)):=by omega
 have hm3:p+(n-(p+1))≤cap:=by omega
 have hgW:g<W2.heap.size:=(World.ownsRow.lt hO2.out g rfl).2
 clear hen
 haveI:In g w:=⟨hgl⟩
 obtain⟨i0,hi0, -,hz2, -⟩:=tPev.info
 go_enter Tryz.func148,Tryz.ntmps148
 go_wp2_with fail
 go_region_law_o (refine step_append_room rfl (.tmp 22) (.tmp 25) 89 rfl 103 i0 1 Tryz.underlying89 hi0 hz2 g 0 p cap (by simp[Act.eval,Act.put]) A (n-(p+1)) (cap-(p+1)) news (by simp[Act.eval,Act.put,hA]) s1.out hsrc.out s2.out (by omega) s3.out ?_;rw[←hW1.out])
 go_wp2
 go_returns
 exact⟨by rw[hEn.out];rfl,hO2.out,hF2.out⟩
theorem pdelA_c(base g cap c:Nat)(l:List Nat)(w:World)(h:w.ownsRow base 103 1 (.slice (some ⟨g,0,none⟩) l.length cap) l.length (tg1 l))(hp:0<c)(hcn:c≤l.length)(hn:l.length≤1048576) :
 Calls Tryz.prog 148 #[.slice (some ⟨g,0,none⟩) l.length cap, .int .i64 0, .int .i64 (c:Int)] w fun e w' =>
  e= .returned (.slice (some ⟨g,0,none⟩) ((l.length-c:Nat)) cap)∧w'.ownsRow base 103 1 (.slice (some ⟨g,0,none⟩) ((l.length-c:Nat)) cap) (l.length-c) (tg1 (l.drop c))∧Fr [g] w w':=by
 have hcap:l.length≤cap∧cap≤9223372036854775807:=by
  rcases h.2 with ⟨h',_⟩|⟨g',cap',cur,h',hb,hg,hnc,hcm,hcs,htake⟩
  ·simp at h'
  ·simp only[Value.slice.injEq] at h'
   obtain⟨_,_,rfl⟩:=h'
   unfold maxLen at hcm
   exact⟨hnc,by omega⟩
 obtain⟨hc1,hc2⟩:=hcap
 obtain⟨n,hnl⟩:∃n,n=l.length:=⟨_,rfl⟩
 obtain⟨news,hnews⟩:∃news,news=tg1 (l.drop c):=⟨_,rfl⟩
 have hlen:news.length=(n-c):=by rw[hnews,tg1_length,List.length_drop,hnl]
 rw[←hnl] at h hcn hn hc1 ⊢
 have hcell:=World.ownsRow.cellAt h
 have hfr:=World.ownsRow.frozenAt h
 have hgl:=(World.ownsRow.lt h g rfl).2
 have hone:=tg1_one l
 have hmem:∀u∈news,u∈tg1 l:=by
  intro u hu
  rw[hnews,←tg1_drop] at hu
  exact List.mem_of_mem_drop hu
 have hget:∀t,t<news.length→w.cell? ⟨g,c+t,none⟩=news[t]? := by
  intro t ht
  rw[hcell _ (by omega),hnews,←tg1_drop,List.getElem?_drop]
 obtain⟨A,hA,hsrc⟩:∃A:Addr,(if cap=c then some (⟨g,0,none⟩:Addr) else some ⟨g,c,none⟩)=some A∧Hid (∀t u,news[t]? = some u→w.drew.cell? (A.add t)=some u):=by
  by_cases hx:cap=c
  ·refine⟨⟨g,0,none⟩,by simp[hx],fun t u hu=>?_⟩
   have h0:news.length=0:=by rw[hlen];omega
   rw[List.length_eq_zero_iff.1 h0] at hu
   simp at hu
  ·refine⟨⟨g,c,none⟩,by simp[hx],fun t u hu=>?_⟩
   have ht:=(List.getElem?_eq_some_iff.1 hu).1
   rw[add_plain]
   exact (hget t ht).trans hu
 have s1:Hid (news.length=(n-c)*1):=by show _=_;rw[Nat.mul_one];exact hlen
 have s2:Hid (∀u∈news,u.oneCell'=true):=fun u hu=>hone u (hmem u hu)
 have s3:Hid (∀t,t<news.length→(w.drew.cell? ⟨g,0+0*1+t,none⟩).isSome=true∧w.drew.frozen? ⟨g,0+0*1+t,none⟩=false):=by
  intro t ht
  rw[Nat.zero_add]
  refine⟨?_,hfr _⟩
  show (w.cell? _).isSome=true
  rw[hcell _ (by omega),List.getElem?_eq_getElem (by rw[tg1_length];omega)]
  rfl
 obtain⟨W1,hW1⟩:∃W1,W1=w.drew.setCells g (0+0*1) news:=⟨_,rfl⟩
 have hD:w.drew.ownsRow base 103 1 (.slice (some ⟨g,0,none⟩) n cap) n (tg1 l):=h
 have hO1:W1.ownsRow base 103 1 (.slice (some ⟨g,0,none⟩) n cap) n (psets (tg1 l) (0) news):=by
  rw[hW1,Nat.zero_add,Nat.mul_one];exact pown_sets _ _ _ _ hD
 have hF1:Fr [g] w W1:=by rw[hW1];exact pfr_setCells (by simp) _ _ _ (Fr.refl _ w).drew
 have hcell1:=World.ownsRow.cellAt hO1
 have hfr1:=World.ownsRow.frozenAt hO1
 obtain⟨W2,hW2⟩:∃W2,W2=W1.setCells g ((n-c)) (List.replicate c (.pointer none)):=⟨_,rfl⟩
 have hcl:∀ty,(Builtin.clear_ #[89] ty #[.slice (some ⟨g,(n-c),none⟩) (n-(n-c)) (cap-(n-c))]).run Tryz.prog W1= .ok (.tuple #[]) W2:=fun ty=>by
  rw[hW2,show n-(n-c)=c by omega]
  refine pmrun_clear W1 _ _ ty (.pointer none) _ Tryz.underlying89 Tryz.zeroValue103 g ((n-c)) c (cap-(n-c)) (by omega) (pzero_cells c) ?_ (fun i hi=>?_) (fun i hi=>hfr1 _)
  ·intro u hu
   rw[List.eq_of_mem_replicate hu]
   rfl
  ·simp only[List.length_replicate] at hi
   rw[hcell1 _ (by omega),List.getElem?_eq_getElem (by rw[psets_length,tg1_length];omega)]
   rfl
 have hO2:Hid (W2.ownsRow base 103 1 (.slice (some ⟨g,0,none⟩) ((n-c:Nat)) cap) (n-c) (tg1 (l.drop c))):=by
  have ht:=pmown_take hO1 (i:=n-c) (by omega)
  rw[Nat.mul_one] at ht
  have hsd:=psets_cut l c (by omega)
  rw[←hnl,←hnews] at hsd
  rw[hsd] at ht
  show W2.ownsRow _ _ _ _ _ _
  have:=pown_sets (List.replicate c (.pointer none)) ((n-c)) _ W1 ht
  rw[hW2]
  have hlt:(tg1 (l.drop c)).length=(n-c):=by rw[tg1_length,List.length_drop];omega
  rw[psets_past _ _ _ (by rw[hlen];exact Nat.le_refl _)] at this
  rw[←hnews]
  exact this
 have hF2:Hid (Fr [g] w W2):=by rw[hW2];exact pfr_setCells (by simp) _ _ _ hF1
 replace hW1:=hide hW1
 replace hW2:=hide hW2
 have hpI:(c:Int)≤n:=by omega
 have hcI:(n:Int)≤cap:=by omega
 have hne:¬(0:Int)=(c:Int):=by omega
 have hneb:((0:Int) == (c:Int))=false:=by rw[beq_eq_false_iff_ne];exact hne
 have hnn:n≤1048576:=by omega
 have hic:0≤cap:=by omega
 have hjc:c≤cap:=by omega
 have hpn1:c≤n:=by omega
 have hp10:(0:Int)≤(c:Int):=by omega
 have mixed:Tryz.prog.follows .mixedOrders=true:=by kernel_rfl
 clear hcell hfr hone hmem hget hlen hD hO1 hF1 hcell1 hfr1 h hn hp hnews hnl
 have hen:0+(n-c)=n-c:=by omega
 have hEn:Hid (0+(n-c)=n-c):=hen
 have hm1:n-c≤n:=by omega
 have hm2:¬cap=n-c:=by omega
 have hm3:n-c≤cap:=by omega
 have hgW:g<W2.heap.size:=(World.ownsRow.lt hO2.out g rfl).2
 clear hen
 haveI:In g w:=⟨hgl⟩
 obtain⟨i0,hi0, -,hz2, -⟩:=tPev.info
 go_enter Tryz.func148,Tryz.ntmps148
 go_wp2_with fail
 go_region_law_o (refine step_append_room rfl (.tmp 22) (.tmp 25) 89 rfl 103 i0 1 Tryz.underlying89 hi0 hz2 g 0 0 cap (by simp[Act.eval,Act.put]) A (n-c) (cap-c) news (by simp[Act.eval,Act.put,hA]) s1.out hsrc.out s2.out (by omega) s3.out ?_;rw[←hW1.out])
 go_wp2
 go_returns
 exact⟨rfl,hO2.out,hF2.out⟩
end Go.Proofs.YtajelkkiijdegaaGreat
namespace Go.Proofs.YtajelkkiijdegaaGreat
open Go.RowKit
attribute [local go_sem] GW.cell GW.frozen In.eq_true In.le_true In.ne In.ne' In.ne_add In.ne_add' In.lt_add Upto.le_true Upto.le_add Upto.lt_add
def blks(L:List Pb):List Nat:=L.map fun y=>y.2.1
structure Pst (w:World) (base p:Nat) (sv:Value) (c ser:Int) (mb:Nat) (u:Value) (L:List Pb):Prop where
 ob:Ob w p 93 [sv, .int .i64 c, .int .i64 ser, .map (some mb),u]
 own:w.ownsRow base 103 1 u L.length (tg1 (blks L))
 evs:∀y∈L,Evb w y
theorem Pst.ext{w w':World}{base p:Nat}{sv:Value}{c ser:Int}{mb:Nat}{u:Value}{L:List Pb}(h:Pst w base p sv c ser mb u L)(k:Ext w w'):Pst w' base p sv c ser mb u L:=⟨h.ob.ext k,own_ext h.own k,fun y hy=>(h.evs y hy).ext k⟩
theorem pcell_later{W w:World}(h:Ext W w){a:Addr}{v:Value}(hc:W.cell? a=some v):w.cell? a=some v:=(World.cell?_of_block (a:=a) (h.block a.block (block_lt_of_cell hc))).trans hc
theorem pst_at{w:World}{base p:Nat}{sv:Value}{c ser:Int}{mb:Nat}{u:Value}{L:List Pb}(h:Pst w base p sv c ser mb u L){i:Nat}{y:Pb}(hy:L[i]? = some y):∃g cap,u= .slice (some ⟨g,0,none⟩) L.length cap∧g<w.heap.size∧w.cell? ⟨g,i,none⟩=some (pp y.2.1):=by
 have hi:=(List.getElem?_eq_some_iff.1 hy).1
 rcases h.own.2 with ⟨h',h0⟩|⟨g,cap,cur,rfl,hb,hg,hnc,hcm,hcs,htake⟩
 ·omega
 ·refine⟨g,cap,rfl,(World.ownsRow.lt h.own g rfl).2,?_⟩
  rw[World.ownsRow.cellAt h.own i (by omega)]
  simp[tg1,blks,hy]
section
variable {w:World} {base p:Nat} {sv:Value} {c ser:Int} {mb:Nat} {u:Value} {L:List Pb}
def fAt(q:Pb→Bool)(L:List Pb)(i:Nat):Bool:=match L[i]? with
 |some y=>q y
 |none=>true
theorem fst_ld{q:Pb→Bool}{r:Nat}(hd:Down (fun y=> !q y) L)(h:Fst (fAt q L) L.length r):r=ldN (fun y=> !q y) L:=by
 obtain⟨h1,h2,h3⟩:=h
 refine (ld_is hd h1 (fun i y hy hi=>?_) (fun i y hy hi=>?_)).symm
 ·have:=h2 i hi;unfold fAt at this;rw[hy] at this;simp only at this ⊢;rw[this];rfl
 ·have:=h3 i hi (List.getElem?_eq_some_iff.1 hy).1;unfold fAt at this;rw[hy] at this;simp only at this ⊢;rw[this];rfl
theorem pah1_c(gh:FuncId)(lbh:Array Value)(q:Pb→Bool)(be bh:Nat)(eg:∀args w,(callFunc gh args).run Tryz.prog w= .ok (.enter gh args) w)(w:World)(hP:Pst w base p sv c ser mb u L)(hE:Ob w be 205 [.pointer (some ⟨p,4,none⟩)])(hH:Ob w bh 170 [.func (.func gh) #[] lbh])
 (hh:∀w',Ext w w'→∀y∈L,Calls Tryz.prog gh (#[pp y.2.1]++lbh) w' fun e w2=>e= .returned (.bool (q y))∧Ext w' w2) (i:Nat) (hi:i<L.length) (hL:L.length≤1048576) :
 Calls Tryz.prog 199 #[.int .i64 i, .pointer (some ⟨bh,0,none⟩), .pointer (some ⟨be,0,none⟩)] w fun e w'=>e= .returned (.bool (fAt q L i))∧Ext w w':=by
 obtain⟨y,hy⟩:∃y,L[i]? = some y:=⟨_,List.getElem?_eq_getElem hi⟩
 obtain⟨g,cap,rfl,hg,cg⟩:=pst_at hP hy
 have c4:=hP.ob.cell 4 rfl
 have e0:=hE.cell 0 rfl
 have h0:=hH.cell 0 rfl
 haveI:In p w:=⟨hP.ob.lt⟩
 haveI:In be w:=⟨hE.lt⟩
 haveI:In bh w:=⟨hH.lt⟩
 haveI:In g w:=⟨hg⟩
 have hf:fAt q L i=q y:=by unfold fAt;rw[hy]
 rw[hf]
 have hcl:=hide (fun w' (hX:Ext w w')=>hh w' hX y (List.mem_of_getElem? hy))
 have hiI:(i:Int)<L.length:=by omega
 generalize q y=Q at *
 clear hh hP hE hH hf hy
 go_enter Tryz.func199,Tryz.ntmps199
 go_wp2_with fail
 refine wp_region_gw_tail 8 (by kernel_rfl) (by kernel_rfl) ?_
 simp only[List.take_succ_cons,List.take_zero,List.drop_succ_cons,List.drop_zero]
 repeat (go_big_quiet_step (fail))
 refine wpQuiet_nil ?_
 intro g1
 go_wp2_with fail
 refine (hcl.out _ g1.grown).mono ?_
 rintro ee w2 ⟨rfl,hX2⟩
 replace hX2:=hide hX2
 go_wp2_with fail
 go_returns
 exact⟨rfl,g1.grown.trans hX2.out⟩
theorem pahead_c(gh:FuncId)(lbh:Array Value)(q:Pb→Bool)(eg:∀args w,(callFunc gh args).run Tryz.prog w= .ok (.enter gh args) w)(hd:Down (fun y=> !q y) L)(w:World)(hP:Pst w base p sv c ser mb u L)
 (hh:∀w',Ext w w'→∀y∈L,Calls Tryz.prog gh (#[pp y.2.1]++lbh) w' fun e w2=>e= .returned (.bool (q y))∧Ext w' w2) (hL:L.length≤1048576) :
 Calls Tryz.prog 145 #[.pointer (some ⟨p,4,none⟩), .func (.func gh) #[] lbh] w fun e w'=>e= .returned (.int .i64 (ldN (fun y=> !q y) L))∧Ext w w':=by
 obtain⟨W1,hW1⟩:∃W1,W1=(w.alloc (.cells #[.pointer (some ⟨p,4,none⟩)] 205)).alloc (.cells #[.func (.func gh) #[] lbh] 170):=⟨_,rfl⟩
 have hX1:Ext w W1:=by rw[hW1];exact ((Ext.refl w).alloc _).alloc _
 have hE:Ob W1 w.heap.size 205 [.pointer (some ⟨p,4,none⟩)]:=by rw[hW1];exact (Ob.new w _ [_]).alloc _
 have hH:Ob W1 (w.heap.size+1) 170 [.func (.func gh) #[] lbh]:=by rw[hW1];have:=Ob.new (w.alloc (.cells #[.pointer (some ⟨p,4,none⟩)] 205)) 170 [.func (.func gh) #[] lbh];rwa [World.size_alloc] at this
 have hP1:=hP.ext hX1
 have hdn:∀i j,i≤j→j<L.length→fAt q L i=true→fAt q L j=true:=fun i j hij hj h1=>by
  obtain⟨y,hy⟩:∃y,L[j]? = some y:=⟨_,List.getElem?_eq_getElem hj⟩
  obtain⟨x,hx⟩:∃x,L[i]? = some x:=⟨_,List.getElem?_eq_getElem (by omega)⟩
  unfold fAt at h1 ⊢
  rw[hx] at h1
  rw[hy]
  simp only at h1 ⊢
  by_cases e:i=j
  ·subst e;rw[hx] at hy;cases hy;exact h1
  ·obtain⟨hi',ex⟩:=List.getElem?_eq_some_iff.1 hx
   obtain⟨hj',ey⟩:=List.getElem?_eq_some_iff.1 hy
   have:=List.pairwise_iff_getElem.1 hd i j hi' hj' (by omega)
   rw[ex,ey] at this
   cases h2:q y
   ·simp[h2,h1] at this
   ·rfl
 have hs:=hide (search_c 199 #[.pointer (some ⟨w.heap.size+1,0,none⟩), .pointer (some ⟨w.heap.size,0,none⟩)] L.length hL (fAt q L) hdn W1 (enters_of Tryz.func199 (by kernel_rfl) rfl)
  (fun w' hX i hi=>pah1_c gh lbh q w.heap.size (w.heap.size+1) eg w' (hP1.ext hX) (hE.ext hX) (hH.ext hX) (fun w2 hX2 y hy=>hh w2 (hX1.trans (hX.trans hX2)) y hy) i hi hL))
 have c4:=hP.ob.cell 4 rfl
 haveI:In p w:=⟨hP.ob.lt⟩
 obtain⟨A,cap,rfl⟩:=own_form hP.own
 have hX1h:=hide hX1
 replace hW1:=hide hW1
 clear hP hP1 hE hH hh hdn hX1
 go_enter Tryz.func145,Tryz.ntmps145
 go_wp2_with fail
 rw[←hW1.out]
 refine hs.out.mono ?_
 rintro ee w2 ⟨r,rfl,hr,hX2⟩
 replace hr:=hide (fst_ld hd hr)
 replace hX2:=hide hX2
 go_wp2_with fail
 go_returns
 exact⟨by rw[hr.out];rfl,hX1h.out.trans hX2.out⟩
theorem ppl1_c(x y:Pb)(bx:Nat)(w:World)(hx:Evb w x)(hy:Evb w y)(hb:Ob w bx 103 [pp x.2.1]) :
 Calls Tryz.prog 202 #[pp y.2.1, .pointer (some ⟨bx,0,none⟩)] w fun e w'=>e= .returned (.bool (!befB y x))∧Ext w w':=by
 have b0:=hb.cell 0 rfl
 have hc:=hide (byEnd_c y x w hy hx)
 have hn:=byP_neg (p:=y) (q:=x)
 clear hx hy hb
 generalize byP y x=R at *
 cases hB:befB y x
 ·have h0:0≤R:=by rw[hB] at hn;rcases Int.lt_or_le R 0 with h|h;exact absurd (hn.1 h) (by decide);exact h
  have hd:decide (0≤R)=true:=decide_eq_true h0
  clear hn hB
  go_enter Tryz.func202,Tryz.ntmps202
  go_wp2_with (go_at_call 203;(with_reducible refine seq_gw hc.out ?_);intro g)
  go_returns
  exact⟨by first|rfl|simp[h0],g.grown⟩
 ·have h0:¬0≤R:=by have:=hn.2 hB;omega
  have hd:decide (0≤R)=false:=decide_eq_false h0
  clear hn hB
  go_enter Tryz.func202,Tryz.ntmps202
  go_wp2_with (go_at_call 203;(with_reducible refine seq_gw hc.out ?_);intro g)
  go_returns
  exact⟨by first|rfl|simp[h0],g.grown⟩
theorem pplace_c(x:Pb)(w:World)(hP:Pst w base p sv c ser mb u L)(hs:Srt L)(hx:Evb w x)(hL:L.length≤1048576) :
 Calls Tryz.prog 152 #[.pointer (some ⟨p,4,none⟩),pp x.2.1] w fun e w'=>e= .returned (.int .i64 (plN L x))∧Ext w w':=by
 obtain⟨W1,hW1⟩:∃W1,W1=w.alloc (.cells #[pp x.2.1] 103):=⟨_,rfl⟩
 have hX1:Ext w W1:=by rw[hW1];exact (Ext.refl w).alloc _
 have hB:Ob W1 w.heap.size 103 [pp x.2.1]:=by rw[hW1];exact Ob.new w _ [_]
 have hsd:Down (fun y=> !(!befB y x)) L:=by have:=srt_down hs x;simpa only[Bool.not_not] using this
 have ha:=hide (pahead_c 202 #[.pointer (some ⟨w.heap.size,0,none⟩)] (fun y=> !befB y x) (enters_of Tryz.func202 (by kernel_rfl) rfl) hsd W1 (hP.ext hX1)
  (fun w' hX y hy=>ppl1_c x y w.heap.size w' ((hx.ext hX1).ext hX) ((hP.evs y hy).ext (hX1.trans hX)) (hB.ext hX)) hL)
 rw[show ldN (fun y=> !(!befB y x)) L=plN L x by unfold plN;simp only[Bool.not_not]] at ha
 have hX1h:=hide hX1
 replace hW1:=hide hW1
 clear hP hB hX1 hsd
 generalize plN L x=N at *
 go_enter Tryz.func152,Tryz.ntmps152
 go_wp2_with fail
 rw[←hW1.out]
 refine seq_gw ha.out ?_
 intro g
 go_wp2_with fail
 go_returns
 exact⟨rfl,hX1h.out.trans g.grown⟩
theorem pcut1_c(t:Int)(y:Pb)(bt:Nat)(w:World)(hy:Evb w y)(hb:Ob w bt 3 [.int .i64 t]) :
 Calls Tryz.prog 146 #[pp y.2.1, .pointer (some ⟨bt,0,none⟩)] w fun e w'=>e= .returned (.bool (decide (t<pTo y)))∧Ext w w':=by
 have b0:=hb.cell 0 rfl
 have a4:=Ob.cell hy 4 rfl
 haveI:In y.2.1 w:=⟨Ob.lt hy⟩
 haveI:In bt w:=⟨hb.lt⟩
 clear hy hb
 go_enter Tryz.func146,Tryz.ntmps146
 go_wp2_with fail
 refine wp_region_gw (by kernel_rfl) (by kernel_rfl) ?_
 repeat (go_big_quiet_step (fail))
 refine wpQuiet_nil ?_
 intro g
 go_wp2_with fail
 go_returns
 exact⟨by first|rfl|simp,g.grown⟩
end
end Go.Proofs.YtajelkkiijdegaaGreat
namespace Go.Proofs.YtajelkkiijdegaaGreat
open Go.RowKit
def onN(Q:Exit→Act→World→Prop):Exit→Act→World→Prop
 | .normal,a,w=>Q .normal a w
 |_,_,_=>False
theorem onN_out{Q:Exit→Act→World→Prop}(h:LetsOut (onN Q)):False:=by obtain⟨a,w,h⟩:=h;exact h
def waitMore(ops:Array Oper)(n:Nat):Array Oper:=ops.modify n fun o=>{ o with after:=o.after.push ⟨0, .phase⟩}
def looseB(ops:Array Oper):Bool:=match ops[0]? with
 |some o0=>(match o0.op with | .move _=>true|_=>false) && o0.guard.isNone && o0.after.isEmpty && Region.noSelect ops && (List.range ops.size).all fun j=>j == 0 || match ops[j]? with
  |some oj=>oj.after.any (fun e=>Region.binds .any e && e.on == 0) || o0.apart ops oj
  |none=>true
 |none=>false
section
variable {P:Program} {ops:Array Oper} {n:Nat} {Q:Exit→Act→World→Prop}
theorem wp_onN{o:Oper}{a:Act}{w:World}{K:Act→World→Prop}(h:o.wp P a w K (onN Q)):o.wp P a w K Q:=by
 unfold Oper.wp at *
 generalize (execOp a.eval o).run P w=r at *
 cases r with
 |ok x w' =>
  cases x<;>simp only[Oper.upon] at h ⊢
  all_goals first
   |exact h
   |exact h.mono fun e w'' he=>by
     cases e with
     |returned v=>exact he
     |panicked ch=>exact he.elim
     |outgrown=>exact (onN_out he).elim
 |halt x w' =>
  cases x<;>simp only[Oper.upon] at h ⊢
  all_goals first
   |exact h.elim
   |exact h
theorem any_onN:∀(f:Nat) (listed:Array Bool) (a:Act) (w:World),wpAny P .any ops (onN Q) f listed a w→wpAny P .any ops Q f listed a w
 |0,listed,a,w,h=>h
 |f+1,listed,a,w,h=>by
  refine⟨fun hr=>h.1 hr,fun i hi=>?_⟩
  have h2:=h.2 i hi
  unfold wpOp at h2 ⊢
  split
  ·rename_i ho
   simp only[ho] at h2
   exact any_onN f _ _ _ h2
  ·rename_i o ho
   simp only[ho] at h2
   split
   ·rename_i hw
    simp only[hw,if_true] at h2
    rcases h2 with h2|⟨_,h2⟩
    ·exact .inl (wp_onN (Oper.wp_mono (fun a w hk=>any_onN f _ a w hk) h2))
    ·exact (onN_out h2).elim
   ·rename_i hw
    simp only[hw] at h2
    exact any_onN f _ _ _ h2
theorem more_size:(waitMore ops n).size=ops.size:=by simp[waitMore]
theorem more_get(j:Nat):(waitMore ops n)[j]? = if n=j then (ops[j]?).map (fun o=>{ o with after:=o.after.push ⟨0, .phase⟩}) else ops[j]? := by
 unfold waitMore
 rw[Array.getElem?_modify]
theorem more_dst(j:Nat):((waitMore ops n)[j]?).bind (·.dst)=(ops[j]?).bind (·.dst):=by
 rw[more_get]
 by_cases h:n=j
 ·rw[if_pos h];cases ops[j]? <;> rfl
 ·rw[if_neg h]
theorem more_yielded(t:Array Value):yielded (waitMore ops n) t=yielded ops t:=by
 funext g
 unfold yielded
 rw[more_dst]
theorem more_wpOp{j:Nat}{K K':Act→World→Prop}{a:Act}{w:World}(hK:∀a w,K a w→K' a w)(h:wpOp P (waitMore ops n) Q j K a w):wpOp P ops Q j K' a w:=by
 refine wpOp_mono hK ?_
 unfold wpOp at h ⊢
 rw[more_yielded,more_get] at h
 by_cases hj:n=j
 ·rw[if_pos hj] at h
  cases ho:ops[j]? with
  |none=>rw[ho] at h;exact h
  |some o=>rw[ho] at h;exact h
 ·rw[if_neg hj] at h;exact h
theorem more_ready{listed:Array Bool}(h0:listed.getD 0 false=true){j:Nat}:j∈Region.ready .any (waitMore ops n) listed↔j∈Region.ready .any ops listed:=by
 rw[mem_ready,mem_ready,more_get]
 by_cases hj:n=j
 ·rw[if_pos hj]
  constructor
  ·rintro⟨h1,o,ho,hall⟩
   rw[Option.map_eq_some_iff] at ho
   obtain⟨o',ho',rfl⟩:=ho
   exact⟨h1,o',ho',fun e he hb=>hall e (by simp[he]) hb⟩
  ·rintro⟨h1,o,ho,hall⟩
   refine⟨h1,_,by rw[ho];rfl,fun e he hb=>?_⟩
   rcases Array.mem_push.1 he with he|rfl
   ·exact hall e he hb
   ·exact h0
 ·rw[if_neg hj]
theorem any_more:∀(f:Nat) (listed:Array Bool) (a:Act) (w:World),listed.getD 0 false=true→wpAny P .any (waitMore ops n) Q f listed a w→wpAny P .any ops Q f listed a w
 |0,listed,a,w,h0,h=>by
  refine⟨?_,h.2⟩
  rw[List.eq_nil_iff_forall_not_mem]
  intro j hj
  have:=(more_ready (n:=n) h0).2 hj
  rw[h.1] at this;cases this
 |f+1,listed,a,w,h0,h=>by
  refine⟨fun hr=>h.1 ?_,fun j hj=>?_⟩
  ·rw[List.eq_nil_iff_forall_not_mem]
   intro j hj
   have:=(more_ready h0).1 hj
   rw[hr] at this;cases this
  ·exact more_wpOp (fun a w hk=>any_more f _ a w (getD_set_true h0) hk) (h.2 j ((more_ready h0).2 hj))
theorem any_loose(hl:looseB ops=true)(hn:n≠0){F f:Nat}(hF:F=f+1){a:Act}{w:World}(h:wpAny P .any (waitMore ops n) (onN Q) F (Array.replicate ops.size false) a w):wpAny P .any ops (onN Q) F (Array.replicate ops.size false) a w:=by
 subst hF
 unfold looseB at hl
 split at hl
 ·rename_i o0 h0
  simp only[Bool.and_eq_true] at hl
  obtain⟨⟨⟨⟨hmv,hg⟩,haf⟩,hsel⟩,hall⟩:=hl
  obtain⟨x,hx⟩:∃x,o0.op= .move x:=by
   cases ho:o0.op<;>rw[ho] at hmv<;>simp at hmv
   exact⟨_,rfl⟩
  have hg0:o0.guard=none:=by simpa using hg
  have haf0:o0.after= #[]:=by simpa using haf
  have hsz:0<ops.size:=(Array.getElem?_eq_some_iff.1 h0).1
  have hr0:0∈Region.ready .any ops (Array.replicate ops.size false):=by
   rw[mem_ready]
   refine⟨by simp[Array.getD,hsz],o0,h0,fun e he=>?_⟩
   rw[haf0] at he;simp at he
  have hr0':0∈Region.ready .any (waitMore ops n) (Array.replicate ops.size false):=by
   rw[mem_ready]
   refine⟨by simp[Array.getD,hsz],o0,by rw[more_get,if_neg hn];exact h0,fun e he=>?_⟩
   rw[haf0] at he;simp at he
  have hw0:∀t,Region.wanted o0 t=true:=fun t=>by unfold Region.wanted;rw[hg0]
  have hy:Yields P ops o0 (a.eval x) a:= .inl ⟨hw0 _,fun w=>by simp[execOp,hx,Sem.run_pure]⟩
  have h2:=h.2 0 hr0'
  have h3:wpAny P .any (waitMore ops n) (onN Q) f ((Array.replicate ops.size false).setIfInBounds 0 true) (a.put o0.dst (a.eval x)) w:=by
   unfold wpOp at h2
   rw[more_get,if_neg hn,h0] at h2
   simp only[hw0,if_true] at h2
   rcases h2 with h2|⟨_,h2⟩
   ·unfold Oper.wp at h2
    rw[show (execOp a.eval o0).run P w= .ok (.value (a.eval x)) w by simp[execOp,hx,Sem.run_pure]] at h2
    exact h2
   ·exact (onN_out h2).elim
  have h4:=any_more f _ _ _ (by simp[Array.getD,hsz]) h3
  refine wpAny_first h0 (Region.noSelect_spec hsel) (fun c a w h=>h) f _ a w (fun j oj hj hj0 _ hnot=>?_) hr0 hy h4
  have hjs:=(Array.getElem?_eq_some_iff.1 hj).1
  have h5:=List.all_eq_true.1 hall j (List.mem_range.2 hjs)
  simp only[hj,Bool.or_eq_true,beq_iff_eq] at h5
  rcases h5 with h5|h5|h5
  ·exact absurd h5 hj0
  ·obtain⟨e,he,hb⟩:=Array.any_eq_true'.1 h5
   simp only[Bool.and_eq_true,beq_iff_eq] at hb
   exact absurd hb.2 (hnot e he hb.1)
  ·exact h5
 ·cases hl
theorem more_list{Q:Exit→Act→World→Prop}:∀(l l':List Oper),l'.length=l.length→(∀(i:Nat) (o:Oper),l[i]? = some o→∃af:Array Edge,l'[i]? = some ({ o with after:=af}:Oper))→∀a w,wpList P ops Q l a w→wpList P (waitMore ops n) Q l' a w
 |[],[],_,_,a,w,h=>h
 |o::l,o'::l',hlen,hsame,a,w,h=>by
  obtain⟨af,h0⟩:=hsame 0 o rfl
  simp only[List.getElem?_cons_zero,Option.some.injEq] at h0
  subst h0
  have ih:=more_list (Q:=Q) l l' (by simpa using hlen) (fun i o ho=>by have:=hsame (i+1) o (by simpa using ho);simpa using this)
  unfold wpList at h ⊢
  rw[more_yielded]
  rw[show Region.wanted ({ o with after:=af}:Oper) (yielded ops a.tmps)=Region.wanted o (yielded ops a.tmps) from rfl]
  split
  ·rename_i hw
   simp only[hw,if_true] at h
   rcases h with h|h
   ·exact .inl (Oper.wp_mono (fun a w hk=>ih a w hk) h)
   ·exact .inr h
  ·rename_i hw
   simp only[hw] at h
   exact ih _ _ h
 |[],_::_,hlen,_,a,w,h=>by simp at hlen
 |_::_,[],hlen,_,a,w,h=>by simp at hlen
theorem fm_modify:∀(l:List Oper) (n:Nat),(l.modify n (fun o=>{ o with after:=o.after.push ⟨0, .phase⟩})).filterMap (·.dst)=l.filterMap (·.dst)
 |[],n=>by simp
 |o::l,0=>by rw[List.modify_zero_cons,List.filterMap_cons,List.filterMap_cons]
 |o::l,n+1=>by rw[List.modify_succ_cons,List.filterMap_cons,List.filterMap_cons,fm_modify l n]
theorem more_dsts:dstsOf (waitMore ops n)=dstsOf ops:=by
 unfold dstsOf waitMore
 rw[Array.toList_modify]
 exact fm_modify _ _
theorem wp_region_loose_tail{id:Nat}{a:Act}{w:World}(n:Nat)(L:List Fact)(hl:looseB ops=true)(h0:decide (n≠0)=true)(hm:P.follows .mixedOrders=true)(hA:acycB (waitMore ops n)=true)(hD:dstsB (waitMore ops n) a.tmps.size=true)
 (hn:decide (n<ops.size)=true) (hs:Region.sinkB .any (waitMore ops n) n=true) (hc:Region.chainB .any (waitMore ops n) n=true) (hq:Region.seqB .any (waitMore ops n) (ops.size-n) n (Array.replicate n true++Array.replicate (ops.size-n) false)=true)
 (hstep:RSteps (fun k o=>∀b w',RAt ops (factsOf L) a w k b w'→(∀t,t∉dstsOf (ops.toList.take n).toArray→b.tmps.getD t undef=a.tmps.getD t undef)→RGood P ops (factsOf L) (onN Q) k o b w') 0 (ops.toList.take n))
 (hend:∀b w',Ext w w'→b.defers=a.defers→b.tmps.size=a.tmps.size→(∀t,t∉dstsOf (ops.toList.take n).toArray→b.tmps.getD t undef=a.tmps.getD t undef) →
  (∀j o d,j<n→ops[j]? = some o→o.dst=some d→factsOf L j (b.tmps.getD d undef) w')→wpList P ops (onN Q) (ops.toList.drop n) b w'):(Code.region id ops true).wp P Q a w:=by
 have hn':=of_decide_eq_true hn
 have h0':=of_decide_eq_true h0
 have hnm:n<(waitMore ops n).size:=by rw[more_size];exact hn'
 have htake:(waitMore ops n).toList.take n=ops.toList.take n:=by
  apply List.ext_getElem?
  intro i
  rw[List.getElem?_take,List.getElem?_take]
  by_cases hi:i<n
  ·rw[if_pos hi,if_pos hi]
   have:=more_get (ops:=ops) (n:=n) i
   rw[if_neg (by omega)] at this
   simpa using this
  ·rw[if_neg hi,if_neg hi]
 have hget:∀i,i<n→(waitMore ops n)[i]? = ops[i]? := fun i hi=>by rw[more_get,if_neg (by omega)]
 have hdep:∀i j,i<n→depB (waitMore ops n) i j=depB ops i j:=fun i j hi=>by unfold depB;rw[hget i hi]
 refine wp_region_any hm (any_onN _ _ _ _ ?_)
 obtain⟨f,hf⟩:∃f,ops.size=f+1:=⟨ops.size-1,by omega⟩
 have key:=wpAny_facts_tail (P:=P) (ops:=waitMore ops n) (Φ:=factsOf L) (Q:=onN Q) (W:=w) (a:=a) hA hD hnm hs hc (by rw[more_size];exact hq) (fun i v w w' h hx=>Fact.stays _ v w w' h hx) (fun i o hi ho b w' h hE=>by
  rw[hget i hi] at ho
  have h3:=RSteps.get 0 (ops.toList.take n) hstep i o (by rw[List.getElem?_take,if_pos hi];simpa using ho) b w'
  rw[Nat.zero_add] at h3
  rw[htake] at hE
  have h4:=h3 ⟨h.ext,h.defers,h.size,by have:=h.else_;rw[more_dsts] at this;exact this,fun j o' d hd hj ho'=>by
   have hjn:j<n:=by
    have hj2:j<n:=by
     apply Nat.lt_of_not_ge
     intro hge
     have h7:acycB (waitMore ops n)=true:=hA
     unfold depB at hd
     rw[ho] at hd
     obtain⟨e,he,hb⟩:=Array.any_eq_true'.1 hd
     simp only[Bool.and_eq_true,beq_iff_eq] at hb
     unfold acycB at h7
     have h8:=List.all_eq_true.1 h7 i (List.mem_range.2 (by rw[more_size];omega))
     rw[hget i hi,ho] at h8
     have h9:=Array.all_eq_true_iff_forall_mem.1 h8 e he
     simp only[hb.1,Bool.not_true,Bool.false_or,decide_eq_true_eq] at h9
     omega
    exact hj2
   exact h.dep j o' d (by rw[hdep i j hi];exact hd) (by rw[hget j hjn];exact hj) ho'⟩ hE
  unfold RGood at h4 ⊢
  rw[more_yielded]
  exact h4) (fun b w' k1 k2 k3 _ k5 k6=>by
  rw[htake] at k6
  refine more_list (ops.toList.drop n) _ (by simp[more_size]) (fun i o ho=>?_) _ _ (hend b w' k1 k2 k3 k6 (fun j o d hj ho hd=>k5 j o d hj (by rw[hget j hj];exact ho) hd))
  rw[List.getElem?_drop] at ho ⊢
  have hg:=more_get (ops:=ops) (n:=n) (n+i)
  have ho2:ops[n+i]? = some o:=by simpa using ho
  rw[ho2] at hg
  by_cases hi:n=n+i
  ·rw[if_pos hi] at hg;exact⟨_,by simpa using hg⟩
  ·rw[if_neg hi] at hg;exact⟨o.after,by simpa using hg⟩) n (Array.replicate ops.size false) a { w with drawn:=w.drawn+1} ⟨(Ext.refl w).drew,rfl,rfl,by simp[more_size],fun _ _=>rfl,fun j o d ho hl _=>by
   rw[getD_replicate_false] at hl;cases hl⟩ (fun _ _=>rfl)
  ⟨by simp[more_size],fun j oj _ hl=>(by rw[getD_replicate_false] at hl;cases hl),fun t _ ht=>getD_in (by simp;rw[more_size] at ht;exact ht) (getD_replicate_false _ _)⟩ (by
   rw[Array.toList_replicate,List.take_replicate,cntF_rep];omega)
 rw[more_size,show n+(ops.size-n)=ops.size by omega] at key
 exact any_loose (Q:=Q) (f:=f) hl h0' hf key
end
end Go.Proofs.YtajelkkiijdegaaGreat
