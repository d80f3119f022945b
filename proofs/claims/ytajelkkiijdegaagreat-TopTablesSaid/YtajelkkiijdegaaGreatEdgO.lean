/-
  A helper of ours: no claim of its own. Layer 10 (edge): edges of one's own; the edges of a row with a function.
-/
import Derived.Test.YtajelkkiijdegaaGreatEdgB
import Derived.Test.YtajelkkiijdegaaGreatStepR
import Derived.Test.YtajelkkiijdegaaGreatValB
import Derived.Lib.AppendZerosOnto
import Derived.Lib.LazyBuf
import Derived.WalkLawsBesides
set_option linter.unusedVariables false
set_option linter.unusedSimpArgs false
set_option linter.unusedSectionVars false
set_option maxHeartbeats 64000000
set_option maxRecDepth 100000
namespace Go.Proofs.YtajelkkiijdegaaGreat
open Go.RowKit
attribute [-go_sem] sliced
attribute [local go_sem] sliced_eq
attribute [local go_sem] GW.cell GW.frozen In.eq_true In.le_true In.ne In.ne' In.ne_add In.ne_add' In.lt_add Upto.le_true Upto.le_add Upto.lt_add Oper.semAt_some wide_depth wide_fn
def slen:Value→Nat
 | .slice _ n _=>n
 |_=>0
theorem jone_form{w:World}{v:Value}{x:Jp}(h:Jw w [] v [x]):∃A cap,v= .slice A 1 cap:=by obtain⟨A,cap,e,_⟩:=h;exact⟨A,cap,e⟩
def Hg(x:Gp)(vs:Array Value)(W:World):Prop:=∃r f,vs= #[r,f]∧(Rw W [] r x.1∧Jw W [] f x.2)
theorem Hg.stab{B:Nat}(x:Gp)(vs:Array Value):Stab B (Hg x vs):=Stab.ex fun r=>Stab.ex fun f=>(Stab.pure _).and ((Stab.sl _ _ _ _ _).and (Stab.sl _ _ _ _ _))
theorem Hg.size{x:Gp}{vs:Array Value}{W:World}(h:Hg x vs W):vs.size=2:=by obtain⟨r,f,rfl,_⟩:=h;rfl
theorem ew_tail{w:World}{S:List Nat}{A:Option Addr}{n cap:Nat}{p:Ve}{M:List Ve}(h:Ew w S (.slice A n cap) (p::M))(hn:n=M.length+1):Ew w S (.slice (cutA A 1 cap 3) (n-1) (cap-1)) M:=by
 subst hn
 obtain⟨A',cap',e,h1,h2,h3,h4⟩:=id h.1
 simp only[Value.slice.injEq] at e
 obtain⟨rfl, -,rfl⟩:=e
 have hc:=h.1.cut 1 (M.length+1) cap (by omega) (by simp) (by simpa using h1) (Nat.le_refl _)
 rw[sliced_eq,List.take_of_length_le (by rw[ec_length];simp),ec_drop] at hc
 exact⟨hc,fun q hq=>h.2 q (by simp[hq])⟩
theorem below_ext{n:Nat}{W W' w:World}(h:Below n W W')(k:Ext W' w)(hn:n≤W'.heap.size):Below n W w:=h.trans (below_fr (S:=[]) (Fr.of_ext k) hn (by simp))
theorem sl_below{w0 W wr:World}{S:List Nat}{sz n:Nat}{v:Value}{xs:List Value}(h:Sl w0 S sz v n xs)(hX:Ext w0 W)(hB:Below w0.heap.size W wr):Sl wr S sz v n xs :=
 h.keep fun b o _ hb=>(hB.cell (p:=⟨b,o,none⟩) hb).trans (World.cell?_of_block (a:=⟨b,o,none⟩) (hX.block b hb))
theorem functions_seq(L:List Ve)(v:Value)(w0 w:World)(b:Nat)(hC:Ew w0 [] v L)(hz:L.length≤1000000000)(hX:Ext w0 w)(hb:Ob w b 69 [v]) :
 Seqs Tryz.prog w0.heap.size 173 #[.pointer (some ⟨b,0,none⟩)] Hg (grp (eds L)) w:=by
 intro l J Jx W hW hJ hJx hY h0
 obtain⟨A,cap,rfl, -, -, -⟩:=ew_form hC
 have q0:=(hb.ext hW).cell 0 rfl
 have hz0:=hX.size
 have hz1:=hW.size
 replace hW:=hide (hX.trans hW)
 have hJ':=hide hJ
 have hY':=hide hY
 clear hJ hY hb hX
 refine (callsIn_wide (n:=1)).1 ?_
 refine callsIn_of_wp Tryz.func173 rfl trivial ?_ rfl
 simp only[Tryz.ntmps173,List.size_toArray,List.length_cons,List.length_nil,Nat.reduceAdd,Nat.reduceSub,Array.replicate_succ,Array.replicate_zero,List.push_toArray,List.append_toArray,List.nil_append,List.cons_append]
 gi_wp2
 gi_loopw [3] (fun u wr=>∃(A:Option Addr) (n cap:Nat) (N:List Ve) (G:List Gp),u= .slice A n cap∧Hid (Ew w0 [] (.slice A n cap) N)∧n=N.length∧n≤1000000000∧Hid (grp (eds L)=G++grp (eds N))∧Hid (J G.length wr)∧Below w0.heap.size W wr) (fun u _=>slen u)
 case atStart=>exact⟨A,L.length,cap,L,[],rfl,hC,rfl,hz,rfl,h0,Below.refl _ _⟩
 case round =>
  obtain⟨A,n,cap,N,G,rfl,hN,hn,hnz,hG,hJk,hB⟩:=hrel
  clear h0 hC q0 hz
  by_cases hlt:0<n
  ·obtain⟨p0,N0,hN0⟩:∃p M,N=p::M:=by
    cases N with
    |nil=>simp at hn;omega
    |cons p M=>exact⟨p,M,rfl⟩
   have hsub:=sl_below (hN.out.2 p0 (by rw[hN0];simp)) hW.out hB
   obtain⟨A',cap',e', -, -,hat⟩:=ew_form hN.out
   simp only[Value.slice.injEq] at e'
   obtain⟨rfl, -,rfl⟩:=e'
   obtain⟨bp,op,rfl, -,hbp,c0,c1,c2⟩:=hat 0 p0 (by rw[hN0];rfl)
   simp only[Nat.zero_mul,Nat.add_zero] at c0
   have k0:=(hB.cell (p:=⟨bp,op,none⟩) hbp).trans (cell_later hW.out c0)
   have hbr:bp<wr.heap.size:=block_lt_of_cell k0
   obtain⟨rv,q,p0a,p0n⟩:=p0
   simp only at k0 hsub
   obtain⟨RA,rcap,rfl⟩:=rw_val hsub
   have hzB:=hB.size
   have hn':=hide hn
   clear hn
   replace hat:=hide hat
   replace hN0:=hide hN0
   have hr0:=hide hsub
   clear c0 c1 c2 hsub
   gi_wp2
   refine wpIn_wide.2 ?_
   obtain⟨wo,hwo⟩:∃wo,wo=wr:=⟨_,rfl⟩
   subst hwo
   have hz1o:w0.heap.size≤wo.heap.size:=by omega
   go_loopw [3,5] (fun u f w2=>∃(A:Option Addr) (n2 lcap:Nat) (M:List Ve) (acc:List Jp) (run:List Ve),u= .slice A n2 lcap∧Hid (Ew w0 [] (.slice A n2 lcap) M)∧(n2=M.length∧acc.length≤1000000000-n2∧n2≤1000000000)∧OwnJ w2 wo.heap.size f acc∧Hid (N=run++M∧(∀x∈run,x.2.1=q)∧acc=run.map fun x=>x.2.2)∧Ext wo w2) (fun u _ _=>slen u)
   case atStart=>exact⟨_,n,_,N,[],[],rfl,hN,⟨hn'.out,by simp,hnz⟩,World.ownsRow_nil _ _ _ _,⟨rfl,by simp,rfl⟩,Ext.refl _⟩
   case round =>
    obtain⟨A,n2,lcap,M,acc,run,rfl,hM,⟨hn2,hacl,hn2z⟩,ho,hrun,hX⟩:=hrel
    have hzX:=hX.size
    cases hMc:M with
    |nil =>
     have hn0:n2=0:=by rw[hn2,hMc];rfl
     have hnp:¬0<n2:=by omega
     replace hn0:=hide hn0
     replace hMc:=hide hMc
     replace hn2:=hide hn2
     obtain⟨C,ccap,rfl⟩:=own_form ho
     replace ho:=hide ho
     have hJr:=hide (hJ'.out _ _ _ hJk.out hX)
     go_wp2_with fail
     have hXg:=hX.trans (Ext.refl _)
     have hgr:grp (eds N)=(q,acc)::grp (eds M):=by
      obtain⟨r1,r2,r3⟩:=hrun.out
      have hne:run≠[]:=by
       rintro rfl
       rw[List.nil_append,hN0.out] at r1
       rw[hMc.out] at r1;cases r1
      rw[r1,show eds (run++M)=eds run++eds M by simp[eds]]
      rw[grp_run q (eds run) (eds M) (by simpa using hne) (fun e he=>by obtain⟨x,hx,rfl⟩:=List.mem_map.1 he;exact r2 x hx) (fun e he=>by rw[hMc.out] at he;cases he),r3]
      simp[eds,Function.comp_def]
     have hlen:n2<n:=by
      obtain⟨r1,r2,r3⟩:=hrun.out
      have hne:run≠[]:=by
       rintro rfl
       rw[List.nil_append,hN0.out] at r1
       rw[hMc.out] at r1;cases r1
      have:0<run.length:=List.length_pos_iff.2 hne
      rw[hn'.out,hn2.out,r1,List.length_append];omega
     have hG2:grp (eds L)=(G++[(q,acc)])++grp (eds M):=by rw[hG.out,hgr];simp
     have hx:(grp (eds L))[G.length]? = some (q,acc):=by rw[hG.out,hgr];simp
     have hJr2:=hJ'.out _ _ _ hJr.out (Ext.refl _)
     obtain⟨fn,tmps,assign,body,hy,hR⟩:=hY'.out G.length (q,acc) #[.slice RA q.length rcap, .slice C acc.length ccap] _ hx hJr2 ⟨_,_,rfl,Sl.ext hr0.out hXg,own_jw (S:=[]) (own_ext ho.out (Ext.refl _)) (by simp)⟩
     have hGl:G.length+1≤(grp (eds L)).length:=by rw[hG2];simp
     have hJl:(G++[(q,acc)]).length=G.length+1:=by simp
     replace hR:=hide hR
     replace hG2:=hide hG2
     replace hGl:=hide hGl
     replace hJl:=hide hJl
     have hB2:=hide (below_ext hB hXg hz1o)
     clear hgr hx hJr hJr2 hrun hN0 hr0 hat ho
     gi_wp2
     refine hR.out.mono ?_
     rintro e W3 (⟨rfl,hJ3,hk3⟩|⟨rfl,hJx3⟩)
     ·replace hJ3:=hide hJ3
      replace hk3:=hide hk3
      gi_wp2
      go_roundw
      case rel=>exact⟨_,n2,lcap,M,G++[(q,acc)],rfl,hM,hn2.out,hn2z,hG2,(by show J _ W3;rw[hJl.out];exact hJ3.out),hB2.out.trans hk3.out⟩
      case measure=>simp[slen];omega
     ·replace hJx3:=hide hJx3
      gi_wp2
      refine bodyPost_ret (results_none rfl _ _ _) rfl ?_
      exact⟨⟨_,rfl⟩, .inr ⟨G.length+1,hGl.out,hJx3.out⟩⟩
    |cons p M' =>
     have hpos:0<n2:=by rw[hn2,hMc];simp
     have hsub:=Sl.ext (sl_below (hM.out.2 p (by rw[hMc];simp)) hW.out hB) hX
     obtain⟨A',cap',e',hlc,hlm,hat2⟩:=ew_form hM.out
     simp only[Value.slice.injEq] at e'
     obtain⟨rfl, -,rfl⟩:=e'
     obtain⟨bp,op,rfl, -,hbp,c0,c1,c2⟩:=hat2 0 p (by rw[hMc];rfl)
     rw[←hn2] at hlc
     unfold maxLen at hlm
     simp only[Nat.zero_mul,Nat.add_zero] at c0 c1 c2
     have k0:=cell_later hX ((hB.cell (p:=⟨bp,op,none⟩) hbp).trans (cell_later hW.out c0))
     have k1:=hide (cell_later hX ((hB.cell (p:=⟨bp,op+1,none⟩) hbp).trans (cell_later hW.out c1)))
     have k2:=hide (cell_later hX ((hB.cell (p:=⟨bp,op+2,none⟩) hbp).trans (cell_later hW.out c2)))
     have hbr2:bp<wr.heap.size:=block_lt_of_cell k0
     obtain⟨pv,pq,pa,pn⟩:=p
     simp only at k0 hsub
     obtain⟨PA,pcap,rfl⟩:=rw_val hsub
     have hsm:=hide (rowSame_c hsub (Sl.ext hr0.out hX))
     have hn1:n2=M'.length+1:=by rw[hn2,hMc];rfl
     have htl:=hide (ew_tail (p:=(.slice PA pq.length pcap,pq,pa,pn)) (M:=M') (by rw[←hMc];exact hM.out) hn1)
     by_cases hpq:pq=q
     ·have hnx:=hide (show N=(run++[(.slice PA pq.length pcap,pq,pa,pn)])++M'∧(∀x∈run++[((.slice PA pq.length pcap,pq,pa,pn):Ve)],x.2.1=q)∧acc++[(pa,pn)]=(run++[((.slice PA pq.length pcap,pq,pa,pn):Ve)]).map fun x=>x.2.2 from by
       obtain⟨r1,r2,r3⟩:=hrun.out
       refine⟨by rw[r1,hMc];simp,fun x hx=>?_,by rw[r3];simp⟩
       rcases List.mem_append.1 hx with hx|hx
       ·exact r2 x hx
       ·obtain rfl:=List.mem_singleton.1 hx;exact hpq)
      rw[decide_eq_true hpq] at hsm
      replace hMc:=hide hMc
      replace hpq:=hide hpq
      replace hn1:=hide hn1
      obtain⟨C,ccap,rfl⟩:=own_form ho
      replace ho:=hide ho
      have hn2I:(1:Int)≤n2:=by omega
      clear hat2 hsub c0 c1 c2 hrun hM hJk hG hN0 hr0 hat hN hn2
      go_wp2_with (go_at_call 133;(with_reducible refine seq_gw hsm.out ?_);intro g)
      replace ho:=hide (own_ext ho.out g.grown)
      replace k1:=hide (cell_later g.grown k1.out)
      replace k2:=hide (cell_later g.grown k2.out)
      have hzg:=g.grown.size
      refine wp_region_list_tail 11 [(.is (.slice C acc.length ccap)),(.is (.slice (some ⟨bp,op,none⟩) n2 lcap)),(.is (.pointer (some ⟨bp,op,none⟩))),(.is (.pointer (some ⟨bp,op+1,none⟩))),(.is (.int .i64 pa)),(.is (.slice (some ⟨bp,op,none⟩) n2 lcap)),(.is (.pointer (some ⟨bp,op,none⟩))),(.is (.pointer (some ⟨bp,op+2,none⟩))),(.is (.int .i64 pn)),(.is (jm (pa,pn))),oneJ (pa,pn)] (by kernel_rfl) (by kernel_rfl) (by kernel_rfl) (by kernel_rfl) (by kernel_rfl) (by kernel_rfl) (by kernel_rfl) ?_ ?_
      ·refine⟨?_,?_,?_,?_,?_,?_,?_,?_,?_,?_,?_,trivial⟩
       ·intro b w' h hE
        have f5:b.tmps.getD 5 undef= .slice C acc.length ccap:=hE 5 (of_decide_eq_true (by kernel_rfl))
        exact good_move (wanted_none rfl) rfl f5
       ·intro b w' h hE
        have f3:b.tmps.getD 3 undef= .slice (some ⟨bp,op,none⟩) n2 lcap:=hE 3 (of_decide_eq_true (by kernel_rfl))
        exact good_move (wanted_none rfl) rfl f3
       ·intro b w' h hE
        have f26:b.tmps.getD 26 undef= .slice (some ⟨bp,op,none⟩) n2 lcap:=h.dep 1 _ 26 (by kernel_rfl) rfl rfl
        exact good_index (wanted_none rfl) rfl f26 rfl (by simp[go_sem,hpos]) rfl
       ·intro b w' h hE
        have f27:b.tmps.getD 27 undef= .pointer (some ⟨bp,op,none⟩):=h.dep 2 _ 27 (by kernel_rfl) rfl rfl
        exact good_field (wanted_none rfl) rfl f27 (by simp[go_sem]) rfl
       ·intro b w' h hE
        have f28:b.tmps.getD 28 undef= .pointer (some ⟨bp,op+1,none⟩):=h.dep 3 _ 28 (by kernel_rfl) rfl rfl
        have c0:=cell_later h.ext k1.out
        exact good_load (wanted_none rfl) rfl f28 (by simp[go_sem,c0]) rfl
       ·intro b w' h hE
        have f3:b.tmps.getD 3 undef= .slice (some ⟨bp,op,none⟩) n2 lcap:=hE 3 (of_decide_eq_true (by kernel_rfl))
        exact good_move (wanted_none rfl) rfl f3
       ·intro b w' h hE
        have f30:b.tmps.getD 30 undef= .slice (some ⟨bp,op,none⟩) n2 lcap:=h.dep 5 _ 30 (by kernel_rfl) rfl rfl
        exact good_index (wanted_none rfl) rfl f30 rfl (by simp[go_sem,hpos]) rfl
       ·intro b w' h hE
        have f31:b.tmps.getD 31 undef= .pointer (some ⟨bp,op,none⟩):=h.dep 6 _ 31 (by kernel_rfl) rfl rfl
        exact good_field (wanted_none rfl) rfl f31 (by simp[go_sem]) rfl
       ·intro b w' h hE
        have f32:b.tmps.getD 32 undef= .pointer (some ⟨bp,op+2,none⟩):=h.dep 7 _ 32 (by kernel_rfl) rfl rfl
        have c0:=cell_later h.ext k2.out
        exact good_load (wanted_none rfl) rfl f32 (by simp[go_sem,c0]) rfl
       ·intro b w' h hE
        have f29:b.tmps.getD 29 undef= .int .i64 pa:=h.dep 4 _ 29 (by kernel_rfl) rfl rfl
        have g29:b.tmps[29]?.getD undef= .int .i64 pa:=by rw[←Array.getD_eq_getD_getElem?];exact f29
        have f33:b.tmps.getD 33 undef= .int .i64 pn:=h.dep 8 _ 33 (by kernel_rfl) rfl rfl
        have g33:b.tmps[33]?.getD undef= .int .i64 pn:=by rw[←Array.getD_eq_getD_getElem?];exact f33
        exact good_run (wanted_none rfl) (by simp[execOp,Act.eval,go_sem,g29,g33,Sem.run_bind,Sem.run_pure,Result.andThen_ok]) rfl
       ·intro b w' h hE
        have f34:b.tmps.getD 34 undef=jm (pa,pn):=h.dep 9 _ 34 (by kernel_rfl) rfl rfl
        have g34:b.tmps[34]?.getD undef=jm (pa,pn):=by rw[←Array.getD_eq_getD_getElem?];exact f34
        have:=buildJ1 (pa,pn) w'
        refine good_grow (w':=w'.alloc (.cells #[.int .i64 ((pa,pn)).1, .int .i64 ((pa,pn)).2] 178)) (v:= .slice (some ⟨w'.heap.size,0,none⟩) 1 1) (wanted_none rfl) ?_ (oneJ_new (pa,pn) w') ((Ext.refl _).alloc _)
        simp[execOp,Act.eval,g34,this,Sem.run_bind,Sem.run_pure,Result.andThen_ok]
      ·intro b w2 hX2 hd hz he' hf
       have e25:b.tmps.getD 25 undef= .slice C acc.length ccap:=hf 0 _ 25 (by omega) rfl rfl
       have e26:b.tmps.getD 26 undef= .slice (some ⟨bp,op,none⟩) n2 lcap:=hf 1 _ 26 (by omega) rfl rfl
       have e27:b.tmps.getD 27 undef= .pointer (some ⟨bp,op,none⟩):=hf 2 _ 27 (by omega) rfl rfl
       have e28:b.tmps.getD 28 undef= .pointer (some ⟨bp,op+1,none⟩):=hf 3 _ 28 (by omega) rfl rfl
       have e29:b.tmps.getD 29 undef= .int .i64 pa:=hf 4 _ 29 (by omega) rfl rfl
       have e30:b.tmps.getD 30 undef= .slice (some ⟨bp,op,none⟩) n2 lcap:=hf 5 _ 30 (by omega) rfl rfl
       have e31:b.tmps.getD 31 undef= .pointer (some ⟨bp,op,none⟩):=hf 6 _ 31 (by omega) rfl rfl
       have e32:b.tmps.getD 32 undef= .pointer (some ⟨bp,op+2,none⟩):=hf 7 _ 32 (by omega) rfl rfl
       have e33:b.tmps.getD 33 undef= .int .i64 pn:=hf 8 _ 33 (by omega) rfl rfl
       have e34:b.tmps.getD 34 undef=jm (pa,pn):=hf 9 _ 34 (by omega) rfl rfl
       have f9:Jw w2 [] (b.tmps.getD 35 undef) [(pa,pn)]:=hf 10 _ 35 (by omega) rfl rfl
       have e:=frame_puts hd hz he'
       obtain⟨X,hXx⟩:∃X:Nat→Value,∀d,b.tmps.getD d undef=X d:=⟨_,fun _=>rfl⟩
       rw[hXx] at e25 e26 e27 e28 e29 e30 e31 e32 e33 e34 f9
       obtain⟨A35,c35,q35⟩:=jone_form f9
       rw[show dstsOf _=[25,26,27,28,29,30,31,32,33,34,35] from rfl] at e
       simp only[List.foldl_cons,List.foldl_nil,hXx,Act.put,List.setIfInBounds_toArray,List.set_cons_succ,List.set_cons_zero] at e
       rw[e25,e26,e27,e28,e29,e30,e31,e32,e33,e34,q35] at e
       rw[q35] at f9
       replace f9:=hide f9
       clear hf he' hz hd hXx e25 e26 e27 e28 e29 e30 e31 e32 e33 e34 q35
       subst e
       have hzw:=hX2.size
       simp only[List.drop_succ_cons,List.drop_zero]
       go_wp2_with (at_builtin;(refine wpl_app tJmp rfl (.tmp 25) (.tmp 35) rfl rfl (own_ext ho.out hX2) rfl (src_sl Tryz.underlying122 f9.out (ps_one _) (by omega)) (by unfold maxLen;simp only[List.length_singleton];omega) (by simp only[List.length_singleton];omega) (by omega) ?_;intro v8 w8 ho8 hg8 _;have hX8:=hide (ext_grown ((hX.trans g.grown).trans hX2) hg8 (fun q hq=>(ho.out.lt q hq).1))))
       go_roundw
       case rel=>exact⟨_,n2-1,lcap-1,M',acc++[(pa,pn)],run++[(.slice PA pq.length pcap,pq,pa,pn)],rfl,htl.out,⟨by have:=hn1.out;omega,by rw[List.length_append,List.length_singleton];omega,by omega⟩,own_appJ ho8,hnx,hX8.out⟩
       case measure=>simp[slen];omega
     ·have hpq':=hide hpq
      rw[decide_eq_false hpq] at hsm
      have hMc':=hide hMc
      replace hn2:=hide hn2
      clear hat2 hsub c0 c1 c2 hn1 htl hpq hMc
      obtain⟨C,ccap,rfl⟩:=own_form ho
      replace ho:=hide ho
      have hJr:=hide (hJ'.out _ _ _ hJk.out hX)
      go_wp2_with (go_at_call 133;(with_reducible refine seq_gw hsm.out ?_);intro g)
      have hXg:=hX.trans g.grown
      have hgr:grp (eds N)=(q,acc)::grp (eds M):=by
       obtain⟨r1,r2,r3⟩:=hrun.out
       have hne:run≠[]:=by
        rintro rfl
        rw[List.nil_append,hN0.out] at r1
        rw[hMc'.out] at r1;injection r1 with r1 _;injection r1 with _ r1;injection r1 with r1 _;exact hpq'.out r1.symm
       rw[r1,show eds (run++M)=eds run++eds M by simp[eds]]
       rw[grp_run q (eds run) (eds M) (by simpa using hne) (fun e he=>by obtain⟨x,hx,rfl⟩:=List.mem_map.1 he;exact r2 x hx) (fun e he=>by rw[hMc'.out] at he;simp[eds] at he;subst he;exact hpq'.out),r3]
       simp[eds,Function.comp_def]
      have hlen:n2<n:=by
       obtain⟨r1,r2,r3⟩:=hrun.out
       have hne:run≠[]:=by
        rintro rfl
        rw[List.nil_append,hN0.out] at r1
        rw[hMc'.out] at r1;injection r1 with r1 _;injection r1 with _ r1;injection r1 with r1 _;exact hpq'.out r1.symm
       have:0<run.length:=List.length_pos_iff.2 hne
       rw[hn'.out,hn2.out,r1,List.length_append];omega
      have hG2:grp (eds L)=(G++[(q,acc)])++grp (eds M):=by rw[hG.out,hgr];simp
      have hx:(grp (eds L))[G.length]? = some (q,acc):=by rw[hG.out,hgr];simp
      have hJr2:=hJ'.out _ _ _ hJr.out g.grown
      obtain⟨fn,tmps,assign,body,hy,hR⟩:=hY'.out G.length (q,acc) #[.slice RA q.length rcap, .slice C acc.length ccap] _ hx hJr2 ⟨_,_,rfl,Sl.ext hr0.out hXg,own_jw (S:=[]) (own_ext ho.out g.grown) (by simp)⟩
      have hGl:G.length+1≤(grp (eds L)).length:=by rw[hG2];simp
      have hJl:(G++[(q,acc)]).length=G.length+1:=by simp
      replace hR:=hide hR
      replace hG2:=hide hG2
      replace hGl:=hide hGl
      replace hJl:=hide hJl
      have hB2:=hide (below_ext hB hXg hz1o)
      clear hgr hx hJr hJr2 hrun hN0 hr0 hat ho
      gi_wp2
      refine hR.out.mono ?_
      rintro e W3 (⟨rfl,hJ3,hk3⟩|⟨rfl,hJx3⟩)
      ·replace hJ3:=hide hJ3
       replace hk3:=hide hk3
       gi_wp2
       go_roundw
       case rel=>exact⟨_,n2,lcap,M,G++[(q,acc)],rfl,hM,hn2.out,hn2z,hG2,(by show J _ W3;rw[hJl.out];exact hJ3.out),hB2.out.trans hk3.out⟩
       case measure=>simp[slen];omega
      ·replace hJx3:=hide hJx3
       gi_wp2
       refine bodyPost_ret (results_none rfl _ _ _) rfl ?_
       exact⟨⟨_,rfl⟩, .inr ⟨G.length+1,hGl.out,hJx3.out⟩⟩
  ·have hn0:n=0:=by omega
   have hJe:Hid (J (grp (eds L)).length wr):=by
    show J _ wr
    have hNn:N=[]:=List.eq_nil_of_length_eq_zero (by omega)
    rw[hG.out,hNn]
    have:grp (eds ([]:List Ve))=[]:=rfl
    rw[this,List.append_nil]
    exact hJk.out
   replace hn:=hide hn
   replace hn0:=hide hn0
   gi_wp2
   go_end0
   exact⟨⟨_,rfl⟩, .inl hJe.out⟩
def Hgo(x:Gp)(vs:Array Value)(W:World):Prop:=∃r f,vs= #[r,f]∧(Rw W [] r x.1∧OwnJ W 0 f x.2)
theorem Hgo.stab{B:Nat}(x:Gp)(vs:Array Value):Stab B (Hgo x vs):=Stab.ex fun r=>Stab.ex fun f=>(Stab.pure _).and ((Stab.sl _ _ _ _ _).and (Stab.own _ _ _ _ _ _))
theorem Hgo.size{x:Gp}{vs:Array Value}{W:World}(h:Hgo x vs W):vs.size=2:=by obtain⟨r,f,rfl,_⟩:=h;rfl
end Go.Proofs.YtajelkkiijdegaaGreat
namespace Go.Proofs.YtajelkkiijdegaaGreat
open Go.RowKit
theorem Stab.mono{B B':Nat}{p:World→Prop}(h:Stab B p)(hB:B≤B'):Stab B' p:=⟨h.ext,fun A l o o' x hl=>h.put A l o o' x (Nat.le_trans hB hl)⟩
theorem keepsF_mono{B B':Nat}{W W':World}(h:KeepsFrom B W W')(hB:B≤B'):KeepsFrom B' W W':=⟨h.size,fun k o hk=>h.same k o (Nat.le_trans hB hk)⟩
theorem keepsF_trans{B:Nat}{W W' w:World}(h:KeepsFrom B W W')(k:KeepsFrom B W' w):KeepsFrom B W w:=⟨Nat.le_trans h.size k.size,fun i o hi ho hc=>k.same i o hi (h.same i o hi ho hc) hc⟩
theorem keepsF_put{B l:Nat}{A:World}(hl:l<B)(o:Obj):KeepsFrom B A (A.putObj l o):=⟨by simp,fun k p hk hp _=>(World.putObj_heap_other (by omega)).trans hp⟩
theorem ob_putF{A:World}{l:Nat}{o o':Obj}(ho:A.heap[l]? = some o)(hc:o.isCells=false){b:Nat}{T:TypeId}{vs:List Value}(h:Ob A b T vs):Ob (A.putObj l o') b T vs:=put_block ho hc h rfl
theorem yield_in{P:Program}{ly l:Nat}{vs:Array Value}{W:World}{R:Ending→World→Prop}(h:YieldAt Fence.wide 0 P ly vs W R):∃fn tmps assign body,(Instr.yield ly vs).run P W= .ok (.round ly fn tmps assign body) W∧RoundIn (Fence.wide.inRound l) 0 P ly fn tmps assign body W R:=by
 obtain⟨fn,tmps,assign,body,hy,hR⟩:=h
 exact⟨fn,tmps,assign,body,hy,hR⟩
section
variable {β:Type} {P:Program} {g:Operand} {ps:Array Tmp} {assign body:Code} {Q:Exit→Act→World→Prop} {a:Act} {w w0:World} {gf n₀:Nat} {lb:Array Value} {H:β→Array Value→World→Prop} {xs:List β}
end
end Go.Proofs.YtajelkkiijdegaaGreat
namespace Go.Proofs.YtajelkkiijdegaaGreat
open Go.RowKit
attribute [local go_sem] GW.cell GW.frozen In.eq_true In.le_true In.ne In.ne' In.ne_add In.ne_add' In.lt_add Upto.le_true Upto.le_add Upto.lt_add
theorem tVal:ElemT Tryz.prog 35 83 (.agg #[.int .i64 0, .int .i64 0, .string ⟨#[]⟩]) 3 32:=ElemT.mk' Tryz.underlying35 (by kernel_rfl) rfl (by omega)
theorem own_appR{w:World}{B:Nat}{v:Value}{l m:List Vl}(h:w.ownsRow B 83 3 v (l.length+m.length) (rc l++rc m)):OwnR w B v (l++m):=by
 unfold OwnR;rw[List.length_append,rc_append];exact h
theorem rowClone_c(l:List Vl)(v:Value)(w:World)(h:Rw w [] v l)(hz:l.length*32≤140737488351232):Calls Tryz.prog 103 #[v] w fun e w'=>∃v',e= .returned v'∧OwnR w' w.heap.size v' l∧Ext w w':=by
 obtain⟨A,cap,rfl,hl,hm, -⟩:=rw_form h
 have hq:=fun w=>Lib.run_eql_slice_nil (P:=Tryz.prog) w 35 83 A l.length cap 0 0 Tryz.underlying35
 cases A with
 |none =>
  have hl0:l=[]:=by
   obtain⟨A',cap',e,_,_,h3,h4⟩:=h
   rcases h4 with h4|⟨b,o,rfl,_⟩
   ·have:=congrArg List.length h4;rw[rc_length] at this;exact List.eq_nil_of_length_eq_zero (by simp at this;omega)
   ·cases e
  subst hl0
  clear h hq
  have hq0:=fun w=>Lib.run_eql_slice_nil (P:=Tryz.prog) w 35 83 none 0 cap 0 0 Tryz.underlying35
  show Calls Tryz.prog 103 #[.slice none 0 cap] w fun e w'=>∃v',e= .returned v'∧OwnR w' w.heap.size v' []∧Ext w w'
  go_enter Tryz.func103,Tryz.ntmps103
  go_wp2_with fail
  go_returns
  exact⟨_,rfl,World.ownsRow_nil _ _ _ _,Ext.refl w⟩
 |some a =>
  have hlit:=hide (World.ownsRow_lit (base:=w.heap.size) (e:=83) (size:=3) w #[] 0 (Nat.le_refl _) (by decide) rfl)
  have hv:=hide h
  clear h
  go_enter Tryz.func103,Tryz.ntmps103
  go_wp2_with (at_builtin;(refine wpl_app tVal rfl (.tmp 5) (.tmp 6) rfl rfl hlit.out rfl (src_sl Tryz.underlying35 (Sl.ext hv.out ((Ext.refl w).alloc _)) (rc_one _) (by omega)) (by unfold maxLen;omega) (by omega) (by simp) ?_;intro v1 w1 ho1 hg1 _))
  go_returns
  have ho2:OwnR w1 w.heap.size v1 l:=by have:=own_appR (l:=[]) ho1;simpa using this
  exact⟨_,rfl,ho2,ext_grown ((Ext.refl w).alloc _) hg1 (fun k hk=>(hlit.out.lt k hk).1)⟩
theorem rowCopy_c(l:List Vl)(v:Value)(w:World)(h:Rw w [] v l)(hz:l.length*32≤140737488351232):Calls Tryz.prog 53 #[v] w fun e w'=>∃v',e= .returned v'∧OwnR w' w.heap.size v' l∧Ext w w':=by
 have hc:=hide (rowClone_c l v w h hz)
 clear h
 go_enter Tryz.func53,Tryz.ntmps53
 go_wp2_with (go_at_call 103;refine hc.out.mono ?_;rintro ee w1 ⟨v1,rfl,ho1,hx1⟩)
 go_returns
 exact⟨_,rfl,ho1,hx1⟩
end Go.Proofs.YtajelkkiijdegaaGreat
namespace Go.Proofs.YtajelkkiijdegaaGreat
open Go.RowKit
attribute [local go_sem] GW.cell GW.frozen In.eq_true In.le_true In.ne In.ne' In.ne_add In.ne_add' In.lt_add Upto.le_true Upto.le_add Upto.lt_add Oper.semAt_some wide_depth wide_fn
def Hgg(x:Gp)(vs:Array Value)(W:World):Prop:=∃r f,vs= #[r,f]∧(OwnR W 0 r x.1∧OwnJ W 0 f x.2)
theorem Hgg.stab{B:Nat}(x:Gp)(vs:Array Value):Stab B (Hgg x vs):=Stab.ex fun r=>Stab.ex fun f=>(Stab.pure _).and ((Stab.own _ _ _ _ _ _).and (Stab.own _ _ _ _ _ _))
theorem Hgg.size{x:Gp}{vs:Array Value}{W:World}(h:Hgg x vs W):vs.size=2:=by obtain⟨r,f,rfl,_⟩:=h;rfl
end Go.Proofs.YtajelkkiijdegaaGreat
namespace Go.Proofs.YtajelkkiijdegaaGreat
open Go.RowKit
attribute [local go_sem] GW.cell GW.frozen In.eq_true In.le_true In.ne In.ne' In.ne_add In.ne_add' In.lt_add Upto.le_true Upto.le_add Upto.lt_add
theorem sl_form{w:World}{S:List Nat}{sz n:Nat}{v:Value}{xs:List Value}(h:Sl w S sz v n xs):∃A cap,v= .slice A n cap:=by obtain⟨A,cap,e,_⟩:=h;exact⟨A,cap,e⟩
def OwnEr(w:World)(base:Nat)(v:Value)(L:List Ve):Prop:=OwnE w base v L∧∀p∈L,Rw w (ob v++List.range base) p.1 p.2.1
theorem rw_app{w w':World}{v v' u:Value}{S S':List Nat}{r:List Vl}(h:Rw w S u r)(hS:∀k∈ob v,k∈S)(hS':∀k∈S',k∈S)(hg:w.grownBy w' v.ownBlock)(hv:v'.ownBlock=v.ownBlock∨v'.ownBlock=some w.heap.size):Rw w' (ob v'++S') u r:=by
 have hF:=fr_grown hg
 rcases hv with e|e
 ·have:=Sl.fr h hF hS
  refine Sl.less this fun b hb=>?_
  rcases List.mem_append.1 hb with hb|hb
  ·exact hS b (by unfold ob at hb ⊢;rwa [e] at hb)
  ·exact hS' b hb
 ·have h2:Rw w (w.heap.size::S) u r:=Sl.new h fun b hb=>by
   rcases List.mem_cons.1 hb with rfl|hb
   ·exact .inr (Nat.le_refl _)
   ·exact .inl hb
  have h3:=Sl.fr h2 hF fun b hb=>List.mem_cons_of_mem _ (hS b hb)
  refine Sl.less h3 fun b hb=>?_
  rcases List.mem_append.1 hb with hb|hb
  ·unfold ob at hb;rw[e] at hb;simp at hb;simp[hb]
  ·exact List.mem_cons_of_mem _ (hS' b hb)
section
variable {w w':World} {base:Nat} {v v':Value} {L M:List Ve}
theorem OwnEr.nil(w:World)(base:Nat):OwnEr w base (.slice none 0 0) []:=⟨World.ownsRow_nil _ _ _ _,by simp⟩
theorem OwnEr.ext(h:OwnEr w base v L)(k:Ext w w'):OwnEr w' base v L:=⟨own_ext h.1 k,fun p hp=>Sl.ext (h.2 p hp) k⟩
theorem OwnEr.lower{b:Nat}(h:OwnEr w base v L)(hb:b≤base):OwnEr w b v L:=⟨own_base h.1 hb,fun p hp=>Sl.less (h.2 p hp) fun k hk=>by
 rcases List.mem_append.1 hk with hk|hk
 ·exact List.mem_append_left _ hk
 ·exact List.mem_append_right _ (List.mem_range.2 (by have:=List.mem_range.1 hk;omega))⟩
theorem OwnEr.ew(h:OwnEr w base v L):Ew w [] v L:=⟨Sl.own h.1 (by simp),fun p hp=>Sl.less (h.2 p hp) (by simp)⟩
theorem OwnEr.app(h:OwnEr w base v L)(ho:OwnE w' base v' (L++M))(hg:w.grownBy w' v.ownBlock)(hv:v'.ownBlock=v.ownBlock∨v'.ownBlock=some w.heap.size)(hM:∀p∈M,∃S,Rw w S p.1 p.2.1∧∀k∈ob v++List.range base,k∈S):OwnEr w' base v' (L++M):=by
 refine⟨ho,fun p hp=>?_⟩
 rcases List.mem_append.1 hp with hp|hp
 ·exact rw_app (h.2 p hp) (fun k hk=>List.mem_append_left _ hk) (fun k hk=>List.mem_append_right _ hk) hg hv
 ·obtain⟨S,hS,hk⟩:=hM p hp
  exact rw_app hS (fun k h=>hk k (List.mem_append_left _ h)) (fun k h=>hk k (List.mem_append_right _ h)) hg hv
end
theorem ec1_one{u:Value}{r:List Vl}{j:Jp}(h:u.oneCell'=true):∀x∈ec1 (u,r,j),x.oneCell'=true:=by
 intro x hx;simp[ec1] at hx;rcases hx with rfl|rfl|rfl;exact h;rfl;rfl
def rowF(S:List Nat)(r:List Vl):Fact:= .st (fun u w=>Rw w S u r) (fun _ _ _ h k=>Sl.ext h k)
def edgF(S:List Nat)(r:List Vl)(j:Jp):Fact:= .st (fun u w=>∃A cp,u=em (.slice A r.length cp) j∧Rw w S (.slice A r.length cp) r) (fun _ _ _ h k=>by obtain⟨A,cp,e,h⟩:=h;exact⟨A,cp,e,Sl.ext h k⟩)
def oneE(S:List Nat)(r:List Vl)(j:Jp):Fact:= .st (fun v w=>∃u,Sl w [] 3 v 1 (ec1 (u,r,j))∧Rw w S u r) (fun _ _ _ h k=>by obtain⟨u,h1,h2⟩:=h;exact⟨u,Sl.ext h1 k,Sl.ext h2 k⟩)
theorem buildE1(A:Option Addr)(n cap:Nat)(x:Jp)(w:World):(Instr.buildSlice 69 1 #[(0,em (.slice A n cap) x)]).run Tryz.prog w= .ok (.slice (some ⟨w.heap.size,0,none⟩) 1 1) (w.alloc (.cells #[.slice A n cap, .int .i64 x.1, .int .i64 x.2] 131)):=by
 simp[go_sem]
theorem oneE_new(u:Value)(r:List Vl)(x:Jp)(w:World):Sl (w.alloc (.cells #[u, .int .i64 x.1, .int .i64 x.2] 131)) [] 3 (.slice (some ⟨w.heap.size,0,none⟩) 1 1) 1 (ec1 (u,r,x)) :=
 Sl.own (World.ownsRow_lit (base:=w.heap.size) (e:=131) (size:=3) w #[u, .int .i64 x.1, .int .i64 x.2] 1 (Nat.le_refl _) (by decide) rfl) (by simp)
theorem edgesOf_c(r:List Vl)(f:List Jp)(u v:Value)(w:World)(hr:Rw w [] u r)(hr8:r.length≤8)(hf:Jw w [] v f)(hfl:f.length≤1000000000):Calls Tryz.prog 132 #[u,v] w fun e w'=>∃v' M,e= .returned v'∧eds M=f.map (fun j=>(r,j))∧OwnEr w' w.heap.size v' M∧Ext w w':=by
 obtain⟨A,cap,rfl,hlc,hlm,hat⟩:=jw_form hf
 unfold maxLen at hlm
 replace hat:=hide hat
 obtain⟨RA,rcap,rfl⟩:=rw_val hr
 have hrw:=hide hr
 clear hf hr
 go_enter Tryz.func132,Tryz.ntmps132
 go_wp2_with fail
 go_loopg [5,10] f.length (fun gh vv i wr=>∃(k:Nat) (acc:List Ve),i= .int .i64 k∧k+gh=f.length∧OwnEr wr w.heap.size vv acc∧acc.length≤k∧Hid (eds acc=(f.take k).map fun j=>(r,j))∧Ext w wr)
 case atStart=>exact⟨0,[],rfl,by omega,OwnEr.nil _ _,Nat.le_refl _,(by show _=_;simp[eds]),Ext.refl w⟩
 case round =>
  obtain⟨k,acc,rfl,hk,ho,hak,hacc,hX⟩:=hrel
  have hzX:=hX.size
  by_cases hlt:k<f.length
  ·obtain⟨x,hx⟩:∃x,f[k]? = some x:=⟨_,List.getElem?_eq_getElem hlt⟩
   obtain⟨b0,o0,rfl, -,hb',c0,c1⟩:=hat.out k x hx
   have k0:=jcell_later hX c0
   have k1:=jcell_later hX c1
   have hbr:b0<wr.heap.size:=block_lt_of_cell k0
   have hnx:=hide (show eds acc++[(r,x)]=(f.take (k+1)).map fun j=>(r,j) by rw[hacc.out,List.take_add_one,hx];simp)
   obtain⟨ja,jn⟩:=x
   simp only at k0 k1 hnx
   have O1:=Ob.new wr 178 [.int .i64 ja, .int .i64 jn]
   have q0:=hide (O1.cell 0 rfl)
   have q1:=hide (O1.cell 1 rfl)
   have hcp:=hide (fun w' (hX':Ext (wr.alloc (.cells #[.int .i64 ja, .int .i64 jn] 178)) w')=>rowCopy_c r (.slice RA r.length rcap) w' (Sl.ext hrw.out ((hX.alloc _).trans hX')) (by omega))
   have ho0:=hide ho
   obtain⟨C,ccap,rfl⟩:=own_form ho.1
   replace ho:=hide (ho.ext ((Ext.refl wr).alloc (.cells #[.int .i64 ja, .int .i64 jn] 178)))
   clear c0 c1 hat O1 hx hacc hrw
   go_wp2_with fail
   refine wp_region_list_tail 9 [(.is (.slice C acc.length ccap)),(.is (.slice RA r.length rcap)),rowF (List.range wr.heap.size) r,(.is (.pointer (some ⟨wr.heap.size,0,none⟩))),(.is (.int .i64 ja)),(.is (.pointer (some ⟨wr.heap.size,1,none⟩))),(.is (.int .i64 jn)),edgF (List.range wr.heap.size) r (ja,jn),oneE (List.range wr.heap.size) r (ja,jn)] (by kernel_rfl) (by kernel_rfl) (by kernel_rfl) (by kernel_rfl) (by kernel_rfl) (by kernel_rfl) (by kernel_rfl) ?_ ?_
   ·refine⟨?_,?_,?_,?_,?_,?_,?_,?_,?_,trivial⟩
    ·intro b w' h hE
     have f5:b.tmps.getD 5 undef= .slice C acc.length ccap:=hE 5 (of_decide_eq_true (by kernel_rfl))
     exact good_move (wanted_none rfl) rfl f5
    ·intro b w' h hE
     have f0:b.tmps.getD 0 undef= .slice RA r.length rcap:=hE 0 (of_decide_eq_true (by kernel_rfl))
     exact good_move (wanted_none rfl) rfl f0
    ·intro b w' h hE
     have f15:b.tmps.getD 15 undef= .slice RA r.length rcap:=h.dep 1 _ 15 (by kernel_rfl) rfl rfl
     have g15:b.tmps[15]?.getD undef= .slice RA r.length rcap:=by rw[←Array.getD_eq_getD_getElem?];exact f15
     refine good_call (wanted_none rfl) rfl (enters Tryz.func53 (by kernel_rfl) rfl) ?_
     rw[show (#[.tmp 15]:Array Operand).map b.eval= #[.slice RA r.length rcap] by simp[Act.eval,g15]]
     exact (hcp.out w' h.ext).mono fun e w1 ⟨v,he,ho,hx⟩=>⟨v,he,Sl.own ho (fun k hk=>by have:=List.mem_range.1 hk;have:=h.ext.size;simp only[World.size_alloc] at this;omega),hx⟩
    ·intro b w' h hE
     have f7:b.tmps.getD 7 undef= .pointer (some ⟨wr.heap.size,0,none⟩):=hE 7 (of_decide_eq_true (by kernel_rfl))
     exact good_field (wanted_none rfl) rfl f7 (by simp[go_sem]) rfl
    ·intro b w' h hE
     have f17:b.tmps.getD 17 undef= .pointer (some ⟨wr.heap.size,0,none⟩):=h.dep 3 _ 17 (by kernel_rfl) rfl rfl
     have c0:=cell_later h.ext q0.out
     exact good_load (wanted_none rfl) rfl f17 (by simp[go_sem,c0]) rfl
    ·intro b w' h hE
     have f7:b.tmps.getD 7 undef= .pointer (some ⟨wr.heap.size,0,none⟩):=hE 7 (of_decide_eq_true (by kernel_rfl))
     exact good_field (wanted_none rfl) rfl f7 (by simp[go_sem]) rfl
    ·intro b w' h hE
     have f19:b.tmps.getD 19 undef= .pointer (some ⟨wr.heap.size,1,none⟩):=h.dep 5 _ 19 (by kernel_rfl) rfl rfl
     have c0:=cell_later h.ext q1.out
     exact good_load (wanted_none rfl) rfl f19 (by simp[go_sem,c0]) rfl
    ·intro b w' h hE
     have f16:Rw w' (List.range wr.heap.size) (b.tmps.getD 16 undef) r:=h.dep 2 _ 16 (by kernel_rfl) rfl rfl
     have f18:b.tmps.getD 18 undef= .int .i64 ja:=h.dep 4 _ 18 (by kernel_rfl) rfl rfl
     have g18:b.tmps[18]?.getD undef= .int .i64 ja:=by rw[←Array.getD_eq_getD_getElem?];exact f18
     have f20:b.tmps.getD 20 undef= .int .i64 jn:=h.dep 6 _ 20 (by kernel_rfl) rfl rfl
     have g20:b.tmps[20]?.getD undef= .int .i64 jn:=by rw[←Array.getD_eq_getD_getElem?];exact f20
     obtain⟨A,cp,e16⟩:=rw_val f16
     have g16:b.tmps[16]?.getD undef= .slice A r.length cp:=by rw[←Array.getD_eq_getD_getElem?];exact e16
     rw[e16] at f16
     exact good_run (wanted_none rfl) (v:=em (.slice A r.length cp) (ja,jn)) (by simp[execOp,Act.eval,go_sem,g16,g18,g20,Sem.run_bind,Sem.run_pure,Result.andThen_ok]) ⟨A,cp,rfl,f16⟩
    ·intro b w' h hE
     have f21:∃A cp,(b.tmps.getD 21 undef)=em (.slice A r.length cp) (ja,jn)∧Rw w' (List.range wr.heap.size) (.slice A r.length cp) r:=h.dep 7 _ 21 (by kernel_rfl) rfl rfl
     obtain⟨A,cp,e21,hr21⟩:=f21
     have g21:b.tmps[21]?.getD undef=em (.slice A r.length cp) (ja,jn):=by rw[←Array.getD_eq_getD_getElem?];exact e21
     have:=buildE1 A r.length cp (ja,jn) w'
     refine good_grow (w':=w'.alloc (.cells #[.slice A r.length cp, .int .i64 ja, .int .i64 jn] 131)) (v:= .slice (some ⟨w'.heap.size,0,none⟩) 1 1) (wanted_none rfl) ?_ ⟨_,oneE_new (.slice A r.length cp) r (ja,jn) w',Sl.ext hr21 ((Ext.refl _).alloc _)⟩ ((Ext.refl _).alloc _)
     simp[execOp,Act.eval,g21,this,Sem.run_bind,Sem.run_pure,Result.andThen_ok]
   ·intro b w2 hX2 hd hz he' hf
    have e14:b.tmps.getD 14 undef= .slice C acc.length ccap:=hf 0 _ 14 (by omega) rfl rfl
    have e15:b.tmps.getD 15 undef= .slice RA r.length rcap:=hf 1 _ 15 (by omega) rfl rfl
    have f16:Rw w2 (List.range wr.heap.size) (b.tmps.getD 16 undef) r:=hf 2 _ 16 (by omega) rfl rfl
    have e17:b.tmps.getD 17 undef= .pointer (some ⟨wr.heap.size,0,none⟩):=hf 3 _ 17 (by omega) rfl rfl
    have e18:b.tmps.getD 18 undef= .int .i64 ja:=hf 4 _ 18 (by omega) rfl rfl
    have e19:b.tmps.getD 19 undef= .pointer (some ⟨wr.heap.size,1,none⟩):=hf 5 _ 19 (by omega) rfl rfl
    have e20:b.tmps.getD 20 undef= .int .i64 jn:=hf 6 _ 20 (by omega) rfl rfl
    have f21:∃A cp,(b.tmps.getD 21 undef)=em (.slice A r.length cp) (ja,jn)∧Rw w2 (List.range wr.heap.size) (.slice A r.length cp) r:=hf 7 _ 21 (by omega) rfl rfl
    have f22:∃u,Sl w2 [] 3 (b.tmps.getD 22 undef) 1 (ec1 (u,r,(ja,jn)))∧Rw w2 (List.range wr.heap.size) u r:=hf 8 _ 22 (by omega) rfl rfl
    have e:=frame_puts hd hz he'
    obtain⟨X,hXx⟩:∃X:Nat→Value,∀d,b.tmps.getD d undef=X d:=⟨_,fun _=>rfl⟩
    rw[hXx] at e14 e15 e17 e18 e19 e20 f16 f21 f22
    obtain⟨A16,c16,q16⟩:=rw_val f16
    obtain⟨A21,c21,q21, -⟩:=f21
    obtain⟨u22,f22,r22⟩:=f22
    obtain⟨A22,c22,q22⟩:=sl_form f22
    rw[show dstsOf _=[14,15,16,17,18,19,20,21,22] from rfl] at e
    simp only[List.foldl_cons,List.foldl_nil,hXx,Act.put,List.setIfInBounds_toArray,List.set_cons_succ,List.set_cons_zero] at e
    rw[e14,e15,e17,e18,e19,e20,q16,q21,q22] at e
    rw[q16] at f16
    replace f16:=hide f16
    rw[q22] at f22
    replace f22:=hide f22
    clear hf he' hz hd hXx e14 e15 e17 e18 e19 e20 q16 q21 q22
    subst e
    have hzw:=hX2.size
    simp only[List.drop_succ_cons,List.drop_zero]
    replace r22:=hide r22
    have hone:=row_one r22.out
    go_wp2_with (at_builtin;(refine wpl_app tEdg rfl (.tmp 14) (.tmp 22) rfl rfl (own_ext ho.out.1 hX2) rfl (src_sl Tryz.underlying69 f22.out (ec1_one hone) (by omega)) (by unfold maxLen;omega) (by omega) (by simp only[World.size_alloc] at hzw;omega) ?_;intro v8 w8 ho8 hg8 hob8;have hX8:=hide (ext_grown ((hX.alloc _).trans hX2) hg8 (fun q hq=>(ho.out.1.lt q hq).1))))
    go_roundg (f.length-(k+1))
    case measure=>omega
    case rel =>
     have ho9:OwnEr w8 w.heap.size v8 (acc++[(u22,r,(ja,jn))]):=(ho.out.ext hX2).app (own_appE (M:=[(u22,r,(ja,jn))]) (by simpa [ec,ec1] using ho8)) hg8 hob8 (fun p hp=>by
      obtain rfl:=List.mem_singleton.1 hp
      refine⟨_,r22.out,fun q hq=>List.mem_range.2 ?_⟩
      rcases List.mem_append.1 hq with hq|hq
      ·have:=(ob_ge ho0.out.1 q hq).2;omega
      ·have:=List.mem_range.1 hq;omega)
     exact⟨k+1,acc++[(u22,r,(ja,jn))],by go_num,by omega,ho9,by rw[List.length_append,List.length_singleton];omega,by show _=_;rw[eds,List.map_append];exact hnx.out,hX8.out⟩
  ·have hk':k=f.length:=by omega
   have hge:(f.length:Int)≤k:=by omega
   have hac:=hacc.out
   rw[List.take_of_length_le (by omega)] at hac
   replace hac:=hide hac
   replace hk':=hide hk'
   obtain⟨C,ccap,rfl⟩:=own_form ho.1
   clear hacc hat
   go_wp2_with fail
   go_returns
   exact⟨_,acc,rfl,hac.out,ho,hX⟩
end Go.Proofs.YtajelkkiijdegaaGreat
