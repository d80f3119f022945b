/-
  A helper of ours: no claim of its own. Layer 11 (pack): how many lifetimes a function has, and Spans, by the code.
-/
import Derived.Test.YtajelkkiijdegaaGreatPakO
import Derived.Test.YtajelkkiijdegaaGreatStepR
import Derived.Test.YtajelkkiijdegaaGreatEdgO
import Derived.Test.YtajelkkiijdegaaGreatStepE
set_option linter.unusedVariables false
set_option linter.unusedSimpArgs false
set_option linter.unusedSectionVars false
set_option maxHeartbeats 64000000
set_option maxRecDepth 100000
namespace Go.Proofs.YtajelkkiijdegaaGreat
open Go.RowKit
attribute [-go_sem] sliced
attribute [local go_sem] sliced_eq
attribute [local go_sem] GW.cell GW.frozen In.eq_true In.le_true In.ne In.ne' In.ne_add In.ne_add' In.lt_add Upto.le_true Upto.le_add Upto.lt_add
theorem rep_drop(b e:List Int)(a:Int)(k:Nat)(h:e.length≤b.length):(b++List.replicate (k+1) a).drop e.length=(b++List.replicate k a).drop e.length++[a]:=by
 rw[List.drop_append_of_le_length h,List.drop_append_of_le_length h,List.replicate_succ',List.append_assoc]
theorem change_c(w0 w:World)(bo bm:Nat)(uo um:Value)(a n:Int)(b e:List Int)(hs:LS w0 w bo bm uo um (b.drop e.length) (madeL b e))(hel:e.length≤b.length)(hn:(e.length:Int)-n≤b.length)(hbz:(b.length:Int)+n≤100000)(hb1:b.length≤100000)(hn1: -1000000000≤n)(hn2:n≤1000000000) :
 Calls Tryz.prog 230 #[jm (a,n), .pointer (some ⟨bo,0,none⟩), .pointer (some ⟨bm,0,none⟩)] w fun e' w'=>(∃v,e'= .returned v)∧∃uo' um',LS w0 w' bo bm uo' um' ((b++List.replicate n.toNat a).drop (e++List.replicate (-n).toNat a).length) (madeL (b++List.replicate n.toNat a) (e++List.replicate (-n).toNat a)):=by
 obtain⟨bj,hbj⟩:∃bj,w.heap.size=bj:=⟨_,rfl⟩
 have oj0:Ob (w.alloc (.cells #[.int .i64 a, .int .i64 n] 178)) w.heap.size 178 [.int .i64 a, .int .i64 n]:=Ob.new w 178 [.int .i64 a, .int .i64 n]
 rw[hbj] at oj0
 have hs0:=hide (hs.ext ((Ext.refl w).alloc (.cells #[.int .i64 a, .int .i64 n] 178)))
 have hjo:Hid (bj≠bo):=by have:=hs.oo.lt;show bj≠bo;omega
 have hjm:Hid (bj≠bm):=by have:=hs.om.lt;show bj≠bm;omega
 have c0:=oj0.cell 0 rfl
 have c1:=oj0.cell 1 rfl
 have hl0:=oj0.lt
 obtain⟨wa,hwa⟩:∃wa,wa=w.alloc (.cells #[.int .i64 a, .int .i64 n] 178):=⟨_,rfl⟩
 rw[←hwa] at hs0 c0 c1 hl0 oj0
 replace oj0:=hide oj0
 clear hs
 go_enter Tryz.func230,Tryz.ntmps230
 go_wp2_with fail
 rw[←hwa]
 clear hwa hbj
 go_loopg [6] n.toNat (fun gh i wr=>∃(k:Nat) (uo1:Value),i= .int .i64 k∧k+gh=n.toNat∧LS w0 wr bo bm uo1 um ((b++List.replicate k a).drop e.length) (madeL b e)∧Ob wr bj 178 [.int .i64 a, .int .i64 n])
 case atStart=>exact⟨0,uo,rfl,by omega,by simpa using hs0.out,oj0.out⟩
 case round =>
  clear hs0 oj0 c0 c1 hl0
  obtain⟨k,uo1,rfl,hk,hs1,oj⟩:=hrel
  obtain⟨wo,hwo⟩:∃wo,wo=wr:=⟨_,rfl⟩
  subst hwo
  have c0:=oj.cell 0 rfl
  have c1:=oj.cell 1 rfl
  have hlj:=oj.lt
  have q1:=hs1.oo.cell 0 rfl
  have hlo:=hs1.oo.lt
  haveI:In bj _:=⟨hlj⟩
  haveI:In bo _:=⟨hlo⟩
  have hOl:((b++List.replicate k a).drop e.length).length≤200000:=by
   rw[List.length_drop,List.length_append,List.length_replicate];omega
  by_cases hlt:(k:Int)<n
  ·have hnx:=hide (rep_drop b e a k hel)
   obtain⟨O,hO⟩:∃O,O=(b++List.replicate k a).drop e.length:=⟨_,rfl⟩
   rw[←hO] at hs1 hnx hOl
   clear hO
   obtain⟨A1,c1',rfl,hlc,hlm⟩:=hs1.ho.form
   unfold maxLen at hlm
   replace hs1:=hide hs1
   replace oj:=hide oj
   go_wp2_with (at_builtin;(refine wpl_appO tZ rfl (.tmp 8) (.tmp 11) rfl rfl (hs1.out.ext ((Ext.refl _).alloc _)).ho rfl (src_one Tryz.underlying275 _ (.int .i64 a) _ rfl) (by unfold maxLen;omega) (by omega) (by have:=hs1.out.X.size;simp;omega) ?_;intro v1 w1 ho1 hg1 hb1;have hsx:=hide (hs1.out.ext ((Ext.refl _).alloc (.cells #[.int .i64 a] 3)));have oj1:=hide (hsx.out.boxO hg1 (oj.out.alloc _) (by decide));have oo1:=hsx.out.boxO hg1 hsx.out.oo (by decide);have qo1:=oo1.cell 0 rfl;have qf1:=oo1.free 0;have ql1:=oo1.lt;have hs2:=hide (hsx.out.openApp hg1 (own_appIo ho1));obtain⟨C1,c1,q2, -, -⟩:=ho1.form;subst q2;replace oo1:=hide oo1;haveI:In bo w1:=⟨ql1⟩))
   go_roundg (n.toNat-(k+1))
   case measure=>omega
   case rel=>exact⟨k+1,_,by go_num,by omega,by rw[hnx.out];exact hs2.out,oj1.out.far _ _ hjo.out⟩
  ·have hk':k=n.toNat:=by omega
   have hge:¬(k:Int)<n:=hlt
   rw[hk'] at hs1
   obtain⟨B,hB⟩:∃B,B=b++List.replicate n.toNat a:=⟨_,rfl⟩
   rw[←(madeL_begin b e (List.replicate n.toNat a) hel).1,←hB] at hs1
   have hBl:(B.length:Int)=b.length+n.toNat:=by rw[hB,List.length_append,List.length_replicate];omega
   have hBe:=hide hBl
   replace hk':=hide hk'
   replace hs1:=hide hs1
   replace oj:=hide oj
   replace hB:=hide hB
   clear hBl q1 hOl
   go_wp2_with fail
   go_loopg [17] (-n).toNat (fun gh i wr=>∃(k:Nat) (uo1 um1:Value),i= .int .i64 k∧k+gh=(-n).toNat∧LS w0 wr bo bm uo1 um1 (B.drop (e++List.replicate k a).length) (madeL B (e++List.replicate k a))∧Ob wr bj 178 [.int .i64 a, .int .i64 n])
   case atStart=>exact⟨0,uo1,um,rfl,by omega,by simpa using hs1.out,oj.out⟩
   case round =>
    clear hs1 oj hk' c0 c1 hlj hlo hge hlt
    obtain⟨k,uo1,um1,rfl,hk,hs1,oj⟩:=hrel
    obtain⟨wp,hwp⟩:∃wp,wp=wr:=⟨_,rfl⟩
    subst hwp
    by_cases hlt:(k:Int) < -n
    ·have hBe2:=hBe.out
     have hEl:(e++List.replicate k a).length=e.length+k:=by rw[List.length_append,List.length_replicate]
     have hlt2:(e++List.replicate k a).length<B.length:=by omega
     obtain⟨x0,O,hxO⟩:∃x0 O,B.drop (e++List.replicate k a).length=x0::O:=⟨_,_,List.drop_eq_getElem_cons hlt2⟩
     have hOl:O.length≤200000:=by have:=congrArg List.length hxO;rw[List.length_drop,List.length_cons] at this;omega
     have hMl:(madeL B (e++List.replicate k a)).length≤200000:=by unfold madeL;rw[List.length_zip,List.length_take];omega
     have hnx:Hid (∀(wz:World) (u1 u2:Value) (M1:List Sp),LS w0 wz bo bm u1 u2 O M1→M1=madeL B (e++List.replicate k a)++[(x0,a)]→LS w0 wz bo bm u1 u2 (B.drop (e++List.replicate (k+1) a).length) (madeL B (e++List.replicate (k+1) a))):=fun wz u1 u2 M1 h hM=>by
      obtain⟨e1,e2⟩:=madeL_end B (e++List.replicate k a) x0 a O hxO
      rw[show e++List.replicate (k+1) a=(e++List.replicate k a)++[a] by rw[List.replicate_succ',List.append_assoc],e1,e2,←hM]
      exact h
     rw[hxO] at hs1
     obtain⟨M,hM⟩:∃M,M=madeL B (e++List.replicate k a):=⟨_,rfl⟩
     rw[←hM] at hs1 hMl hnx
     replace hnx:=hide (fun (wz:World) (u1 u2:Value) (h:LS w0 wz bo bm u1 u2 O (M++[(x0,a)]))=>hnx.out wz u1 u2 _ h rfl)
     have hxc:=hs1.ho
     rcases hs1.ho.2 with ⟨-,h0⟩|⟨g,o,ocap,cur,rfl, -, -,hoc,hom, -, -⟩
     ·simp at h0
     have qx:=hide (OwnO.cells hxc rfl 0 (.int .i64 x0) rfl)
     rw[Nat.add_zero] at qx
     rw[List.length_cons] at hoc
     replace hs1:LS w0 _ bo bm (.slice (some ⟨g,o,none⟩) (O.length+1) ocap) um1 (x0::O) M:=hs1
     obtain⟨UM,mcap,rfl⟩:=own_form hs1.hm
     have hoc2:O.length+1≤ocap:=hoc
     unfold maxLen at hom
     obtain⟨mm,hmm⟩:∃mm,mm=M.length:=⟨_,rfl⟩
     have qm:=hide (hs1.om.cell 0 rfl)
     have qo:=hide (hs1.oo.cell 0 rfl)
     have qj:=hide (oj.cell 0 rfl)
     have qj1:=oj.cell 1 rfl
     have hlj:=oj.lt
     have hlo:=hs1.oo.lt
     have hlm2:=hs1.om.lt
     haveI:In bj _:=⟨hlj⟩
     have hpos0:0<O.length+1:=Nat.succ_pos _
     have h1I:(1:Int)≤(O.length:Int)+1:=by omega
     replace hs1:=hide hs1
     replace oj:=hide oj
     clear hxO hM hBe2 hEl hlt2 hxc hmm mm
     go_wp2_with fail
     refine wp_region_list_tail 8 [(.is (.slice UM M.length mcap)),(.is (.slice (some ⟨g,o,none⟩) (O.length+1) ocap)),(.is (.pointer (some ⟨g,o,none⟩))),(.is (.int .i64 x0)),(.is (.pointer (some ⟨bj,0,none⟩))),(.is (.int .i64 a)),(.is (jm (x0,a))),oneJ (x0,a)] (by kernel_rfl) (by kernel_rfl) (by kernel_rfl) (by kernel_rfl) (by kernel_rfl) (by kernel_rfl) (by kernel_rfl) ?_ ?_
     ·refine⟨?_,?_,?_,?_,?_,?_,?_,?_,trivial⟩
      ·intro b w' h hE
       have f2:b.tmps.getD 2 undef= .pointer (some ⟨bm,0,none⟩):=hE 2 (of_decide_eq_true (by kernel_rfl))
       have c0:=cell_later h.ext qm.out
       exact good_load (wanted_none rfl) rfl f2 (by simp[go_sem,c0]) rfl
      ·intro b w' h hE
       have f1:b.tmps.getD 1 undef= .pointer (some ⟨bo,0,none⟩):=hE 1 (of_decide_eq_true (by kernel_rfl))
       have c0:=cell_later h.ext qo.out
       exact good_load (wanted_none rfl) rfl f1 (by simp[go_sem,c0]) rfl
      ·intro b w' h hE
       have f20:b.tmps.getD 20 undef= .slice (some ⟨g,o,none⟩) (O.length+1) ocap:=h.dep 1 _ 20 (by kernel_rfl) rfl rfl
       exact good_index (wanted_none rfl) rfl f20 rfl (by simp[go_sem,hpos0]) rfl
      ·intro b w' h hE
       have f21:b.tmps.getD 21 undef= .pointer (some ⟨g,o,none⟩):=h.dep 2 _ 21 (by kernel_rfl) rfl rfl
       have c0:=cell_later h.ext qx.out
       exact good_load (wanted_none rfl) rfl f21 (by simp[go_sem,c0]) rfl
      ·intro b w' h hE
       have f3:b.tmps.getD 3 undef= .pointer (some ⟨bj,0,none⟩):=hE 3 (of_decide_eq_true (by kernel_rfl))
       exact good_field (wanted_none rfl) rfl f3 (by simp[go_sem]) rfl
      ·intro b w' h hE
       have f23:b.tmps.getD 23 undef= .pointer (some ⟨bj,0,none⟩):=h.dep 4 _ 23 (by kernel_rfl) rfl rfl
       have c0:=cell_later h.ext qj.out
       exact good_load (wanted_none rfl) rfl f23 (by simp[go_sem,c0]) rfl
      ·intro b w' h hE
       have f22:b.tmps.getD 22 undef= .int .i64 x0:=h.dep 3 _ 22 (by kernel_rfl) rfl rfl
       have g22:b.tmps[22]?.getD undef= .int .i64 x0:=by rw[←Array.getD_eq_getD_getElem?];exact f22
       have f24:b.tmps.getD 24 undef= .int .i64 a:=h.dep 5 _ 24 (by kernel_rfl) rfl rfl
       have g24:b.tmps[24]?.getD undef= .int .i64 a:=by rw[←Array.getD_eq_getD_getElem?];exact f24
       exact good_run (wanted_none rfl) (by simp[execOp,Act.eval,go_sem,g22,g24,Sem.run_bind,Sem.run_pure,Result.andThen_ok]) rfl
      ·intro b w' h hE
       have f25:b.tmps.getD 25 undef=jm (x0,a):=h.dep 6 _ 25 (by kernel_rfl) rfl rfl
       have g25:b.tmps[25]?.getD undef=jm (x0,a):=by rw[←Array.getD_eq_getD_getElem?];exact f25
       have:=buildS1 (x0,a) w'
       refine good_grow (w':=w'.alloc (.cells #[.int .i64 ((x0,a):Jp).1, .int .i64 ((x0,a):Jp).2] 37)) (v:= .slice (some ⟨w'.heap.size,0,none⟩) 1 1) (wanted_none rfl) ?_ (oneS_new (x0,a) w') ((Ext.refl _).alloc _)
       simp[execOp,Act.eval,g25,this,Sem.run_bind,Sem.run_pure,Result.andThen_ok]
     ·intro b w2 hX2 hd hz he' hf
      have e19:b.tmps.getD 19 undef= .slice UM M.length mcap:=hf 0 _ 19 (by omega) rfl rfl
      have e20:b.tmps.getD 20 undef= .slice (some ⟨g,o,none⟩) (O.length+1) ocap:=hf 1 _ 20 (by omega) rfl rfl
      have e21:b.tmps.getD 21 undef= .pointer (some ⟨g,o,none⟩):=hf 2 _ 21 (by omega) rfl rfl
      have e22:b.tmps.getD 22 undef= .int .i64 x0:=hf 3 _ 22 (by omega) rfl rfl
      have e23:b.tmps.getD 23 undef= .pointer (some ⟨bj,0,none⟩):=hf 4 _ 23 (by omega) rfl rfl
      have e24:b.tmps.getD 24 undef= .int .i64 a:=hf 5 _ 24 (by omega) rfl rfl
      have e25:b.tmps.getD 25 undef=jm (x0,a):=hf 6 _ 25 (by omega) rfl rfl
      have f26:Jw w2 [] (b.tmps.getD 26 undef) [(x0,a)]:=hf 7 _ 26 (by omega) rfl rfl
      have e:=frame_puts hd hz he'
      obtain⟨X,hXx⟩:∃X:Nat→Value,∀d,b.tmps.getD d undef=X d:=⟨_,fun _=>rfl⟩
      rw[hXx] at e19 e20 e21 e22 e23 e24 e25 f26
      obtain⟨A26,c26,q26⟩:=jone_form f26
      rw[show dstsOf _=[19,20,21,22,23,24,25,26] from rfl] at e
      simp only[List.foldl_cons,List.foldl_nil,hXx,Act.put,List.setIfInBounds_toArray,List.set_cons_succ,List.set_cons_zero] at e
      rw[e19,e20,e21,e22,e23,e24,e25,q26] at e
      rw[q26] at f26
      replace f26:=hide f26
      clear hf he' hz hd hXx e19 e20 e21 e22 e23 e24 e25 q26
      subst e
      have hzw:=hX2.size
      simp only[List.drop_succ_cons,List.drop_zero]
      have hsx:=hide (hs1.out.ext hX2)
      have ojx:=hide (oj.out.ext hX2)
      go_wp2_with (at_builtin;(refine wpl_app tSpn rfl (.tmp 19) (.tmp 26) rfl rfl hsx.out.hm rfl (src_sl Tryz.underlying234 f26.out (ps_one _) (by omega)) (by unfold maxLen;simp only[List.length_singleton];omega) (by simp only[List.length_singleton];omega) (hsx.out.X.size) ?_;intro v8 w8 ho8 hg8 hb8;have oj8:=hide (hsx.out.boxM hg8 ojx.out (by decide));have om8:=hsx.out.boxM hg8 hsx.out.om (by decide);have qm8:=om8.cell 0 rfl;have qf8:=om8.free 0;have ql8:=om8.lt;have hs8:=hsx.out.madeApp hg8 (own_appS (m:=[(x0,a)]) ho8);obtain⟨C8,c8,q8⟩:=own_form ho8;subst q8;replace om8:=hide om8;have oo8:=hsx.out.boxM hg8 hsx.out.oo (by decide);have qo8:=oo8.cell 0 rfl;have qof8:=oo8.free 0;have qol8:=oo8.lt;replace oo8:=hide oo8;have hne1:¬bo=bm:=hs8.ne;have hne2:¬bm=bo:=Ne.symm hs8.ne;replace hs8:=hide hs8;haveI:In bm w8:=⟨ql8⟩;haveI:In bo w8:=⟨qol8⟩))
      have hs9:=hs8.out.openCut (OwnO.tail hs8.out.ho)
      have oj9:=((oj8.out.far ⟨bm,0,none⟩ (.slice C8 (M.length+1) c8) hjm.out).far ⟨bo,0,none⟩ (.slice (cutA (some ⟨g,o,none⟩) 1 ocap 1) O.length (ocap-1)) hjo.out)
      go_roundg ((-n).toNat-(k+1))
      case measure=>omega
      case rel=>exact⟨k+1,_,_,by go_num,by omega,hnx.out _ _ _ hs9,oj9⟩
    ·have hk':k=(-n).toNat:=by omega
     rw[hk'] at hs1
     have qj1:=oj.cell 1 rfl
     replace hk':=hide hk'
     replace hs1:=hide hs1
     go_wp2_with fail
     go_returns
     rw[←hB.out]
     refine⟨⟨_,rfl⟩,uo1,um1,?_⟩
     have hs2:=hs1.out
     rwa [List.length_append,List.length_replicate] at hs2
end Go.Proofs.YtajelkkiijdegaaGreat
namespace Go.Proofs.YtajelkkiijdegaaGreat
open Go.RowKit
attribute [local go_sem] GW.cell GW.frozen In.eq_true In.le_true In.ne In.ne' In.ne_add In.ne_add' In.lt_add Upto.le_true Upto.le_add Upto.lt_add
theorem begL_pre(f:List Jp)(k:Nat):(begL (f.take k)).length≤(begL f).length:=by
 conv=>rhs;rw[←List.take_append_drop k f]
 unfold begL
 rw[List.flatMap_append,List.length_append]
 omega
theorem lifetimes_c(f:List Jp)(hm:mayJ f=true)(h0:0≤leV f)(hc:cntJ f≤4096)(v:Value)(w:World)(h:Jw w [] v f):Calls Tryz.prog 183 #[v] w fun e w'=>∃v',e= .returned v'∧OwnSp w' w.heap.size v' (lifeL f)∧Ext w w':=by
 obtain⟨A,cap,rfl,hl,hmx,hat⟩:=jw_form h
 unfold maxLen at hmx
 replace hat:=hide hat
 have hf8:=mayJ_len hm
 have hpre:=hide (fun k=>pre_ends hm h0 k)
 have hok:=hide (mayJ_iff.1 hm).2.1
 have hcn:(begL f).length≤4096:=by unfold cntJ at hc;omega
 obtain⟨Wb,hWb⟩:∃Wb,Wb=(w.alloc (.cells #[.slice none 0 0] 234)).alloc (.cells #[.slice none 0 0] 275):=⟨_,rfl⟩
 have hs0:LS w Wb (w.heap.size+1) w.heap.size (.slice none 0 0) (.slice none 0 0) [] []:=by
  have a1:=(Ob.new w 234 [.slice none 0 0]).alloc (.cells #[.slice none 0 0] 275)
  have a2:=Ob.new (w.alloc (.cells #[.slice none 0 0] 234)) 275 [.slice none 0 0]
  rw[World.size_alloc] at a2
  rw[hWb]
  exact⟨a2,a1,OwnO.nil _ _ _ _,World.ownsRow_nil _ _ _ _,((Ext.refl w).alloc _).alloc _,by omega,Nat.le_refl _⟩
 obtain⟨bo,hbo⟩:∃bo,w.heap.size+1=bo:=⟨_,rfl⟩
 obtain⟨bm,hbm⟩:∃bm,w.heap.size=bm:=⟨_,rfl⟩
 have hs1:=hs0
 rw[hbo] at hs1
 replace hs0:=hide hs0
 have hs2:LS w Wb bo bm (.slice none 0 0) (.slice none 0 0) [] []:=by rw[←hbm];exact hs1
 replace hs2:=hide hs2
 replace hbo:=hide hbo
 replace hbm:=hide hbm
 replace hWb:=hide hWb
 clear h hs0 hs1 hm h0 hc
 go_enter Tryz.func183,Tryz.ntmps183
 go_wp2_with fail
 rw[←hWb.out,hbo.out,hbm.out]
 clear hWb hbo hbm
 go_loopg [11] f.length (fun gh i wr=>∃(k:Nat) (uo um:Value),i= .int .i64 k∧k+gh=f.length∧LS w wr bo bm uo um ((begL (f.take k)).drop (endL (f.take k)).length) (madeL (begL (f.take k)) (endL (f.take k))))
 case atStart=>exact⟨0,_,_,rfl,by omega,hs2.out⟩
 case round =>
  clear hs2
  obtain⟨k,uo,um,rfl,hk,hs⟩:=hrel
  obtain⟨wo,hwo⟩:∃wo,wo=wr:=⟨_,rfl⟩
  subst hwo
  have hX:=hs.X
  have hzX:=hX.size
  by_cases hlt:k<f.length
  ·obtain⟨⟨a,n⟩,hx⟩:∃x,f[k]? = some x:=⟨_,List.getElem?_eq_getElem hlt⟩
   obtain⟨b,o,rfl, -,hb,c0,c1⟩:=hat.out k _ hx
   have k0:=jcell_later hX c0
   have k1:=jcell_later hX c1
   have hbr:b<_:=block_lt_of_cell k0
   simp only at k0 k1
   have hokx:=hok.out _ (List.mem_of_getElem? hx)
   unfold okJ at hokx
   rw[decide_eq_true_iff] at hokx
   simp only at hokx
   have et:f.take (k+1)=f.take k++[(a,n)]:=by rw[List.take_add_one,hx];rfl
   have p1:=hpre.out k
   have p2:=hpre.out (k+1)
   have p3:=begL_pre f (k+1)
   have hbs:=begL_snoc (f.take k) (a,n)
   have hes:=endL_snoc (f.take k) (a,n)
   rw[←et] at hbs hes
   simp only at hbs hes
   have hbl:=congrArg List.length hbs
   have hel:=congrArg List.length hes
   rw[List.length_append,List.length_replicate] at hbl hel
   have hnx:=hide (And.intro hbs hes)
   have hch:=hide (fun w' (hXw:Ext wo w')=>change_c w w' bo bm uo um a n (begL (f.take k)) (endL (f.take k)) (hs.ext hXw) p1 (by omega) (by omega) (by omega) (by omega) (by omega))
   haveI:In b _:=⟨hbr⟩
   clear c0 c1 hx hokx et hbs hes hbl hel hs p1 p2 p3
   go_wp2_with (go_at_call 230;refine (hch.out _ (by repeat (first|exact Ext.refl _|refine Ext.alloc ?_ _|refine Ext.setCell ?_ (by simp) _))).mono ?_;rintro ee w3 ⟨⟨vv,rfl⟩,uo2,um2,hs3⟩)
   go_roundg (f.length-(k+1))
   case measure=>omega
   case rel=>exact⟨k+1,uo2,um2,by go_num,by omega,by rw[hnx.out.1,hnx.out.2];exact hs3⟩
  ·have hge:(f.length:Int)≤k:=by omega
   rw[List.take_of_length_le (by omega)] at hs
   have p1:=hpre.out f.length
   rw[List.take_of_length_le (Nat.le_refl _)] at p1
   have hdl:((begL f).drop (endL f).length).length=(begL f).length-(endL f).length:=List.length_drop
   obtain⟨C,ccap,rfl, -, -⟩:=hs.ho.form
   have q1:=hs.oo.cell 0 rfl
   have hlo:=hs.oo.lt
   obtain⟨m,hmm⟩:∃m,m=((begL f).drop (endL f).length).length:=⟨_,rfl⟩
   rw[←hmm] at hs q1
   have hch:=hide (fun w' (hXw:Ext wo w')=>change_c w w' bo bm (.slice C m ccap) um 1125899906842624 (-(m:Int)) (begL f) (endL f) (hs.ext hXw) p1 (by omega) (by omega) (by omega) (by omega) (by omega))
   have hdone:=hide (show madeL (begL f++List.replicate (-(m:Int)).toNat 1125899906842624) (endL f++List.replicate (- -(m:Int)).toNat 1125899906842624)=lifeL f from by
    rw[show (-(m:Int)).toNat=0 by omega,show (- -(m:Int)).toNat=(begL f).length-(endL f).length by omega,List.replicate_zero,List.append_nil]
    exact life_done _ _ p1)
   have hml:m≤4096:=by omega
   haveI:In bo _:=⟨hlo⟩
   clear hs p1 hdl hmm
   go_wp2_with (go_at_call 230;refine (hch.out _ (Ext.refl _)).mono ?_;rintro ee w3 ⟨⟨vv,rfl⟩,uo2,um2,hs3⟩;rw[hdone.out] at hs3;have qm:=hs3.om.cell 0 rfl;have hlm:=hs3.om.lt;obtain⟨C3,c3,q3⟩:=own_form hs3.hm;subst q3;replace hs3:=hide hs3;haveI:In bm w3:=⟨hlm⟩)
   go_returns
   exact⟨_,rfl,hs3.out.hm,hs3.out.X⟩
theorem cntJ_pos(f:List Jp):0≤cntJ f:=by unfold cntJ;omega
theorem count_c(f:List Jp)(hm:mayJ f=true)(v:Value)(w:World)(h:Jw w [] v f):Calls Tryz.prog 182 #[v] w fun e w'=>e= .returned (.int .i64 (cntJ f))∧Ext w w':=by
 obtain⟨A,cap,rfl,hl,hmx,hat⟩:=jw_form h
 unfold maxLen at hmx
 replace hat:=hide hat
 have hf8:=mayJ_len hm
 have hok:=hide (mayJ_iff.1 hm).2.1
 have hle:=hide (fun k=>cntJ_le (f:=f.take k) (fun j hj=>by
  have:=(mayJ_iff.1 hm).2.1 j (List.mem_of_mem_take hj)
  unfold okJ at this
  rw[decide_eq_true_iff] at this
  omega))
 clear h hm
 go_enter Tryz.func182,Tryz.ntmps182
 go_wp2_with fail
 go_loopg [3,8] f.length (fun gh s i wr=>∃(k:Nat) (z:Int),i= .int .i64 k∧k+gh=f.length∧s= .int .i64 z∧Hid (z=cntJ (f.take k))∧Ext w wr)
 case atStart=>exact⟨0,0,rfl,by omega,rfl,rfl,Ext.refl w⟩
 case round =>
  obtain⟨k,z,rfl,hk,rfl,hz,hX⟩:=hrel
  by_cases hlt:k<f.length
  ·obtain⟨⟨a,n⟩,hx⟩:∃x,f[k]? = some x:=⟨_,List.getElem?_eq_getElem hlt⟩
   obtain⟨b,o,rfl, -,hb,c0,c1⟩:=hat.out k _ hx
   have k0:=jcell_later hX c0
   have k1:=jcell_later hX c1
   have hbr:b<wr.heap.size:=block_lt_of_cell k0
   simp only at k0 k1
   have hokx:=hok.out _ (List.mem_of_getElem? hx)
   unfold okJ at hokx
   rw[decide_eq_true_iff] at hokx
   simp only at hokx
   have hnx:Hid (z+max n 0=cntJ (f.take (k+1))):=by
    show _=_
    rw[List.take_add_one,hx,Option.toList_some,cntJ_snoc,hz.out]
   have hz0:0≤z:=by rw[hz.out];exact cntJ_pos _
   have hz1:z≤1073741824:=by
    have h1:=hle.out k
    have h2:(f.take k).length≤1024:=by rw[List.length_take];omega
    rw[←hz.out] at h1
    omega
   have hn1:n≤1048576:=hokx.2.2.2.1
   have hn2: -1048576≤n:=hokx.2.2.2.2
   haveI:In b wr:=⟨hbr⟩
   clear c0 c1 hx hokx
   by_cases hn:0≤n
   ·have hmx2:max n 0=n:=by omega
    rw[hmx2] at hnx
    have d1:decide (n<0)=false:=by rw[decide_eq_false_iff_not];omega
    have d2:¬n<0:=by omega
    have hmx3:max 0 n=n:=by omega
    go_wp2_with fail
    go_roundg (f.length-(k+1))
    case measure=>omega
    case rel=>exact⟨k+1,z+n,by go_num,by omega,by first|rfl|simp[hmx2,hmx3],hnx,by repeat (first|assumption|refine Ext.alloc ?_ _)⟩
   ·have hmx2:max n 0=0:=by omega
    rw[hmx2,Int.add_zero] at hnx
    have hmx3:max 0 n=0:=by omega
    have d1:decide (n<0)=true:=by rw[decide_eq_true_iff];omega
    have d2:n<0:=by omega
    have hz2:z+0=z:=by omega
    go_wp2_with fail
    go_roundg (f.length-(k+1))
    case measure=>omega
    case rel=>exact⟨k+1,z,by go_num,by omega,by first|rfl|simp[hmx2,hmx3],hnx,by repeat (first|assumption|refine Ext.alloc ?_ _)⟩
  ·have hge:(f.length:Int)≤k:=by omega
   have hzz:=hz.out
   rw[List.take_of_length_le (by omega)] at hzz
   replace hzz:=hide hzz
   go_wp2_with fail
   go_returns
   exact⟨by rw[hzz.out];rfl,hX⟩
end Go.Proofs.YtajelkkiijdegaaGreat
