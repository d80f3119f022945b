/-
  The whole, T1 and T4: TopTables, the walk.
-/
import Derived.Test.YtajelkkiijdegaaGreatTopC
set_option linter.unusedVariables false
set_option linter.unusedSimpArgs false
set_option linter.unusedSectionVars false
set_option maxHeartbeats 64000000
set_option maxRecDepth 100000
namespace Go.Proofs.YtajelkkiijdegaaGreat
open Go.RowKit
attribute [local go_sem] GW.cell GW.frozen In.eq_true In.le_true In.ne In.ne' In.ne_add In.ne_add' In.lt_add Upto.le_true Upto.le_add Upto.lt_add
namespace TopTab
theorem si_run{l:List PM}(h:∀m∈l,inM m):SI (runP colA (0,[]) l):=by
 have key:∀(n:Nat) (l:List PM),l.length=n→(∀m∈l,inM m)→SI (runP colA (0,[]) l):=by
  intro n
  induction n with
  |zero =>
   intro l hl _
   have:=List.eq_nil_of_length_eq_zero hl
   subst this
   intro e he;cases he
  |succ n ih =>
   intro l hl hm
   obtain⟨a,m,rfl⟩:∃a m,l=a++[m]:=by
    rcases List.eq_nil_or_concat l with rfl|⟨a,m,e⟩
    ·cases hl
    ·exact⟨a,m,by simpa using e⟩
   rw[runP_snoc]
   exact si_stpP (ih a (by simpa using hl) (fun x hx=>hm x (by simp[hx]))) (hm m (by simp))
 exact key _ l rfl h
theorem walk(l:List Vm)(hi:∀p∈l,inM p.2)(u:Value)(w:World)(hl:Mw w [] u l):Calls Tryz.prog 5 #[u] w fun e w'=>e= .returned (.bool true)∧Ext w w':=by
 by_cases hs:l.length≤300
 ·have d1:¬(300:Int)<l.length:=by omega
  obtain⟨LA,lc,rfl,hlc,hlm,hat⟩:=mw_form hl
  unfold maxLen at hlm
  replace hat:=hide hat
  have hrw:=hide hl.2
  have hpl:(pms l).length≤400:=by simp[pms];omega
  have hpm:=hide (show ∀m∈pms l,inM m from fun m hm=>by obtain⟨q,hq,rfl⟩:=List.mem_map.1 hm;exact hi q hq)
  obtain⟨W1,hW1⟩:∃W1,W1=w.alloc (.cells #[.string ⟨#[97]⟩, .int .i64 1] 87):=⟨_,rfl⟩
  have hX1:=hide (show Ext w W1 by rw[hW1];exact (Ext.refl w).alloc _)
  have hN:=hide (pnew_c colA (.slice (some ⟨w.heap.size,0,none⟩) 1 1) W1 (by rw[hW1];exact cols_cw w) mayColA (by decide))
  replace hW1:=hide hW1
  obtain⟨B,hB⟩:∃B,B=W1.heap.size:=⟨_,rfl⟩
  rw[←hB] at hN
  replace hB:=hide hB
  clear hl
  go_enter Tryz.func5,Tryz.ntmps5
  go_wp2_with (first
   |(go_at_call 25;refine (tcols_c _).mono ?_;rintro ee w1 ⟨rfl,rfl⟩;rw[←hW1.out])
   |(go_at_call 7;refine hN.out.mono ?_;rintro ee w2 ⟨p,mb,rfl,hz2,hX2,hp,hmb⟩;replace hz2:=hide hz2;replace hX2:=hide hX2)
   |(go_at_call 26;refine (bagNew_c rowB _).mono ?_;rintro ee w3 ⟨bb,mB,rfl,⟨hb1,hb2,hbB,hb4⟩,hX3⟩;have hz3:=hide (hz2.out.ext hX3);have hX13:=hide (hX2.out.trans hX3);have hbg:=hide hb4;have hml:=hz2.out.map.lt;clear hX3 hb4))
  have hne:mB≠mb:=by omega
  have hbg1:W1.heap.size≤bb:=by have:=hX2.out.size;omega
  have hbg2:W1.heap.size≤mB:=by have:=hX2.out.size;omega
  have hsz3:=hX13.out.size
  clear hN hz2 hX2 hb1 hb2 hml
  go_loopg [6,7] l.length (fun gh fv iv wr=>∃(k:Nat) (FA:Option Addr) (fc:Nat) (mk:Int) (XT:List Ed),iv= .int .i64 k∧k+gh=l.length∧fv= .slice FA ((l.take k).filter fitB).length fc∧Hid (wr.ownsRow B 44 5 (.slice FA ((l.take k).filter fitB).length fc) ((l.take k).filter fitB).length (mc ((l.take k).filter fitB)))∧Hid (PQ colA (pms l) B p mb k wr)∧Hid (TB mk (runP colA (0,[]) ((pms l).take k)) XT)∧Hid (CBk wr (ob (.slice FA ((l.take k).filter fitB).length fc)++wrt p (usl wr p)) bb mB mk XT (k*4096))∧Hid (Ext W1 wr))
  case atStart =>
   exact⟨0,_,0, -1,[],rfl,by omega,rfl,World.ownsRow_lit (base:=B) (e:=44) (size:=5) w3 #[] 0 (by rw[hB.out];exact hsz3) (by decide) rfl,⟨0,[],by omega,by simp,PInv.nil,hz3.out.ext ((Ext.refl w3).alloc _),by simp⟩,TB.nil,(cbk_zero hbg.out _).ext ((Ext.refl w3).alloc _),hX13.out.trans ((Ext.refl w3).alloc _)⟩
  case round =>
   obtain⟨k,FA,fc,mk,XT,rfl,hk,rfl,ho,hPQ,hTB,hCB,hX⟩:=hrel
   clear hz3 hbg hX13
   have hmk:=hTB.out.le.2
   by_cases hkl:k<l.length
   ·have hkI:(k:Int)<l.length:=by omega
    have hkn:(0:Int)≤k:=by omega
    obtain⟨q,hq⟩:∃q,l[k]? = some q:=⟨_,List.getElem?_eq_getElem hkl⟩
    obtain⟨ub,uo,rfl, -,hbl,c0,c1,c2,c3,c4⟩:=hat.out k q hq
    have hpr:=hrw.out q (List.mem_of_getElem? hq)
    have hqi:=hi q (List.mem_of_getElem? hq)
    have hqm:=pms_at hq
    have hft:=hide (fit_take l hq)
    have hrf1:=fun hf=>res_fit (s:=runP colA (0,[]) ((pms l).take k)) (p:=q) hf
    have hrf0:=fun hf=>res_unfit (s:=runP colA (0,[]) ((pms l).take k)) (p:=q) hf
    have hsi:SI (runP colA (0,[]) ((pms l).take k)):=si_run (fun m hm=>hpm.out m (List.mem_of_mem_take hm))
    have hst:=runP_take (sc:=colA) hqm
    obtain⟨pv,⟨pk,pi,pf,pt⟩,pr⟩:=q
    obtain⟨QA,qc,eq⟩:=rw_val hpr
    simp only at eq hqm hqi hst c0 c1 c2 c3 c4 hpr
    subst eq
    generalize hFe:(l.take k).filter fitB=F at *
    have hFl:F.length≤300:=by have h7:=List.length_filter_le fitB (l.take k);rw[hFe,List.length_take] at h7;omega
    have hrv:=hide (fun W' (hY:Ext w W')=>(Sl.ext hpr hY:Rw W' [] (.slice QA pr.length qc) pr))
    have hXw:=hX1.out.trans hX.out
    have hpq:=hide (fun w' (hY:Ext wr w')=>hrv.out w' (hXw.trans hY))
    obtain⟨R,hRe⟩:∃R,R=resP colA (runP colA (0,[]) ((pms l).take k)) ((pk,pi,pf,pt),pr):=⟨_,rfl⟩
    obtain⟨CH,hCHe⟩:∃CH,CH=chQ colA (runP colA (0,[]) ((pms l).take k)) ((pk,pi,pf,pt),pr):=⟨_,rfl⟩
    have htp:=hide (fun W' (h:PQ colA (pms l) B p mb k W') (hr:Rw W' [] (.slice QA pr.length qc) pr) (hb:B≤W'.heap.size)=>pq_past2 h hpl pk pi pf pt pr (.slice QA pr.length qc) hqm hqi hr hb hmb hp R CH hRe hCHe)
    have hstR:Hid (R≠0→runP colA (0,[]) ((pms l).take (k+1))=runP colA (0,[]) ((pms l).take k)):=fun h0=>by rw[hst];unfold stpP;rw[if_neg (by rw[←hRe];exact h0)]
    have hst0:Hid (R=0→runP colA (0,[]) ((pms l).take (k+1))=stp (runP colA (0,[]) ((pms l).take k)) ((pk,pi,pf,pt),pr)∧chkD (runP colA (0,[]) ((pms l).take k)) ((pk,pi,pf,pt),pr)=0∧CH=chg (runP colA (0,[]) ((pms l).take k)) ((pk,pi,pf,pt),pr)):=fun h0=>by
     rw[hRe] at h0
     have h1:=resP_zero h0
     refine⟨?_,h1,?_⟩
     ·rw[hst];unfold stpP stp;rw[if_pos h0,if_pos h1]
     ·rw[hCHe,chQ_V h0]
    have hAm0:Hid (isC (runP colA (0,[]) ((pms l).take k)) ((pk,pi,pf,pt),pr)=true→fdE (chg (runP colA (0,[]) ((pms l).take k)) ((pk,pi,pf,pt),pr)).2.1 (chg (runP colA (0,[]) ((pms l).take k)) ((pk,pi,pf,pt),pr)).2.2.1 (chg (runP colA (0,[]) ((pms l).take k)) ((pk,pi,pf,pt),pr)).2.2.2=0∧Amt (fdR (chg (runP colA (0,[]) ((pms l).take k)) ((pk,pi,pf,pt),pr)).2.1 (chg (runP colA (0,[]) ((pms l).take k)) ((pk,pi,pf,pt),pr)).2.2.1 (chg (runP colA (0,[]) ((pms l).take k)) ((pk,pi,pf,pt),pr)).2.2.2) (fun r u=>chv r u (chg (runP colA (0,[]) ((pms l).take k)) ((pk,pi,pf,pt),pr)))):=fun hc=>Amt.one (chg_ok hTB.out.ok hc)
    have hDi0:Hid (chkD (runP colA (0,[]) ((pms l).take k)) ((pk,pi,pf,pt),pr)=0→∀x∈(chg (runP colA (0,[]) ((pms l).take k)) ((pk,pi,pf,pt),pr)).2.1,inI x.2.1):=fun h0=>(si_stp hsi hqi).2 h0
    have o0:=hide c0
    have o1:=hide c1
    have o2:=hide c2
    have o3:=hide c3
    have o4:=hide c4
    have hubl:ub<w.heap.size:=hbl
    have c0h:=hide (pcell_later hXw c0)
    have c1h:=hide (pcell_later hXw c1)
    have c2h:=hide (pcell_later hXw c2)
    have c3h:=hide (pcell_later hXw c3)
    have c4h:=hide (pcell_later hXw c4)
    have hbr:ub<wr.heap.size:=Nat.lt_of_lt_of_le hbl hXw.size
    have hbw:=hXw.size
    have hbB2:B≤wr.heap.size:=by rw[hB.out];exact hX.out.size
    haveI:In ub wr:=⟨hbr⟩
    replace hRe:=hide hRe
    replace hCHe:=hide hCHe
    replace hst:=hide hst
    obtain⟨S,hS⟩:∃S,S=runP colA (0,[]) ((pms l).take k):=⟨_,rfl⟩
    clear c0 c1 c2 c3 c4 hpr hqi hqm hq hFe hXw hsi hbl
    by_cases h1:pk=1
    ·subst h1
     have hrf:=hide (fun (v:Value) (w':World) (h:Cw w' [] v colA) (h2:Rw w' [] (.slice QA pr.length qc) pr)=>fitsS_c h h2)
     have hfb:fitB ((.slice QA pr.length qc:Value),(((1,pi,pf,pt),pr):PM))=fitsS colA pr:=by unfold fitB;simp
     rw[hfb] at hft hrf1 hrf0
     generalize fitsS colA pr=FT at *
     clear hfb
     cases FT
     ·have hft2:=hide (show (l.take (k+1)).filter fitB=F from by have:=hft.out;simpa using this)
      have hR0:R≠0:=by rw[hRe.out];exact hrf0 rfl
      have r1:(R != 0)=true:=by rw[bne_iff_ne];exact hR0
      clear hrf1 hrf0
      obtain⟨C1,Cr,⟨c01,c02⟩,n1,n2⟩:=CH
      simp only at htp
      go_wp2_with fail
      refine wp_region_list_tail 14 [(.is ((.slice (some ⟨ub,uo,none⟩) l.length lc))),(.is ((.int .i64 k))),(.is ((.pointer (some ⟨ub,uo+k*5,none⟩)))),(.is ((.pointer (some ⟨ub,uo+k*5,none⟩)))),(.is ((.int .i64 1))),(.is ((.bool false))),(.is ((.bool false))),(.st (fun v w=>∃xb,v= .slice (some ⟨xb,0,none⟩) 1 1∧Cw w [] (.slice (some ⟨xb,0,none⟩) 1 1) colA) (fun v w w' ⟨xb,h1,h2⟩ k=>⟨xb,h1,Sl.ext h2 k⟩)),(.is ((.slice (some ⟨ub,uo,none⟩) l.length lc))),(.is ((.int .i64 k))),(.is ((.pointer (some ⟨ub,uo+k*5,none⟩)))),(.is ((.pointer (some ⟨ub,uo+k*5+4,none⟩)))),(.is ((.slice QA pr.length qc))),(.is ((.bool false)))] (by kernel_rfl) (by kernel_rfl) (by kernel_rfl) (by kernel_rfl) (by kernel_rfl) (by kernel_rfl) (by kernel_rfl) ?_ ?_
      ·refine⟨?_,?_,?_,?_,?_,?_,?_,?_,?_,?_,?_,?_,?_,?_,trivial⟩
       ·intro b w' h hE
        have f0:b.tmps.getD 0 undef=(.slice (some ⟨ub,uo,none⟩) l.length lc):=hE 0 (of_decide_eq_true (by kernel_rfl))
        exact good_move (wanted_none rfl) rfl f0
       ·intro b w' h hE
        have f7:b.tmps.getD 7 undef=(.int .i64 k):=hE 7 (of_decide_eq_true (by kernel_rfl))
        exact good_move (wanted_none rfl) rfl f7
       ·intro b w' h hE
        have f38:b.tmps.getD 38 undef=(.slice (some ⟨ub,uo,none⟩) l.length lc):=h.dep 0 _ 38 (by kernel_rfl) rfl rfl
        have f39:b.tmps.getD 39 undef=(.int .i64 k):=h.dep 1 _ 39 (by kernel_rfl) rfl rfl
        exact good_index (wanted_none rfl) rfl f38 f39 (by simp[go_sem,hkI,hkn]) rfl
       ·intro b w' h hE
        have f40:b.tmps.getD 40 undef=(.pointer (some ⟨ub,uo+k*5,none⟩)):=h.dep 2 _ 40 (by kernel_rfl) rfl rfl
        exact good_field (wanted_none rfl) rfl f40 (by simp[go_sem]) rfl
       ·intro b w' h hE
        have f41:b.tmps.getD 41 undef=(.pointer (some ⟨ub,uo+k*5,none⟩)):=h.dep 3 _ 41 (by kernel_rfl) rfl rfl
        have c0:=cell_later h.ext c0h.out
        exact good_load (wanted_none rfl) rfl f41 (by simp[go_sem,c0]) rfl
       ·intro b w' h hE
        have f42:b.tmps.getD 42 undef=(.int .i64 1):=h.dep 4 _ 42 (by kernel_rfl) rfl rfl
        exact good_bin (wanted_none rfl) rfl f42 rfl (by rfl) (by simp[go_sem]) rfl
       ·intro b w' h hE
        have f43:b.tmps.getD 43 undef=(.bool false):=h.dep 5 _ 43 (by kernel_rfl) rfl rfl
        exact good_move (wanted_none rfl) rfl f43
       ·intro b w' h hE
        have f44:b.tmps.getD 44 undef=(.bool false):=h.dep 6 _ 44 (by kernel_rfl) rfl rfl
        refine good_call (wanted_yes rfl rfl f44) rfl (enters Tryz.func25 (by kernel_rfl) rfl) ?_
        rw[show (#[]:Array Operand).map b.eval= #[] by simp]
        exact (tcols_c w').mono fun e w1 ⟨he,hw⟩=>⟨_,he,⟨_,rfl,by rw[hw];exact cols_cw w'⟩,by rw[hw];exact (Ext.refl _).alloc _⟩
       ·intro b w' h hE
        have f44:b.tmps.getD 44 undef=(.bool false):=h.dep 6 _ 44 (by kernel_rfl) rfl rfl
        have f0:b.tmps.getD 0 undef=(.slice (some ⟨ub,uo,none⟩) l.length lc):=hE 0 (of_decide_eq_true (by kernel_rfl))
        exact good_move (wanted_yes rfl rfl f44) rfl f0
       ·intro b w' h hE
        have f44:b.tmps.getD 44 undef=(.bool false):=h.dep 6 _ 44 (by kernel_rfl) rfl rfl
        have f7:b.tmps.getD 7 undef=(.int .i64 k):=hE 7 (of_decide_eq_true (by kernel_rfl))
        exact good_move (wanted_yes rfl rfl f44) rfl f7
       ·intro b w' h hE
        have f44:b.tmps.getD 44 undef=(.bool false):=h.dep 6 _ 44 (by kernel_rfl) rfl rfl
        have f46:b.tmps.getD 46 undef=(.slice (some ⟨ub,uo,none⟩) l.length lc):=h.dep 8 _ 46 (by kernel_rfl) rfl rfl
        have f47:b.tmps.getD 47 undef=(.int .i64 k):=h.dep 9 _ 47 (by kernel_rfl) rfl rfl
        exact good_index (wanted_yes rfl rfl f44) rfl f46 f47 (by simp[go_sem,hkI,hkn]) rfl
       ·intro b w' h hE
        have f44:b.tmps.getD 44 undef=(.bool false):=h.dep 6 _ 44 (by kernel_rfl) rfl rfl
        have f48:b.tmps.getD 48 undef=(.pointer (some ⟨ub,uo+k*5,none⟩)):=h.dep 10 _ 48 (by kernel_rfl) rfl rfl
        exact good_field (wanted_yes rfl rfl f44) rfl f48 (by simp[go_sem]) rfl
       ·intro b w' h hE
        have f44:b.tmps.getD 44 undef=(.bool false):=h.dep 6 _ 44 (by kernel_rfl) rfl rfl
        have f49:b.tmps.getD 49 undef=(.pointer (some ⟨ub,uo+k*5+4,none⟩)):=h.dep 11 _ 49 (by kernel_rfl) rfl rfl
        have c0:=cell_later h.ext c4h.out
        exact good_load (wanted_yes rfl rfl f44) rfl f49 (by simp[go_sem,c0]) rfl
       ·intro b w' h hE
        have f44:b.tmps.getD 44 undef=(.bool false):=h.dep 6 _ 44 (by kernel_rfl) rfl rfl
        have f45:∃xb,(b.tmps.getD 45 undef)= .slice (some ⟨xb,0,none⟩) 1 1∧Cw w' [] (.slice (some ⟨xb,0,none⟩) 1 1) colA:=h.dep 7 _ 45 (by kernel_rfl) rfl rfl
        have f50:b.tmps.getD 50 undef=(.slice QA pr.length qc):=h.dep 12 _ 50 (by kernel_rfl) rfl rfl
        have g50:b.tmps[50]?.getD undef=(.slice QA pr.length qc):=by rw[←Array.getD_eq_getD_getElem?];exact f50
        obtain⟨xb,ex,hxw⟩:=f45;have g45:b.tmps[45]?.getD undef= .slice (some ⟨xb,0,none⟩) 1 1:=(by rw[←Array.getD_eq_getD_getElem?];exact ex);refine good_call (wanted_yes rfl rfl f44) rfl (enters Tryz.func27 (by kernel_rfl) rfl) ?_;rw[show (#[.tmp 45, .tmp 50]:Array Operand).map b.eval= #[.slice (some ⟨xb,0,none⟩) 1 1, .slice QA pr.length qc] by simp[Act.eval,g45,g50]];exact (hrf.out _ _ hxw (hpq.out w' h.ext)).mono fun e w1 ⟨he,hx⟩=>⟨_,he,rfl,hx⟩
      ·intro b w2 hX2 hd hz he' hf
       have e38:b.tmps.getD 38 undef=(.slice (some ⟨ub,uo,none⟩) l.length lc):=hf 0 _ 38 (by omega) rfl rfl
       have e39:b.tmps.getD 39 undef=(.int .i64 k):=hf 1 _ 39 (by omega) rfl rfl
       have e40:b.tmps.getD 40 undef=(.pointer (some ⟨ub,uo+k*5,none⟩)):=hf 2 _ 40 (by omega) rfl rfl
       have e41:b.tmps.getD 41 undef=(.pointer (some ⟨ub,uo+k*5,none⟩)):=hf 3 _ 41 (by omega) rfl rfl
       have e42:b.tmps.getD 42 undef=(.int .i64 1):=hf 4 _ 42 (by omega) rfl rfl
       have e43:b.tmps.getD 43 undef=(.bool false):=hf 5 _ 43 (by omega) rfl rfl
       have e44:b.tmps.getD 44 undef=(.bool false):=hf 6 _ 44 (by omega) rfl rfl
       have f45:∃xb,(b.tmps.getD 45 undef)= .slice (some ⟨xb,0,none⟩) 1 1∧Cw w2 [] (.slice (some ⟨xb,0,none⟩) 1 1) colA:=hf 7 _ 45 (by omega) rfl rfl
       have e46:b.tmps.getD 46 undef=(.slice (some ⟨ub,uo,none⟩) l.length lc):=hf 8 _ 46 (by omega) rfl rfl
       have e47:b.tmps.getD 47 undef=(.int .i64 k):=hf 9 _ 47 (by omega) rfl rfl
       have e48:b.tmps.getD 48 undef=(.pointer (some ⟨ub,uo+k*5,none⟩)):=hf 10 _ 48 (by omega) rfl rfl
       have e49:b.tmps.getD 49 undef=(.pointer (some ⟨ub,uo+k*5+4,none⟩)):=hf 11 _ 49 (by omega) rfl rfl
       have e50:b.tmps.getD 50 undef=(.slice QA pr.length qc):=hf 12 _ 50 (by omega) rfl rfl
       have e51:b.tmps.getD 51 undef=(.bool false):=hf 13 _ 51 (by omega) rfl rfl
       have e:=frame_puts hd hz he'
       obtain⟨X,hXx⟩:∃X:Nat→Value,∀d,b.tmps.getD d undef=X d:=⟨_,fun _=>rfl⟩
       rw[hXx] at e38 e39 e40 e41 e42 e43 e44 e46 e47 e48 e49 e50 e51 f45
       obtain⟨xb,q45, -⟩:=f45
       rw[show dstsOf _=[38,39,40,41,42,43,44,45,46,47,48,49,50,51] from rfl] at e
       simp only[List.foldl_cons,List.foldl_nil,hXx,Act.put,List.setIfInBounds_toArray,List.set_cons_succ,List.set_cons_zero] at e
       rw[e38,e39,e40,e41,e42,e43,e44,e46,e47,e48,e49,e50,e51,q45] at e
       clear hf he' hz hd hXx e38 e39 e40 e41 e42 e43 e44 e46 e47 e48 e49 e50 e51 q45
       subst e
       have hzw:=hX2.size
       simp only[List.drop_succ_cons,List.drop_zero]
       have z0:=pcell_later hX2 c0h.out
       have z1:=pcell_later hX2 c1h.out
       have z2:=pcell_later hX2 c2h.out
       have z3:=pcell_later hX2 c3h.out
       have z4:=pcell_later hX2 c4h.out
       haveI:In ub w2:=⟨Nat.lt_of_lt_of_le hbr hX2.size⟩
       have hX2h:=hide hX2
       have hzs:=hX2.size
       clear hX2
       have hPQa:=hide (hPQ.out.ext hX2h.out)
       have hCBa:Hid (CBk w2 (ob (.slice FA F.length fc)++wrt p (usl w2 p)) bb mB mk XT (k*4096)):=by show CBk _ _ _ _ _ _ _;rw[usl_same (p:=p) (hX2h.out.block p hPQ.out.lt)];exact hCB.out.ext hX2h.out
       have hoa:=hide (own_ext ho.out hX2h.out)
       have hXa:=hide (hX.out.trans hX2h.out)
       go_wp2_with (go_at_call 10;refine (htp.out _ hPQa.out (hrv.out _ (hX1.out.trans hXa.out)) (by rw[hB.out];exact hXa.out.size)).mono ?_;rintro ee w5 ⟨CA,cc,rfl,hr5,hP5,hK5,hB5⟩;have hC5:=hide (cbk_pq hCBa.out hK5 hPQa.out hne);have ho5:=hide (own_kq hoa.out hK5 (by decide) (by decide));have hX5:=hide (show Ext W1 w5 from Below.trans hXa.out (by have h9:=hB5;rw[hB.out] at h9;exact h9));have x0:=pcell_later (hX1.out.trans hX5.out) o0.out;have x1:=pcell_later (hX1.out.trans hX5.out) o1.out;have x2:=pcell_later (hX1.out.trans hX5.out) o2.out;have x3:=pcell_later (hX1.out.trans hX5.out) o3.out;have x4:=pcell_later (hX1.out.trans hX5.out) o4.out;haveI:In ub w5:=⟨Nat.lt_of_lt_of_le hubl (hX1.out.trans hX5.out).size⟩;replace hr5:=hide hr5;replace hP5:=hide hP5;clear hK5 hB5)
       go_roundg (l.length-(k+1))
       case measure=>omega
       case rel=>exact⟨k+1,FA,fc,mk,XT,by go_num,by omega,by rw[hft2.out],(by show World.ownsRow _ _ _ _ _ _ _;rw[hft2.out];exact own_ext ho5.out ((Ext.refl w5).alloc (.cells #[.int .i64 C1, .slice CA Cr.length cc, .int .i64 c01, .int .i64 c02, .int .i64 n1, .int .i64 n2] 39))),hP5.out.ext ((Ext.refl w5).alloc (.cells #[.int .i64 C1, .slice CA Cr.length cc, .int .i64 c01, .int .i64 c02, .int .i64 n1, .int .i64 n2] 39)),(by show TB _ _ _;rw[hstR.out hR0];exact hTB.out),(by rw[hft2.out];exact CBk.le ((by have h9:=hC5.out.ext ((Ext.refl w5).alloc (.cells #[.int .i64 C1, .slice CA Cr.length cc, .int .i64 c01, .int .i64 c02, .int .i64 n1, .int .i64 n2] 39));rw[←usl_same (p:=p) (((Ext.refl w5).alloc (.cells #[.int .i64 C1, .slice CA Cr.length cc, .int .i64 c01, .int .i64 c02, .int .i64 n1, .int .i64 n2] 39)).block p hP5.out.lt)] at h9;exact h9)) (by omega)),hX5.out.trans ((Ext.refl w5).alloc (.cells #[.int .i64 C1, .slice CA Cr.length cc, .int .i64 c01, .int .i64 c02, .int .i64 n1, .int .i64 n2] 39))⟩
     ·have hft2:=hide (show (l.take (k+1)).filter fitB=F++[((.slice QA pr.length qc:Value),(((1,pi,pf,pt),pr):PM))] from by have:=hft.out;simpa using this)
      clear hrf1 hrf0
      obtain⟨C1,Cr,⟨c01,c02⟩,n1,n2⟩:=CH
      simp only at htp
      replace hCHe:((C1,Cr,(c01,c02),n1,n2):Ch)=_:=hCHe.out
      go_wp2_with fail
      refine wp_region_list_tail 14 [(.is ((.slice (some ⟨ub,uo,none⟩) l.length lc))),(.is ((.int .i64 k))),(.is ((.pointer (some ⟨ub,uo+k*5,none⟩)))),(.is ((.pointer (some ⟨ub,uo+k*5,none⟩)))),(.is ((.int .i64 1))),(.is ((.bool false))),(.is ((.bool false))),(.st (fun v w=>∃xb,v= .slice (some ⟨xb,0,none⟩) 1 1∧Cw w [] (.slice (some ⟨xb,0,none⟩) 1 1) colA) (fun v w w' ⟨xb,h1,h2⟩ k=>⟨xb,h1,Sl.ext h2 k⟩)),(.is ((.slice (some ⟨ub,uo,none⟩) l.length lc))),(.is ((.int .i64 k))),(.is ((.pointer (some ⟨ub,uo+k*5,none⟩)))),(.is ((.pointer (some ⟨ub,uo+k*5+4,none⟩)))),(.is ((.slice QA pr.length qc))),(.is ((.bool true)))] (by kernel_rfl) (by kernel_rfl) (by kernel_rfl) (by kernel_rfl) (by kernel_rfl) (by kernel_rfl) (by kernel_rfl) ?_ ?_
      ·refine⟨?_,?_,?_,?_,?_,?_,?_,?_,?_,?_,?_,?_,?_,?_,trivial⟩
       ·intro b w' h hE
        have f0:b.tmps.getD 0 undef=(.slice (some ⟨ub,uo,none⟩) l.length lc):=hE 0 (of_decide_eq_true (by kernel_rfl))
        exact good_move (wanted_none rfl) rfl f0
       ·intro b w' h hE
        have f7:b.tmps.getD 7 undef=(.int .i64 k):=hE 7 (of_decide_eq_true (by kernel_rfl))
        exact good_move (wanted_none rfl) rfl f7
       ·intro b w' h hE
        have f38:b.tmps.getD 38 undef=(.slice (some ⟨ub,uo,none⟩) l.length lc):=h.dep 0 _ 38 (by kernel_rfl) rfl rfl
        have f39:b.tmps.getD 39 undef=(.int .i64 k):=h.dep 1 _ 39 (by kernel_rfl) rfl rfl
        exact good_index (wanted_none rfl) rfl f38 f39 (by simp[go_sem,hkI,hkn]) rfl
       ·intro b w' h hE
        have f40:b.tmps.getD 40 undef=(.pointer (some ⟨ub,uo+k*5,none⟩)):=h.dep 2 _ 40 (by kernel_rfl) rfl rfl
        exact good_field (wanted_none rfl) rfl f40 (by simp[go_sem]) rfl
       ·intro b w' h hE
        have f41:b.tmps.getD 41 undef=(.pointer (some ⟨ub,uo+k*5,none⟩)):=h.dep 3 _ 41 (by kernel_rfl) rfl rfl
        have c0:=cell_later h.ext c0h.out
        exact good_load (wanted_none rfl) rfl f41 (by simp[go_sem,c0]) rfl
       ·intro b w' h hE
        have f42:b.tmps.getD 42 undef=(.int .i64 1):=h.dep 4 _ 42 (by kernel_rfl) rfl rfl
        exact good_bin (wanted_none rfl) rfl f42 rfl (by rfl) (by simp[go_sem]) rfl
       ·intro b w' h hE
        have f43:b.tmps.getD 43 undef=(.bool false):=h.dep 5 _ 43 (by kernel_rfl) rfl rfl
        exact good_move (wanted_none rfl) rfl f43
       ·intro b w' h hE
        have f44:b.tmps.getD 44 undef=(.bool false):=h.dep 6 _ 44 (by kernel_rfl) rfl rfl
        refine good_call (wanted_yes rfl rfl f44) rfl (enters Tryz.func25 (by kernel_rfl) rfl) ?_
        rw[show (#[]:Array Operand).map b.eval= #[] by simp]
        exact (tcols_c w').mono fun e w1 ⟨he,hw⟩=>⟨_,he,⟨_,rfl,by rw[hw];exact cols_cw w'⟩,by rw[hw];exact (Ext.refl _).alloc _⟩
       ·intro b w' h hE
        have f44:b.tmps.getD 44 undef=(.bool false):=h.dep 6 _ 44 (by kernel_rfl) rfl rfl
        have f0:b.tmps.getD 0 undef=(.slice (some ⟨ub,uo,none⟩) l.length lc):=hE 0 (of_decide_eq_true (by kernel_rfl))
        exact good_move (wanted_yes rfl rfl f44) rfl f0
       ·intro b w' h hE
        have f44:b.tmps.getD 44 undef=(.bool false):=h.dep 6 _ 44 (by kernel_rfl) rfl rfl
        have f7:b.tmps.getD 7 undef=(.int .i64 k):=hE 7 (of_decide_eq_true (by kernel_rfl))
        exact good_move (wanted_yes rfl rfl f44) rfl f7
       ·intro b w' h hE
        have f44:b.tmps.getD 44 undef=(.bool false):=h.dep 6 _ 44 (by kernel_rfl) rfl rfl
        have f46:b.tmps.getD 46 undef=(.slice (some ⟨ub,uo,none⟩) l.length lc):=h.dep 8 _ 46 (by kernel_rfl) rfl rfl
        have f47:b.tmps.getD 47 undef=(.int .i64 k):=h.dep 9 _ 47 (by kernel_rfl) rfl rfl
        exact good_index (wanted_yes rfl rfl f44) rfl f46 f47 (by simp[go_sem,hkI,hkn]) rfl
       ·intro b w' h hE
        have f44:b.tmps.getD 44 undef=(.bool false):=h.dep 6 _ 44 (by kernel_rfl) rfl rfl
        have f48:b.tmps.getD 48 undef=(.pointer (some ⟨ub,uo+k*5,none⟩)):=h.dep 10 _ 48 (by kernel_rfl) rfl rfl
        exact good_field (wanted_yes rfl rfl f44) rfl f48 (by simp[go_sem]) rfl
       ·intro b w' h hE
        have f44:b.tmps.getD 44 undef=(.bool false):=h.dep 6 _ 44 (by kernel_rfl) rfl rfl
        have f49:b.tmps.getD 49 undef=(.pointer (some ⟨ub,uo+k*5+4,none⟩)):=h.dep 11 _ 49 (by kernel_rfl) rfl rfl
        have c0:=cell_later h.ext c4h.out
        exact good_load (wanted_yes rfl rfl f44) rfl f49 (by simp[go_sem,c0]) rfl
       ·intro b w' h hE
        have f44:b.tmps.getD 44 undef=(.bool false):=h.dep 6 _ 44 (by kernel_rfl) rfl rfl
        have f45:∃xb,(b.tmps.getD 45 undef)= .slice (some ⟨xb,0,none⟩) 1 1∧Cw w' [] (.slice (some ⟨xb,0,none⟩) 1 1) colA:=h.dep 7 _ 45 (by kernel_rfl) rfl rfl
        have f50:b.tmps.getD 50 undef=(.slice QA pr.length qc):=h.dep 12 _ 50 (by kernel_rfl) rfl rfl
        have g50:b.tmps[50]?.getD undef=(.slice QA pr.length qc):=by rw[←Array.getD_eq_getD_getElem?];exact f50
        obtain⟨xb,ex,hxw⟩:=f45;have g45:b.tmps[45]?.getD undef= .slice (some ⟨xb,0,none⟩) 1 1:=(by rw[←Array.getD_eq_getD_getElem?];exact ex);refine good_call (wanted_yes rfl rfl f44) rfl (enters Tryz.func27 (by kernel_rfl) rfl) ?_;rw[show (#[.tmp 45, .tmp 50]:Array Operand).map b.eval= #[.slice (some ⟨xb,0,none⟩) 1 1, .slice QA pr.length qc] by simp[Act.eval,g45,g50]];exact (hrf.out _ _ hxw (hpq.out w' h.ext)).mono fun e w1 ⟨he,hx⟩=>⟨_,he,rfl,hx⟩
      ·intro b w2 hX2 hd hz he' hf
       have e38:b.tmps.getD 38 undef=(.slice (some ⟨ub,uo,none⟩) l.length lc):=hf 0 _ 38 (by omega) rfl rfl
       have e39:b.tmps.getD 39 undef=(.int .i64 k):=hf 1 _ 39 (by omega) rfl rfl
       have e40:b.tmps.getD 40 undef=(.pointer (some ⟨ub,uo+k*5,none⟩)):=hf 2 _ 40 (by omega) rfl rfl
       have e41:b.tmps.getD 41 undef=(.pointer (some ⟨ub,uo+k*5,none⟩)):=hf 3 _ 41 (by omega) rfl rfl
       have e42:b.tmps.getD 42 undef=(.int .i64 1):=hf 4 _ 42 (by omega) rfl rfl
       have e43:b.tmps.getD 43 undef=(.bool false):=hf 5 _ 43 (by omega) rfl rfl
       have e44:b.tmps.getD 44 undef=(.bool false):=hf 6 _ 44 (by omega) rfl rfl
       have f45:∃xb,(b.tmps.getD 45 undef)= .slice (some ⟨xb,0,none⟩) 1 1∧Cw w2 [] (.slice (some ⟨xb,0,none⟩) 1 1) colA:=hf 7 _ 45 (by omega) rfl rfl
       have e46:b.tmps.getD 46 undef=(.slice (some ⟨ub,uo,none⟩) l.length lc):=hf 8 _ 46 (by omega) rfl rfl
       have e47:b.tmps.getD 47 undef=(.int .i64 k):=hf 9 _ 47 (by omega) rfl rfl
       have e48:b.tmps.getD 48 undef=(.pointer (some ⟨ub,uo+k*5,none⟩)):=hf 10 _ 48 (by omega) rfl rfl
       have e49:b.tmps.getD 49 undef=(.pointer (some ⟨ub,uo+k*5+4,none⟩)):=hf 11 _ 49 (by omega) rfl rfl
       have e50:b.tmps.getD 50 undef=(.slice QA pr.length qc):=hf 12 _ 50 (by omega) rfl rfl
       have e51:b.tmps.getD 51 undef=(.bool true):=hf 13 _ 51 (by omega) rfl rfl
       have e:=frame_puts hd hz he'
       obtain⟨X,hXx⟩:∃X:Nat→Value,∀d,b.tmps.getD d undef=X d:=⟨_,fun _=>rfl⟩
       rw[hXx] at e38 e39 e40 e41 e42 e43 e44 e46 e47 e48 e49 e50 e51 f45
       obtain⟨xb,q45, -⟩:=f45
       rw[show dstsOf _=[38,39,40,41,42,43,44,45,46,47,48,49,50,51] from rfl] at e
       simp only[List.foldl_cons,List.foldl_nil,hXx,Act.put,List.setIfInBounds_toArray,List.set_cons_succ,List.set_cons_zero] at e
       rw[e38,e39,e40,e41,e42,e43,e44,e46,e47,e48,e49,e50,e51,q45] at e
       clear hf he' hz hd hXx e38 e39 e40 e41 e42 e43 e44 e46 e47 e48 e49 e50 e51 q45
       subst e
       have hzw:=hX2.size
       simp only[List.drop_succ_cons,List.drop_zero]
       have z0:=pcell_later hX2 c0h.out
       have z1:=pcell_later hX2 c1h.out
       have z2:=pcell_later hX2 c2h.out
       have z3:=pcell_later hX2 c3h.out
       have z4:=pcell_later hX2 c4h.out
       haveI:In ub w2:=⟨Nat.lt_of_lt_of_le hbr hX2.size⟩
       have hX2h:=hide hX2
       have hzs:=hX2.size
       clear hX2
       by_cases hR0:R=0
       ·subst hR0
        obtain⟨hs1,hs2,hs3⟩:=hst0.out rfl
        have h3:¬(1:Int)=3:=by decide
        have hisC:=isC_iff.2 ⟨hs2,h3⟩
        have hAm:=hAm0.out hisC
        have hdi:=hide (hDi0.out hs2)
        obtain⟨hE0,hA⟩:=hAm
        have hadd:=hTB.out.add hisC hA
        rw[←hs3] at hE0 hadd
        simp only at hE0 hadd
        have hed:=hide (fun W' u (hu:Rw W' [] u Cr)=>foldEdges_c C1 c01 c02 n1 n2 Cr u W' hu)
        rw[hE0] at hed
        have hDi:Hid (edsIn (fdR Cr (c01,c02) (n1,n2))):=fd_in (by have h9:=hdi.out;rw[←hs3] at h9;exact h9)
        generalize fdR Cr (c01,c02) (n1,n2)=D at *
        clear hA hE0 hdi
        rcases hadd with ⟨hba,htb⟩|hba
        ·rw[←hs1] at htb
         replace htb:=hide htb
         go_wp2_with (first|(at_builtin;refine wpl_app tMsg rfl (.tmp 53) (.tmp 58) rfl rfl (own_ext ho.out (hX2h.out.alloc _)) rfl (src_msg _ _ _ _ _ _ _ rfl (Ob.new _ _ [_,_,_,_,_])) (by unfold maxLen;omega) (by omega) (by simp only[World.size_alloc];omega) ?_;intro v1 w1 ho1 hg1 hob1;obtain⟨A1,cp1,e1⟩:=own_form ho1;subst e1;replace hg1:World.grownBy _ w1 (Value.slice FA F.length fc).ownBlock:=hg1;have hFg:=fr_grown hg1;have hoA:=own_ext ho.out (hX2h.out.alloc (.cells #[.int .i64 1, .int .i64 pi, .int .i64 pf, .int .i64 pt, .slice QA pr.length qc] 44));have hPA:=pq_app (hPQ.out.ext (hX2h.out.alloc (.cells #[.int .i64 1, .int .i64 pi, .int .i64 pf, .int .i64 pt, .slice QA pr.length qc] 44))) hoA hFg;have hus:=usl_same (p:=p) ((hX2h.out.alloc (.cells #[.int .i64 1, .int .i64 pi, .int .i64 pf, .int .i64 pt, .slice QA pr.length qc] 44)).block p hPQ.out.lt);have hCA:=cbk_app (hCB.out.ext (hX2h.out.alloc (.cells #[.int .i64 1, .int .i64 pi, .int .i64 pf, .int .i64 pt, .slice QA pr.length qc] 44))) hoA hFg hob1;(rw [←hus,←hPA.2] at hCA);have hPa:=hide hPA.1;have hCa:=hide hCA;clear hus hCA;clear hPA;clear hoA hob1;have hX9:=hide (ext_fr ((hX.out.trans hX2h.out).alloc _) (fr_grown hg1) (fun b hb=>by have h9:=(ob_ge ho.out b hb).1;have h8:=hB.out;omega));clear hg1 hFg;have h9:=own_one (q:=((.slice QA pr.length qc:Value),(((1,pi,pf,pt),pr):PM))) ho1;(rw [List.length_append,List.length_singleton] at h9);replace h9:=hide h9;clear ho1;have y0:=pcell_later (hX1.out.trans hX9.out) o0.out;have y1:=pcell_later (hX1.out.trans hX9.out) o1.out;have y2:=pcell_later (hX1.out.trans hX9.out) o2.out;have y3:=pcell_later (hX1.out.trans hX9.out) o3.out;have y4:=pcell_later (hX1.out.trans hX9.out) o4.out;haveI:In ub w1:=⟨Nat.lt_of_lt_of_le hubl (hX1.out.trans hX9.out).size⟩)|(go_at_call 10;refine (htp.out _ hPa.out (hrv.out _ (hX1.out.trans hX9.out)) (by rw[hB.out];exact hX9.out.size)).mono ?_;rintro ee w5 ⟨CA,cc,rfl,hr5,hP5,hK5,hB5⟩;have hC5:=hide (cbk_pq hCa.out hK5 hPa.out hne);have ho5:=hide (own_kq h9.out hK5 (by decide) (by decide));have hX5:=hide (show Ext W1 w5 from Below.trans hX9.out (by have h9:=hB5;rw[hB.out] at h9;exact h9));have x0:=pcell_later (hX1.out.trans hX5.out) o0.out;have x1:=pcell_later (hX1.out.trans hX5.out) o1.out;have x2:=pcell_later (hX1.out.trans hX5.out) o2.out;have x3:=pcell_later (hX1.out.trans hX5.out) o3.out;have x4:=pcell_later (hX1.out.trans hX5.out) o4.out;haveI:In ub w5:=⟨Nat.lt_of_lt_of_le hubl (hX1.out.trans hX5.out).size⟩;replace hr5:=hide hr5;replace hP5:=hide hP5;clear hK5 hB5)|(go_at_call 29;refine (hed.out _ (.slice CA Cr.length cc) (Sl.ext hr5.out ((Ext.refl w5).alloc (.cells #[.int .i64 C1, .slice CA Cr.length cc, .int .i64 c01, .int .i64 c02, .int .i64 n1, .int .i64 n2] 39)))).mono ?_;rintro ee w7 ⟨v7,M7,rfl,hM7,ho7,hX7⟩;obtain⟨A7,c7,q7⟩:=own_form ho7.1;subst q7;have hX57:=hide (((Ext.refl w5).alloc (.cells #[.int .i64 C1, .slice CA Cr.length cc, .int .i64 c01, .int .i64 c02, .int .i64 n1, .int .i64 n2] 39)).trans hX7);replace hM7:=hide hM7;replace ho7:=hide ho7;clear hX7)|(go_at_call 30;refine (cAddK (ob (.slice A1 (F.length+1) cp1)++wrt p (usl w5 p)) M7 bb mB (k*4096) mk XT _ w7 (hC5.out.ext hX57.out) ho7.out.ew (by rw[hM7.out];exact hDi.out) hbB (by omega) (fun x hx=>by rcases List.mem_append.1 hx with hx|hx;(obtain ⟨vs,o⟩:=own_blk ho5.out x hx;exact⟨_,vs,o.ext hX57.out,by decide⟩);(obtain ⟨T9,vs,o,n9⟩:=pq_wrt hP5.out x hx;exact⟨T9,vs,o.ext hX57.out,n9⟩))).mono ?_;rintro ee w6 ⟨ef,hCB6,hF6⟩;rw[hM7.out] at ef hCB6;rw[hba] at ef;subst ef;have hbm6:=(CBk.lt (hC5.out.ext hX57.out));have hpq6:=pq_bag (hP5.out.ext hX57.out) hbm6.1.choose_spec hbm6.2 hne hF6;have ho6:=hide (own_stay (own_ext ho5.out hX57.out) hF6 (nt_bag hbm6.1.choose_spec hbm6.2 (by decide)));have hX6:=hide (ext_fr (hX5.out.trans hX57.out) hF6 (by intro b hb;simp only[List.mem_cons,List.not_mem_nil,or_false] at hb;rcases hb with rfl|rfl;exact hbg1;exact hbg2));(rw [←usl_same (p:=p) (hX57.out.block p hP5.out.lt),←hpq6.2] at hCB6);replace hCB6:=hide hCB6;have hP6:=hide hpq6.1;clear hpq6 hbm6;replace hF6:=hide hF6))
         go_roundg (l.length-(k+1))
         case measure=>omega
         case rel=>exact⟨k+1,A1,cp1,mk,aX mk XT D,by go_num,by omega,by rw[hft2.out,List.length_append,List.length_singleton],(by show World.ownsRow _ _ _ _ _ _ _;rw[hft2.out,List.length_append,List.length_singleton];exact ho6.out),hP6.out,htb.out,(by rw[hft2.out,List.length_append,List.length_singleton];exact CBk.le (hCB6.out) (by omega)),hX6.out⟩
        ·go_wp2_with (first|(at_builtin;refine wpl_app tMsg rfl (.tmp 53) (.tmp 58) rfl rfl (own_ext ho.out (hX2h.out.alloc _)) rfl (src_msg _ _ _ _ _ _ _ rfl (Ob.new _ _ [_,_,_,_,_])) (by unfold maxLen;omega) (by omega) (by simp only[World.size_alloc];omega) ?_;intro v1 w1 ho1 hg1 hob1;obtain⟨A1,cp1,e1⟩:=own_form ho1;subst e1;replace hg1:World.grownBy _ w1 (Value.slice FA F.length fc).ownBlock:=hg1;have hFg:=fr_grown hg1;have hoA:=own_ext ho.out (hX2h.out.alloc (.cells #[.int .i64 1, .int .i64 pi, .int .i64 pf, .int .i64 pt, .slice QA pr.length qc] 44));have hPA:=pq_app (hPQ.out.ext (hX2h.out.alloc (.cells #[.int .i64 1, .int .i64 pi, .int .i64 pf, .int .i64 pt, .slice QA pr.length qc] 44))) hoA hFg;have hus:=usl_same (p:=p) ((hX2h.out.alloc (.cells #[.int .i64 1, .int .i64 pi, .int .i64 pf, .int .i64 pt, .slice QA pr.length qc] 44)).block p hPQ.out.lt);have hCA:=cbk_app (hCB.out.ext (hX2h.out.alloc (.cells #[.int .i64 1, .int .i64 pi, .int .i64 pf, .int .i64 pt, .slice QA pr.length qc] 44))) hoA hFg hob1;(rw [←hus,←hPA.2] at hCA);have hPa:=hide hPA.1;have hCa:=hide hCA;clear hus hCA;clear hPA;clear hoA hob1;have hX9:=hide (ext_fr ((hX.out.trans hX2h.out).alloc _) (fr_grown hg1) (fun b hb=>by have h9:=(ob_ge ho.out b hb).1;have h8:=hB.out;omega));clear hg1 hFg;have h9:=own_one (q:=((.slice QA pr.length qc:Value),(((1,pi,pf,pt),pr):PM))) ho1;(rw [List.length_append,List.length_singleton] at h9);replace h9:=hide h9;clear ho1;have y0:=pcell_later (hX1.out.trans hX9.out) o0.out;have y1:=pcell_later (hX1.out.trans hX9.out) o1.out;have y2:=pcell_later (hX1.out.trans hX9.out) o2.out;have y3:=pcell_later (hX1.out.trans hX9.out) o3.out;have y4:=pcell_later (hX1.out.trans hX9.out) o4.out;haveI:In ub w1:=⟨Nat.lt_of_lt_of_le hubl (hX1.out.trans hX9.out).size⟩)|(go_at_call 10;refine (htp.out _ hPa.out (hrv.out _ (hX1.out.trans hX9.out)) (by rw[hB.out];exact hX9.out.size)).mono ?_;rintro ee w5 ⟨CA,cc,rfl,hr5,hP5,hK5,hB5⟩;have hC5:=hide (cbk_pq hCa.out hK5 hPa.out hne);have ho5:=hide (own_kq h9.out hK5 (by decide) (by decide));have hX5:=hide (show Ext W1 w5 from Below.trans hX9.out (by have h9:=hB5;rw[hB.out] at h9;exact h9));have x0:=pcell_later (hX1.out.trans hX5.out) o0.out;have x1:=pcell_later (hX1.out.trans hX5.out) o1.out;have x2:=pcell_later (hX1.out.trans hX5.out) o2.out;have x3:=pcell_later (hX1.out.trans hX5.out) o3.out;have x4:=pcell_later (hX1.out.trans hX5.out) o4.out;haveI:In ub w5:=⟨Nat.lt_of_lt_of_le hubl (hX1.out.trans hX5.out).size⟩;replace hr5:=hide hr5;replace hP5:=hide hP5;clear hK5 hB5)|(go_at_call 29;refine (hed.out _ (.slice CA Cr.length cc) (Sl.ext hr5.out ((Ext.refl w5).alloc (.cells #[.int .i64 C1, .slice CA Cr.length cc, .int .i64 c01, .int .i64 c02, .int .i64 n1, .int .i64 n2] 39)))).mono ?_;rintro ee w7 ⟨v7,M7,rfl,hM7,ho7,hX7⟩;obtain⟨A7,c7,q7⟩:=own_form ho7.1;subst q7;have hX57:=hide (((Ext.refl w5).alloc (.cells #[.int .i64 C1, .slice CA Cr.length cc, .int .i64 c01, .int .i64 c02, .int .i64 n1, .int .i64 n2] 39)).trans hX7);replace hM7:=hide hM7;replace ho7:=hide ho7;clear hX7)|(go_at_call 30;refine (cAddK (ob (.slice A1 (F.length+1) cp1)++wrt p (usl w5 p)) M7 bb mB (k*4096) mk XT _ w7 (hC5.out.ext hX57.out) ho7.out.ew (by rw[hM7.out];exact hDi.out) hbB (by omega) (fun x hx=>by rcases List.mem_append.1 hx with hx|hx;(obtain ⟨vs,o⟩:=own_blk ho5.out x hx;exact⟨_,vs,o.ext hX57.out,by decide⟩);(obtain ⟨T9,vs,o,n9⟩:=pq_wrt hP5.out x hx;exact⟨T9,vs,o.ext hX57.out,n9⟩))).mono ?_;rintro ee w6 ⟨ef,hCB6,hF6⟩;rw[hM7.out] at ef hCB6;rw[hba] at ef;subst ef;have hbm6:=(CBk.lt (hC5.out.ext hX57.out));have hpq6:=pq_bag (hP5.out.ext hX57.out) hbm6.1.choose_spec hbm6.2 hne hF6;have ho6:=hide (own_stay (own_ext ho5.out hX57.out) hF6 (nt_bag hbm6.1.choose_spec hbm6.2 (by decide)));have hX6:=hide (ext_fr (hX5.out.trans hX57.out) hF6 (by intro b hb;simp only[List.mem_cons,List.not_mem_nil,or_false] at hb;rcases hb with rfl|rfl;exact hbg1;exact hbg2));(rw [←usl_same (p:=p) (hX57.out.block p hP5.out.lt),←hpq6.2] at hCB6);replace hCB6:=hide hCB6;have hP6:=hide hpq6.1;clear hpq6 hbm6;replace hF6:=hide hF6)|(go_at_call 24;first|((with_reducible refine seq_gw' (topFolded_c _) ?_);intro g9)|((with_reducible refine seq_gw (topFolded_c _) ?_);intro g9)))
         go_returns
         exact⟨by first|rfl|simp,(hX1.out.trans hX6.out).trans g9.grown⟩
       ·have r1:(R != 0)=true:=by rw[bne_iff_ne];exact hR0
        go_wp2_with (first|(at_builtin;refine wpl_app tMsg rfl (.tmp 53) (.tmp 58) rfl rfl (own_ext ho.out (hX2h.out.alloc _)) rfl (src_msg _ _ _ _ _ _ _ rfl (Ob.new _ _ [_,_,_,_,_])) (by unfold maxLen;omega) (by omega) (by simp only[World.size_alloc];omega) ?_;intro v1 w1 ho1 hg1 hob1;obtain⟨A1,cp1,e1⟩:=own_form ho1;subst e1;replace hg1:World.grownBy _ w1 (Value.slice FA F.length fc).ownBlock:=hg1;have hFg:=fr_grown hg1;have hoA:=own_ext ho.out (hX2h.out.alloc (.cells #[.int .i64 1, .int .i64 pi, .int .i64 pf, .int .i64 pt, .slice QA pr.length qc] 44));have hPA:=pq_app (hPQ.out.ext (hX2h.out.alloc (.cells #[.int .i64 1, .int .i64 pi, .int .i64 pf, .int .i64 pt, .slice QA pr.length qc] 44))) hoA hFg;have hus:=usl_same (p:=p) ((hX2h.out.alloc (.cells #[.int .i64 1, .int .i64 pi, .int .i64 pf, .int .i64 pt, .slice QA pr.length qc] 44)).block p hPQ.out.lt);have hCA:=cbk_app (hCB.out.ext (hX2h.out.alloc (.cells #[.int .i64 1, .int .i64 pi, .int .i64 pf, .int .i64 pt, .slice QA pr.length qc] 44))) hoA hFg hob1;(rw [←hus,←hPA.2] at hCA);have hPa:=hide hPA.1;have hCa:=hide hCA;clear hus hCA;clear hPA;clear hoA hob1;have hX9:=hide (ext_fr ((hX.out.trans hX2h.out).alloc _) (fr_grown hg1) (fun b hb=>by have h9:=(ob_ge ho.out b hb).1;have h8:=hB.out;omega));clear hg1 hFg;have h9:=own_one (q:=((.slice QA pr.length qc:Value),(((1,pi,pf,pt),pr):PM))) ho1;(rw [List.length_append,List.length_singleton] at h9);replace h9:=hide h9;clear ho1;have y0:=pcell_later (hX1.out.trans hX9.out) o0.out;have y1:=pcell_later (hX1.out.trans hX9.out) o1.out;have y2:=pcell_later (hX1.out.trans hX9.out) o2.out;have y3:=pcell_later (hX1.out.trans hX9.out) o3.out;have y4:=pcell_later (hX1.out.trans hX9.out) o4.out;haveI:In ub w1:=⟨Nat.lt_of_lt_of_le hubl (hX1.out.trans hX9.out).size⟩)|(go_at_call 10;refine (htp.out _ hPa.out (hrv.out _ (hX1.out.trans hX9.out)) (by rw[hB.out];exact hX9.out.size)).mono ?_;rintro ee w5 ⟨CA,cc,rfl,hr5,hP5,hK5,hB5⟩;have hC5:=hide (cbk_pq hCa.out hK5 hPa.out hne);have ho5:=hide (own_kq h9.out hK5 (by decide) (by decide));have hX5:=hide (show Ext W1 w5 from Below.trans hX9.out (by have h9:=hB5;rw[hB.out] at h9;exact h9));have x0:=pcell_later (hX1.out.trans hX5.out) o0.out;have x1:=pcell_later (hX1.out.trans hX5.out) o1.out;have x2:=pcell_later (hX1.out.trans hX5.out) o2.out;have x3:=pcell_later (hX1.out.trans hX5.out) o3.out;have x4:=pcell_later (hX1.out.trans hX5.out) o4.out;haveI:In ub w5:=⟨Nat.lt_of_lt_of_le hubl (hX1.out.trans hX5.out).size⟩;replace hr5:=hide hr5;replace hP5:=hide hP5;clear hK5 hB5))
        go_roundg (l.length-(k+1))
        case measure=>omega
        case rel=>exact⟨k+1,A1,cp1,mk,XT,by go_num,by omega,by rw[hft2.out,List.length_append,List.length_singleton],(by show World.ownsRow _ _ _ _ _ _ _;rw[hft2.out,List.length_append,List.length_singleton];exact own_ext ho5.out ((Ext.refl w5).alloc (.cells #[.int .i64 C1, .slice CA Cr.length cc, .int .i64 c01, .int .i64 c02, .int .i64 n1, .int .i64 n2] 39))),hP5.out.ext ((Ext.refl w5).alloc (.cells #[.int .i64 C1, .slice CA Cr.length cc, .int .i64 c01, .int .i64 c02, .int .i64 n1, .int .i64 n2] 39)),(by show TB _ _ _;rw[hstR.out hR0];exact hTB.out),(by rw[hft2.out,List.length_append,List.length_singleton];exact CBk.le ((by have h9:=hC5.out.ext ((Ext.refl w5).alloc (.cells #[.int .i64 C1, .slice CA Cr.length cc, .int .i64 c01, .int .i64 c02, .int .i64 n1, .int .i64 n2] 39));rw[←usl_same (p:=p) (((Ext.refl w5).alloc (.cells #[.int .i64 C1, .slice CA Cr.length cc, .int .i64 c01, .int .i64 c02, .int .i64 n1, .int .i64 n2] 39)).block p hP5.out.lt)] at h9;exact h9)) (by omega)),hX5.out.trans ((Ext.refl w5).alloc (.cells #[.int .i64 C1, .slice CA Cr.length cc, .int .i64 c01, .int .i64 c02, .int .i64 n1, .int .i64 n2] 39))⟩
    ·have q1:(pk == 1)=false:=by simp[h1]
     have q3:(pk != 1)=true:=by simp[h1]
     have hfb:fitB ((.slice QA pr.length qc:Value),(((pk,pi,pf,pt),pr):PM))=true:=by unfold fitB;simp[h1]
     rw[hfb] at hft
     have hft2:=hide (show (l.take (k+1)).filter fitB=F++[((.slice QA pr.length qc:Value),(((pk,pi,pf,pt),pr):PM))] from by have:=hft.out;simpa using this)
     clear hrf1 hrf0 hfb
     obtain⟨C1,Cr,⟨c01,c02⟩,n1,n2⟩:=CH
     simp only at htp
     replace hCHe:((C1,Cr,(c01,c02),n1,n2):Ch)=_:=hCHe.out
     have c0w:=c0h.out
     go_wp2_with fail
     refine wp_region_gw (by kernel_rfl) (by kernel_rfl) ?_
     repeat (go_big_quiet_step (fail))
     refine wpQuiet_nil ?_
     intro g7
     have hX2:=g7.grown
     clear c0w
     have z0:=pcell_later hX2 c0h.out
     have z1:=pcell_later hX2 c1h.out
     have z2:=pcell_later hX2 c2h.out
     have z3:=pcell_later hX2 c3h.out
     have z4:=pcell_later hX2 c4h.out
     haveI:In ub g7.val:=⟨Nat.lt_of_lt_of_le hbr hX2.size⟩
     have hX2h:=hide hX2
     have hzs:=hX2.size
     clear hX2
     by_cases hR0:R=0
     ·subst hR0
      obtain⟨hs1,hs2,hs3⟩:=hst0.out rfl
      by_cases h3:pk=3
      ·subst h3
       have h3:(3:Int)=3:=rfl
       by_cases hf0:fgE mk XT pf=0
       ·have htb:=hTB.out.cti hs2 h3 hf0
        rw[←hs1] at htb
        replace htb:=hide htb
        obtain⟨mk',hmk'⟩:∃z,z=fM mk XT pf:=⟨_,rfl⟩
        obtain⟨XT',hX'⟩:∃z,z=fX mk XT pf:=⟨_,rfl⟩
        have hfg:=hf0
        go_wp2_with (first|(at_builtin;refine wpl_app tMsg rfl (.tmp 53) (.tmp 58) rfl rfl (own_ext ho.out (hX2h.out.alloc _)) rfl (src_msg _ _ _ _ _ _ _ rfl (Ob.new _ _ [_,_,_,_,_])) (by unfold maxLen;omega) (by omega) (by simp only[World.size_alloc];omega) ?_;intro v1 w1 ho1 hg1 hob1;obtain⟨A1,cp1,e1⟩:=own_form ho1;subst e1;replace hg1:World.grownBy _ w1 (Value.slice FA F.length fc).ownBlock:=hg1;have hFg:=fr_grown hg1;have hoA:=own_ext ho.out (hX2h.out.alloc (.cells #[.int .i64 3, .int .i64 pi, .int .i64 pf, .int .i64 pt, .slice QA pr.length qc] 44));have hPA:=pq_app (hPQ.out.ext (hX2h.out.alloc (.cells #[.int .i64 3, .int .i64 pi, .int .i64 pf, .int .i64 pt, .slice QA pr.length qc] 44))) hoA hFg;have hus:=usl_same (p:=p) ((hX2h.out.alloc (.cells #[.int .i64 3, .int .i64 pi, .int .i64 pf, .int .i64 pt, .slice QA pr.length qc] 44)).block p hPQ.out.lt);have hCA:=cbk_app (hCB.out.ext (hX2h.out.alloc (.cells #[.int .i64 3, .int .i64 pi, .int .i64 pf, .int .i64 pt, .slice QA pr.length qc] 44))) hoA hFg hob1;(rw [←hus,←hPA.2] at hCA);have hPa:=hide hPA.1;have hCa:=hide hCA;clear hus hCA;clear hPA;clear hoA hob1;have hX9:=hide (ext_fr ((hX.out.trans hX2h.out).alloc _) (fr_grown hg1) (fun b hb=>by have h9:=(ob_ge ho.out b hb).1;have h8:=hB.out;omega));clear hg1 hFg;have h9:=own_one (q:=((.slice QA pr.length qc:Value),(((3,pi,pf,pt),pr):PM))) ho1;(rw [List.length_append,List.length_singleton] at h9);replace h9:=hide h9;clear ho1;have y0:=pcell_later (hX1.out.trans hX9.out) o0.out;have y1:=pcell_later (hX1.out.trans hX9.out) o1.out;have y2:=pcell_later (hX1.out.trans hX9.out) o2.out;have y3:=pcell_later (hX1.out.trans hX9.out) o3.out;have y4:=pcell_later (hX1.out.trans hX9.out) o4.out;haveI:In ub w1:=⟨Nat.lt_of_lt_of_le hubl (hX1.out.trans hX9.out).size⟩)|(go_at_call 10;refine (htp.out _ hPa.out (hrv.out _ (hX1.out.trans hX9.out)) (by rw[hB.out];exact hX9.out.size)).mono ?_;rintro ee w5 ⟨CA,cc,rfl,hr5,hP5,hK5,hB5⟩;have hC5:=hide (cbk_pq hCa.out hK5 hPa.out hne);have ho5:=hide (own_kq h9.out hK5 (by decide) (by decide));have hX5:=hide (show Ext W1 w5 from Below.trans hX9.out (by have h9:=hB5;rw[hB.out] at h9;exact h9));have x0:=pcell_later (hX1.out.trans hX5.out) o0.out;have x1:=pcell_later (hX1.out.trans hX5.out) o1.out;have x2:=pcell_later (hX1.out.trans hX5.out) o2.out;have x3:=pcell_later (hX1.out.trans hX5.out) o3.out;have x4:=pcell_later (hX1.out.trans hX5.out) o4.out;haveI:In ub w5:=⟨Nat.lt_of_lt_of_le hubl (hX1.out.trans hX5.out).size⟩;replace hr5:=hide hr5;replace hP5:=hide hP5;clear hK5 hB5)|(go_at_call 28;refine (cForgetK (ob (.slice A1 (F.length+1) cp1)++wrt p (usl w5 p)) pf bb mB (k*4096) mk XT _ (hC5.out.ext ((Ext.refl w5).alloc (.cells #[.int .i64 C1, .slice CA Cr.length cc, .int .i64 c01, .int .i64 c02, .int .i64 n1, .int .i64 n2] 39))) hmk hbB (by omega) (fun x hx=>by rcases List.mem_append.1 hx with hx|hx;(obtain ⟨vs,o⟩:=own_blk ho5.out x hx;exact Nat.lt_of_lt_of_le o.lt ((Ext.refl w5).alloc (.cells #[.int .i64 C1, .slice CA Cr.length cc, .int .i64 c01, .int .i64 c02, .int .i64 n1, .int .i64 n2] 39)).size);(obtain ⟨T9,vs,o, -⟩:=pq_wrt hP5.out x hx;exact Nat.lt_of_lt_of_le o.lt ((Ext.refl w5).alloc (.cells #[.int .i64 C1, .slice CA Cr.length cc, .int .i64 c01, .int .i64 c02, .int .i64 n1, .int .i64 n2] 39)).size))).mono ?_;rintro ee w6 ⟨ef,hCB6,hF6⟩;rw[hfg] at ef;subst ef;have hbm6:=(CBk.lt (hC5.out.ext ((Ext.refl w5).alloc (.cells #[.int .i64 C1, .slice CA Cr.length cc, .int .i64 c01, .int .i64 c02, .int .i64 n1, .int .i64 n2] 39))));have hpq6:=pq_bag (hP5.out.ext ((Ext.refl w5).alloc (.cells #[.int .i64 C1, .slice CA Cr.length cc, .int .i64 c01, .int .i64 c02, .int .i64 n1, .int .i64 n2] 39))) hbm6.1.choose_spec hbm6.2 hne hF6;have ho6:=hide (own_stay (own_ext ho5.out ((Ext.refl w5).alloc (.cells #[.int .i64 C1, .slice CA Cr.length cc, .int .i64 c01, .int .i64 c02, .int .i64 n1, .int .i64 n2] 39))) hF6 (nt_bag hbm6.1.choose_spec hbm6.2 (by decide)));have hX6:=hide (ext_fr (hX5.out.trans ((Ext.refl w5).alloc (.cells #[.int .i64 C1, .slice CA Cr.length cc, .int .i64 c01, .int .i64 c02, .int .i64 n1, .int .i64 n2] 39))) hF6 (by intro b hb;simp only[List.mem_cons,List.not_mem_nil,or_false] at hb;rcases hb with rfl|rfl;exact hbg1;exact hbg2));(rw [←usl_same (p:=p) (((Ext.refl w5).alloc (.cells #[.int .i64 C1, .slice CA Cr.length cc, .int .i64 c01, .int .i64 c02, .int .i64 n1, .int .i64 n2] 39)).block p hP5.out.lt),←hpq6.2] at hCB6);replace hCB6:=hide hCB6;have hP6:=hide hpq6.1;clear hpq6 hbm6;replace hF6:=hide hF6))
        go_roundg (l.length-(k+1))
        case measure=>omega
        case rel=>exact⟨k+1,A1,cp1,fM mk XT pf,fX mk XT pf,by go_num,by omega,by rw[hft2.out,List.length_append,List.length_singleton],(by show World.ownsRow _ _ _ _ _ _ _;rw[hft2.out,List.length_append,List.length_singleton];exact ho6.out),hP6.out,htb.out,(by rw[hft2.out,List.length_append,List.length_singleton];exact CBk.le (hCB6.out) (by omega)),hX6.out⟩
       ·obtain⟨EF,hEF⟩:∃z,z=fgE mk XT pf:=⟨_,rfl⟩
        rw[←hEF] at hf0
        have hfg:=hEF.symm
        have r1:(EF != 0)=true:=by rw[bne_iff_ne];exact hf0
        replace hfg:=hide hfg
        clear hEF
        go_wp2_with (first|(at_builtin;refine wpl_app tMsg rfl (.tmp 53) (.tmp 58) rfl rfl (own_ext ho.out (hX2h.out.alloc _)) rfl (src_msg _ _ _ _ _ _ _ rfl (Ob.new _ _ [_,_,_,_,_])) (by unfold maxLen;omega) (by omega) (by simp only[World.size_alloc];omega) ?_;intro v1 w1 ho1 hg1 hob1;obtain⟨A1,cp1,e1⟩:=own_form ho1;subst e1;replace hg1:World.grownBy _ w1 (Value.slice FA F.length fc).ownBlock:=hg1;have hFg:=fr_grown hg1;have hoA:=own_ext ho.out (hX2h.out.alloc (.cells #[.int .i64 3, .int .i64 pi, .int .i64 pf, .int .i64 pt, .slice QA pr.length qc] 44));have hPA:=pq_app (hPQ.out.ext (hX2h.out.alloc (.cells #[.int .i64 3, .int .i64 pi, .int .i64 pf, .int .i64 pt, .slice QA pr.length qc] 44))) hoA hFg;have hus:=usl_same (p:=p) ((hX2h.out.alloc (.cells #[.int .i64 3, .int .i64 pi, .int .i64 pf, .int .i64 pt, .slice QA pr.length qc] 44)).block p hPQ.out.lt);have hCA:=cbk_app (hCB.out.ext (hX2h.out.alloc (.cells #[.int .i64 3, .int .i64 pi, .int .i64 pf, .int .i64 pt, .slice QA pr.length qc] 44))) hoA hFg hob1;(rw [←hus,←hPA.2] at hCA);have hPa:=hide hPA.1;have hCa:=hide hCA;clear hus hCA;clear hPA;clear hoA hob1;have hX9:=hide (ext_fr ((hX.out.trans hX2h.out).alloc _) (fr_grown hg1) (fun b hb=>by have h9:=(ob_ge ho.out b hb).1;have h8:=hB.out;omega));clear hg1 hFg;have h9:=own_one (q:=((.slice QA pr.length qc:Value),(((3,pi,pf,pt),pr):PM))) ho1;(rw [List.length_append,List.length_singleton] at h9);replace h9:=hide h9;clear ho1;have y0:=pcell_later (hX1.out.trans hX9.out) o0.out;have y1:=pcell_later (hX1.out.trans hX9.out) o1.out;have y2:=pcell_later (hX1.out.trans hX9.out) o2.out;have y3:=pcell_later (hX1.out.trans hX9.out) o3.out;have y4:=pcell_later (hX1.out.trans hX9.out) o4.out;haveI:In ub w1:=⟨Nat.lt_of_lt_of_le hubl (hX1.out.trans hX9.out).size⟩)|(go_at_call 10;refine (htp.out _ hPa.out (hrv.out _ (hX1.out.trans hX9.out)) (by rw[hB.out];exact hX9.out.size)).mono ?_;rintro ee w5 ⟨CA,cc,rfl,hr5,hP5,hK5,hB5⟩;have hC5:=hide (cbk_pq hCa.out hK5 hPa.out hne);have ho5:=hide (own_kq h9.out hK5 (by decide) (by decide));have hX5:=hide (show Ext W1 w5 from Below.trans hX9.out (by have h9:=hB5;rw[hB.out] at h9;exact h9));have x0:=pcell_later (hX1.out.trans hX5.out) o0.out;have x1:=pcell_later (hX1.out.trans hX5.out) o1.out;have x2:=pcell_later (hX1.out.trans hX5.out) o2.out;have x3:=pcell_later (hX1.out.trans hX5.out) o3.out;have x4:=pcell_later (hX1.out.trans hX5.out) o4.out;haveI:In ub w5:=⟨Nat.lt_of_lt_of_le hubl (hX1.out.trans hX5.out).size⟩;replace hr5:=hide hr5;replace hP5:=hide hP5;clear hK5 hB5)|(go_at_call 28;refine (cForgetK (ob (.slice A1 (F.length+1) cp1)++wrt p (usl w5 p)) pf bb mB (k*4096) mk XT _ (hC5.out.ext ((Ext.refl w5).alloc (.cells #[.int .i64 C1, .slice CA Cr.length cc, .int .i64 c01, .int .i64 c02, .int .i64 n1, .int .i64 n2] 39))) hmk hbB (by omega) (fun x hx=>by rcases List.mem_append.1 hx with hx|hx;(obtain ⟨vs,o⟩:=own_blk ho5.out x hx;exact Nat.lt_of_lt_of_le o.lt ((Ext.refl w5).alloc (.cells #[.int .i64 C1, .slice CA Cr.length cc, .int .i64 c01, .int .i64 c02, .int .i64 n1, .int .i64 n2] 39)).size);(obtain ⟨T9,vs,o, -⟩:=pq_wrt hP5.out x hx;exact Nat.lt_of_lt_of_le o.lt ((Ext.refl w5).alloc (.cells #[.int .i64 C1, .slice CA Cr.length cc, .int .i64 c01, .int .i64 c02, .int .i64 n1, .int .i64 n2] 39)).size))).mono ?_;rintro ee w6 ⟨ef,hCB6,hF6⟩;rw[hfg.out] at ef;subst ef;have hbm6:=(CBk.lt (hC5.out.ext ((Ext.refl w5).alloc (.cells #[.int .i64 C1, .slice CA Cr.length cc, .int .i64 c01, .int .i64 c02, .int .i64 n1, .int .i64 n2] 39))));have hpq6:=pq_bag (hP5.out.ext ((Ext.refl w5).alloc (.cells #[.int .i64 C1, .slice CA Cr.length cc, .int .i64 c01, .int .i64 c02, .int .i64 n1, .int .i64 n2] 39))) hbm6.1.choose_spec hbm6.2 hne hF6;have ho6:=hide (own_stay (own_ext ho5.out ((Ext.refl w5).alloc (.cells #[.int .i64 C1, .slice CA Cr.length cc, .int .i64 c01, .int .i64 c02, .int .i64 n1, .int .i64 n2] 39))) hF6 (nt_bag hbm6.1.choose_spec hbm6.2 (by decide)));have hX6:=hide (ext_fr (hX5.out.trans ((Ext.refl w5).alloc (.cells #[.int .i64 C1, .slice CA Cr.length cc, .int .i64 c01, .int .i64 c02, .int .i64 n1, .int .i64 n2] 39))) hF6 (by intro b hb;simp only[List.mem_cons,List.not_mem_nil,or_false] at hb;rcases hb with rfl|rfl;exact hbg1;exact hbg2));(rw [←usl_same (p:=p) (((Ext.refl w5).alloc (.cells #[.int .i64 C1, .slice CA Cr.length cc, .int .i64 c01, .int .i64 c02, .int .i64 n1, .int .i64 n2] 39)).block p hP5.out.lt),←hpq6.2] at hCB6);replace hCB6:=hide hCB6;have hP6:=hide hpq6.1;clear hpq6 hbm6;replace hF6:=hide hF6)|(go_at_call 24;first|((with_reducible refine seq_gw' (topFolded_c _) ?_);intro g9)|((with_reducible refine seq_gw (topFolded_c _) ?_);intro g9)))
        go_returns
        exact⟨by first|rfl|simp,(hX1.out.trans hX6.out).trans g9.grown⟩
      ·have hmk3:(pk == 3)=false:=by simp[h3]
       have hisC:=isC_iff.2 ⟨hs2,h3⟩
       have hAm:=hAm0.out hisC
       have hdi:=hide (hDi0.out hs2)
       obtain⟨hE0,hA⟩:=hAm
       have hadd:=hTB.out.add hisC hA
       rw[←hs3] at hE0 hadd
       simp only at hE0 hadd
       have hed:=hide (fun W' u (hu:Rw W' [] u Cr)=>foldEdges_c C1 c01 c02 n1 n2 Cr u W' hu)
       rw[hE0] at hed
       have hDi:Hid (edsIn (fdR Cr (c01,c02) (n1,n2))):=fd_in (by have h9:=hdi.out;rw[←hs3] at h9;exact h9)
       generalize fdR Cr (c01,c02) (n1,n2)=D at *
       clear hA hE0 hdi
       rcases hadd with ⟨hba,htb⟩|hba
       ·rw[←hs1] at htb
        replace htb:=hide htb
        go_wp2_with (first|(at_builtin;refine wpl_app tMsg rfl (.tmp 53) (.tmp 58) rfl rfl (own_ext ho.out (hX2h.out.alloc _)) rfl (src_msg _ _ _ _ _ _ _ rfl (Ob.new _ _ [_,_,_,_,_])) (by unfold maxLen;omega) (by omega) (by simp only[World.size_alloc];omega) ?_;intro v1 w1 ho1 hg1 hob1;obtain⟨A1,cp1,e1⟩:=own_form ho1;subst e1;replace hg1:World.grownBy _ w1 (Value.slice FA F.length fc).ownBlock:=hg1;have hFg:=fr_grown hg1;have hoA:=own_ext ho.out (hX2h.out.alloc (.cells #[.int .i64 pk, .int .i64 pi, .int .i64 pf, .int .i64 pt, .slice QA pr.length qc] 44));have hPA:=pq_app (hPQ.out.ext (hX2h.out.alloc (.cells #[.int .i64 pk, .int .i64 pi, .int .i64 pf, .int .i64 pt, .slice QA pr.length qc] 44))) hoA hFg;have hus:=usl_same (p:=p) ((hX2h.out.alloc (.cells #[.int .i64 pk, .int .i64 pi, .int .i64 pf, .int .i64 pt, .slice QA pr.length qc] 44)).block p hPQ.out.lt);have hCA:=cbk_app (hCB.out.ext (hX2h.out.alloc (.cells #[.int .i64 pk, .int .i64 pi, .int .i64 pf, .int .i64 pt, .slice QA pr.length qc] 44))) hoA hFg hob1;(rw [←hus,←hPA.2] at hCA);have hPa:=hide hPA.1;have hCa:=hide hCA;clear hus hCA;clear hPA;clear hoA hob1;have hX9:=hide (ext_fr ((hX.out.trans hX2h.out).alloc _) (fr_grown hg1) (fun b hb=>by have h9:=(ob_ge ho.out b hb).1;have h8:=hB.out;omega));clear hg1 hFg;have h9:=own_one (q:=((.slice QA pr.length qc:Value),(((pk,pi,pf,pt),pr):PM))) ho1;(rw [List.length_append,List.length_singleton] at h9);replace h9:=hide h9;clear ho1;have y0:=pcell_later (hX1.out.trans hX9.out) o0.out;have y1:=pcell_later (hX1.out.trans hX9.out) o1.out;have y2:=pcell_later (hX1.out.trans hX9.out) o2.out;have y3:=pcell_later (hX1.out.trans hX9.out) o3.out;have y4:=pcell_later (hX1.out.trans hX9.out) o4.out;haveI:In ub w1:=⟨Nat.lt_of_lt_of_le hubl (hX1.out.trans hX9.out).size⟩)|(go_at_call 10;refine (htp.out _ hPa.out (hrv.out _ (hX1.out.trans hX9.out)) (by rw[hB.out];exact hX9.out.size)).mono ?_;rintro ee w5 ⟨CA,cc,rfl,hr5,hP5,hK5,hB5⟩;have hC5:=hide (cbk_pq hCa.out hK5 hPa.out hne);have ho5:=hide (own_kq h9.out hK5 (by decide) (by decide));have hX5:=hide (show Ext W1 w5 from Below.trans hX9.out (by have h9:=hB5;rw[hB.out] at h9;exact h9));have x0:=pcell_later (hX1.out.trans hX5.out) o0.out;have x1:=pcell_later (hX1.out.trans hX5.out) o1.out;have x2:=pcell_later (hX1.out.trans hX5.out) o2.out;have x3:=pcell_later (hX1.out.trans hX5.out) o3.out;have x4:=pcell_later (hX1.out.trans hX5.out) o4.out;haveI:In ub w5:=⟨Nat.lt_of_lt_of_le hubl (hX1.out.trans hX5.out).size⟩;replace hr5:=hide hr5;replace hP5:=hide hP5;clear hK5 hB5)|(go_at_call 29;refine (hed.out _ (.slice CA Cr.length cc) (Sl.ext hr5.out ((Ext.refl w5).alloc (.cells #[.int .i64 C1, .slice CA Cr.length cc, .int .i64 c01, .int .i64 c02, .int .i64 n1, .int .i64 n2] 39)))).mono ?_;rintro ee w7 ⟨v7,M7,rfl,hM7,ho7,hX7⟩;obtain⟨A7,c7,q7⟩:=own_form ho7.1;subst q7;have hX57:=hide (((Ext.refl w5).alloc (.cells #[.int .i64 C1, .slice CA Cr.length cc, .int .i64 c01, .int .i64 c02, .int .i64 n1, .int .i64 n2] 39)).trans hX7);replace hM7:=hide hM7;replace ho7:=hide ho7;clear hX7)|(go_at_call 30;refine (cAddK (ob (.slice A1 (F.length+1) cp1)++wrt p (usl w5 p)) M7 bb mB (k*4096) mk XT _ w7 (hC5.out.ext hX57.out) ho7.out.ew (by rw[hM7.out];exact hDi.out) hbB (by omega) (fun x hx=>by rcases List.mem_append.1 hx with hx|hx;(obtain ⟨vs,o⟩:=own_blk ho5.out x hx;exact⟨_,vs,o.ext hX57.out,by decide⟩);(obtain ⟨T9,vs,o,n9⟩:=pq_wrt hP5.out x hx;exact⟨T9,vs,o.ext hX57.out,n9⟩))).mono ?_;rintro ee w6 ⟨ef,hCB6,hF6⟩;rw[hM7.out] at ef hCB6;rw[hba] at ef;subst ef;have hbm6:=(CBk.lt (hC5.out.ext hX57.out));have hpq6:=pq_bag (hP5.out.ext hX57.out) hbm6.1.choose_spec hbm6.2 hne hF6;have ho6:=hide (own_stay (own_ext ho5.out hX57.out) hF6 (nt_bag hbm6.1.choose_spec hbm6.2 (by decide)));have hX6:=hide (ext_fr (hX5.out.trans hX57.out) hF6 (by intro b hb;simp only[List.mem_cons,List.not_mem_nil,or_false] at hb;rcases hb with rfl|rfl;exact hbg1;exact hbg2));(rw [←usl_same (p:=p) (hX57.out.block p hP5.out.lt),←hpq6.2] at hCB6);replace hCB6:=hide hCB6;have hP6:=hide hpq6.1;clear hpq6 hbm6;replace hF6:=hide hF6))
        go_roundg (l.length-(k+1))
        case measure=>omega
        case rel=>exact⟨k+1,A1,cp1,mk,aX mk XT D,by go_num,by omega,by rw[hft2.out,List.length_append,List.length_singleton],(by show World.ownsRow _ _ _ _ _ _ _;rw[hft2.out,List.length_append,List.length_singleton];exact ho6.out),hP6.out,htb.out,(by rw[hft2.out,List.length_append,List.length_singleton];exact CBk.le (hCB6.out) (by omega)),hX6.out⟩
       ·go_wp2_with (first|(at_builtin;refine wpl_app tMsg rfl (.tmp 53) (.tmp 58) rfl rfl (own_ext ho.out (hX2h.out.alloc _)) rfl (src_msg _ _ _ _ _ _ _ rfl (Ob.new _ _ [_,_,_,_,_])) (by unfold maxLen;omega) (by omega) (by simp only[World.size_alloc];omega) ?_;intro v1 w1 ho1 hg1 hob1;obtain⟨A1,cp1,e1⟩:=own_form ho1;subst e1;replace hg1:World.grownBy _ w1 (Value.slice FA F.length fc).ownBlock:=hg1;have hFg:=fr_grown hg1;have hoA:=own_ext ho.out (hX2h.out.alloc (.cells #[.int .i64 pk, .int .i64 pi, .int .i64 pf, .int .i64 pt, .slice QA pr.length qc] 44));have hPA:=pq_app (hPQ.out.ext (hX2h.out.alloc (.cells #[.int .i64 pk, .int .i64 pi, .int .i64 pf, .int .i64 pt, .slice QA pr.length qc] 44))) hoA hFg;have hus:=usl_same (p:=p) ((hX2h.out.alloc (.cells #[.int .i64 pk, .int .i64 pi, .int .i64 pf, .int .i64 pt, .slice QA pr.length qc] 44)).block p hPQ.out.lt);have hCA:=cbk_app (hCB.out.ext (hX2h.out.alloc (.cells #[.int .i64 pk, .int .i64 pi, .int .i64 pf, .int .i64 pt, .slice QA pr.length qc] 44))) hoA hFg hob1;(rw [←hus,←hPA.2] at hCA);have hPa:=hide hPA.1;have hCa:=hide hCA;clear hus hCA;clear hPA;clear hoA hob1;have hX9:=hide (ext_fr ((hX.out.trans hX2h.out).alloc _) (fr_grown hg1) (fun b hb=>by have h9:=(ob_ge ho.out b hb).1;have h8:=hB.out;omega));clear hg1 hFg;have h9:=own_one (q:=((.slice QA pr.length qc:Value),(((pk,pi,pf,pt),pr):PM))) ho1;(rw [List.length_append,List.length_singleton] at h9);replace h9:=hide h9;clear ho1;have y0:=pcell_later (hX1.out.trans hX9.out) o0.out;have y1:=pcell_later (hX1.out.trans hX9.out) o1.out;have y2:=pcell_later (hX1.out.trans hX9.out) o2.out;have y3:=pcell_later (hX1.out.trans hX9.out) o3.out;have y4:=pcell_later (hX1.out.trans hX9.out) o4.out;haveI:In ub w1:=⟨Nat.lt_of_lt_of_le hubl (hX1.out.trans hX9.out).size⟩)|(go_at_call 10;refine (htp.out _ hPa.out (hrv.out _ (hX1.out.trans hX9.out)) (by rw[hB.out];exact hX9.out.size)).mono ?_;rintro ee w5 ⟨CA,cc,rfl,hr5,hP5,hK5,hB5⟩;have hC5:=hide (cbk_pq hCa.out hK5 hPa.out hne);have ho5:=hide (own_kq h9.out hK5 (by decide) (by decide));have hX5:=hide (show Ext W1 w5 from Below.trans hX9.out (by have h9:=hB5;rw[hB.out] at h9;exact h9));have x0:=pcell_later (hX1.out.trans hX5.out) o0.out;have x1:=pcell_later (hX1.out.trans hX5.out) o1.out;have x2:=pcell_later (hX1.out.trans hX5.out) o2.out;have x3:=pcell_later (hX1.out.trans hX5.out) o3.out;have x4:=pcell_later (hX1.out.trans hX5.out) o4.out;haveI:In ub w5:=⟨Nat.lt_of_lt_of_le hubl (hX1.out.trans hX5.out).size⟩;replace hr5:=hide hr5;replace hP5:=hide hP5;clear hK5 hB5)|(go_at_call 29;refine (hed.out _ (.slice CA Cr.length cc) (Sl.ext hr5.out ((Ext.refl w5).alloc (.cells #[.int .i64 C1, .slice CA Cr.length cc, .int .i64 c01, .int .i64 c02, .int .i64 n1, .int .i64 n2] 39)))).mono ?_;rintro ee w7 ⟨v7,M7,rfl,hM7,ho7,hX7⟩;obtain⟨A7,c7,q7⟩:=own_form ho7.1;subst q7;have hX57:=hide (((Ext.refl w5).alloc (.cells #[.int .i64 C1, .slice CA Cr.length cc, .int .i64 c01, .int .i64 c02, .int .i64 n1, .int .i64 n2] 39)).trans hX7);replace hM7:=hide hM7;replace ho7:=hide ho7;clear hX7)|(go_at_call 30;refine (cAddK (ob (.slice A1 (F.length+1) cp1)++wrt p (usl w5 p)) M7 bb mB (k*4096) mk XT _ w7 (hC5.out.ext hX57.out) ho7.out.ew (by rw[hM7.out];exact hDi.out) hbB (by omega) (fun x hx=>by rcases List.mem_append.1 hx with hx|hx;(obtain ⟨vs,o⟩:=own_blk ho5.out x hx;exact⟨_,vs,o.ext hX57.out,by decide⟩);(obtain ⟨T9,vs,o,n9⟩:=pq_wrt hP5.out x hx;exact⟨T9,vs,o.ext hX57.out,n9⟩))).mono ?_;rintro ee w6 ⟨ef,hCB6,hF6⟩;rw[hM7.out] at ef hCB6;rw[hba] at ef;subst ef;have hbm6:=(CBk.lt (hC5.out.ext hX57.out));have hpq6:=pq_bag (hP5.out.ext hX57.out) hbm6.1.choose_spec hbm6.2 hne hF6;have ho6:=hide (own_stay (own_ext ho5.out hX57.out) hF6 (nt_bag hbm6.1.choose_spec hbm6.2 (by decide)));have hX6:=hide (ext_fr (hX5.out.trans hX57.out) hF6 (by intro b hb;simp only[List.mem_cons,List.not_mem_nil,or_false] at hb;rcases hb with rfl|rfl;exact hbg1;exact hbg2));(rw [←usl_same (p:=p) (hX57.out.block p hP5.out.lt),←hpq6.2] at hCB6);replace hCB6:=hide hCB6;have hP6:=hide hpq6.1;clear hpq6 hbm6;replace hF6:=hide hF6)|(go_at_call 24;first|((with_reducible refine seq_gw' (topFolded_c _) ?_);intro g9)|((with_reducible refine seq_gw (topFolded_c _) ?_);intro g9)))
        go_returns
        exact⟨by first|rfl|simp,(hX1.out.trans hX6.out).trans g9.grown⟩
     ·have r1:(R != 0)=true:=by rw[bne_iff_ne];exact hR0
      go_wp2_with (first|(at_builtin;refine wpl_app tMsg rfl (.tmp 53) (.tmp 58) rfl rfl (own_ext ho.out (hX2h.out.alloc _)) rfl (src_msg _ _ _ _ _ _ _ rfl (Ob.new _ _ [_,_,_,_,_])) (by unfold maxLen;omega) (by omega) (by simp only[World.size_alloc];omega) ?_;intro v1 w1 ho1 hg1 hob1;obtain⟨A1,cp1,e1⟩:=own_form ho1;subst e1;replace hg1:World.grownBy _ w1 (Value.slice FA F.length fc).ownBlock:=hg1;have hFg:=fr_grown hg1;have hoA:=own_ext ho.out (hX2h.out.alloc (.cells #[.int .i64 pk, .int .i64 pi, .int .i64 pf, .int .i64 pt, .slice QA pr.length qc] 44));have hPA:=pq_app (hPQ.out.ext (hX2h.out.alloc (.cells #[.int .i64 pk, .int .i64 pi, .int .i64 pf, .int .i64 pt, .slice QA pr.length qc] 44))) hoA hFg;have hus:=usl_same (p:=p) ((hX2h.out.alloc (.cells #[.int .i64 pk, .int .i64 pi, .int .i64 pf, .int .i64 pt, .slice QA pr.length qc] 44)).block p hPQ.out.lt);have hCA:=cbk_app (hCB.out.ext (hX2h.out.alloc (.cells #[.int .i64 pk, .int .i64 pi, .int .i64 pf, .int .i64 pt, .slice QA pr.length qc] 44))) hoA hFg hob1;(rw [←hus,←hPA.2] at hCA);have hPa:=hide hPA.1;have hCa:=hide hCA;clear hus hCA;clear hPA;clear hoA hob1;have hX9:=hide (ext_fr ((hX.out.trans hX2h.out).alloc _) (fr_grown hg1) (fun b hb=>by have h9:=(ob_ge ho.out b hb).1;have h8:=hB.out;omega));clear hg1 hFg;have h9:=own_one (q:=((.slice QA pr.length qc:Value),(((pk,pi,pf,pt),pr):PM))) ho1;(rw [List.length_append,List.length_singleton] at h9);replace h9:=hide h9;clear ho1;have y0:=pcell_later (hX1.out.trans hX9.out) o0.out;have y1:=pcell_later (hX1.out.trans hX9.out) o1.out;have y2:=pcell_later (hX1.out.trans hX9.out) o2.out;have y3:=pcell_later (hX1.out.trans hX9.out) o3.out;have y4:=pcell_later (hX1.out.trans hX9.out) o4.out;haveI:In ub w1:=⟨Nat.lt_of_lt_of_le hubl (hX1.out.trans hX9.out).size⟩)|(go_at_call 10;refine (htp.out _ hPa.out (hrv.out _ (hX1.out.trans hX9.out)) (by rw[hB.out];exact hX9.out.size)).mono ?_;rintro ee w5 ⟨CA,cc,rfl,hr5,hP5,hK5,hB5⟩;have hC5:=hide (cbk_pq hCa.out hK5 hPa.out hne);have ho5:=hide (own_kq h9.out hK5 (by decide) (by decide));have hX5:=hide (show Ext W1 w5 from Below.trans hX9.out (by have h9:=hB5;rw[hB.out] at h9;exact h9));have x0:=pcell_later (hX1.out.trans hX5.out) o0.out;have x1:=pcell_later (hX1.out.trans hX5.out) o1.out;have x2:=pcell_later (hX1.out.trans hX5.out) o2.out;have x3:=pcell_later (hX1.out.trans hX5.out) o3.out;have x4:=pcell_later (hX1.out.trans hX5.out) o4.out;haveI:In ub w5:=⟨Nat.lt_of_lt_of_le hubl (hX1.out.trans hX5.out).size⟩;replace hr5:=hide hr5;replace hP5:=hide hP5;clear hK5 hB5))
      go_roundg (l.length-(k+1))
      case measure=>omega
      case rel=>exact⟨k+1,A1,cp1,mk,XT,by go_num,by omega,by rw[hft2.out,List.length_append,List.length_singleton],(by show World.ownsRow _ _ _ _ _ _ _;rw[hft2.out,List.length_append,List.length_singleton];exact own_ext ho5.out ((Ext.refl w5).alloc (.cells #[.int .i64 C1, .slice CA Cr.length cc, .int .i64 c01, .int .i64 c02, .int .i64 n1, .int .i64 n2] 39))),hP5.out.ext ((Ext.refl w5).alloc (.cells #[.int .i64 C1, .slice CA Cr.length cc, .int .i64 c01, .int .i64 c02, .int .i64 n1, .int .i64 n2] 39)),(by show TB _ _ _;rw[hstR.out hR0];exact hTB.out),(by rw[hft2.out,List.length_append,List.length_singleton];exact CBk.le ((by have h9:=hC5.out.ext ((Ext.refl w5).alloc (.cells #[.int .i64 C1, .slice CA Cr.length cc, .int .i64 c01, .int .i64 c02, .int .i64 n1, .int .i64 n2] 39));rw[←usl_same (p:=p) (((Ext.refl w5).alloc (.cells #[.int .i64 C1, .slice CA Cr.length cc, .int .i64 c01, .int .i64 c02, .int .i64 n1, .int .i64 n2] 39)).block p hP5.out.lt)] at h9;exact h9)) (by omega)),hX5.out.trans ((Ext.refl w5).alloc (.cells #[.int .i64 C1, .slice CA Cr.length cc, .int .i64 c01, .int .i64 c02, .int .i64 n1, .int .i64 n2] 39))⟩
   ·obtain rfl:k=l.length:=by omega
    have hge:¬(l.length:Int)<l.length:=by omega
    rw[List.take_length] at ho hCB ⊢
    have hpt:(pms l).take l.length=pms l:=by rw[List.take_of_length_le];simp[pms]
    rw[hpt,run_fit] at hTB
    have hPk:=hPQ.out
    have hclk:=hide (fun W' (hY:Ext wr W')=>pq_clock (hPQ.out.ext hY))
    rw[hpt,run_fit] at hclk
    have hFsub:∀q∈l.filter fitB,q∈l:=fun q hq=>(List.mem_filter.1 hq).1
    have hFl:(l.filter fitB).length≤300:=Nat.le_trans (List.length_filter_le _ _) hs
    generalize l.filter fitB=F at *
    have hFin:∀q∈F,inM q.2:=fun q hq=>hi q (hFsub q hq)
    have hFw:=hide (⟨Sl.own ho.out (by simp),fun q hq=>Sl.ext (hrw.out q (hFsub q hq)) (hX1.out.trans hX.out)⟩:Mw wr [] (.slice FA F.length fc) F)
    obtain⟨t1,t2,t3,t4⟩:=tab_amt (pms F) (by simp[pms];omega)
    have hta:=hide (table_c F _ wr hFw.out hFin (by omega))
    rw[t1] at hta
    have hpe:Hid (∀M:List Ve,eds M=ppR (exP (pms F))→∀v w',Ew w' [] v M→Calls Tryz.prog 32 #[v] w' fun e w''=>∃v' N,e= .returned (.tuple #[v', .int .i64 0])∧eds N=pkR (ppR (exP (pms F)))∧OwnEr w'' w'.heap.size v' N∧Ext w' w''):=fun M hM v w' hv=>by
     have hml:M.length≤4096:=by have:=congrArg List.length hM;rw[List.length_map] at this;omega
     have:=packEdges_c M hml v w' hv
     rw[hM,t2] at this
     exact this
    have hfin:=hide (fun h0=>hTB.out.fin t3 h0)
    obtain⟨c,hc⟩:∃c,c=(runS (0,[]) (pms F)).1:=⟨_,rfl⟩
    rw[←hc] at hclk hfin
    generalize ppR (exP (pms F))=RR at *
    generalize pkR RR=TT at *
    clear t1 t2 t3 t4 hTB hPk hat hc
    have her:Hid (∀(M:List Ve),eds M=TT→∀v w',Ew w' [] v M→Calls Tryz.prog 33 #[v, .int .i64 c] w' fun e w''=>∃v' N,e= .returned (.tuple #[v', .int .i64 (mpE (reOp c) TT)])∧eds N=mpR (reOp c) TT∧OwnEr w'' w'.heap.size v' N∧Ext w' w''):=fun M hM v w' hv=>by
     have:=edgeRest_c M c v w' hv
     rw[hM] at this
     exact this
    obtain⟨EE,hEE⟩:∃z,z=mpE (reOp c) TT:=⟨_,rfl⟩
    obtain⟨YY,hYY⟩:∃z,z=mpR (reOp c) TT:=⟨_,rfl⟩
    rw[←hEE,←hYY] at her
    rw[←hEE,←hYY] at hfin
    clear hEE hYY
    have hbe:=hide (fun W' (hY:Ext wr W')=>cbk_edges (hCB.out.ext hY))
    by_cases hE0:EE=0
    ·subst hE0
     have hYX:=hide (hfin.out rfl)
     clear hfin
     go_wp2_with (first|(go_at_call 31;(refine hta.out.mono ?_;rintro ee w5 ⟨v5,M5,rfl,hM5,o5,x5⟩;obtain⟨AM5,cM5,qM5⟩:=own_form o5.1;subst qM5;have hP5:=hide (hpe.out M5 hM5);replace x5:=hide x5;skip))|(go_at_call 32;(refine (hP5.out _ w5 o5.ew).mono ?_;rintro ee w6 ⟨v6,M6,rfl,hM6,o6,x6⟩;obtain⟨AM6,cM6,qM6⟩:=own_form o6.1;subst qM6;have X6:=hide (x5.out.trans x6);have hR6:=hide (her.out M6 hM6);replace o6:=hide o6;skip))|(go_at_call 13;first|((with_reducible refine seq_gw' (hclk.out _ X6.out) ?_);intro g7)|((with_reducible refine seq_gw (hclk.out _ X6.out) ?_);intro g7))|(go_at_call 33;(refine (hR6.out _ _ (o6.out.ew.ext g7.grown)).mono ?_;rintro ee w8 ⟨v8,M8,rfl,hM8,o8,x8⟩;obtain⟨AM8,cM8,qM8⟩:=own_form o8.1;subst qM8;have X5:=hide (X6.out.trans (g7.grown.trans x8));replace hM8:=hide hM8;replace o8:=hide o8;skip))|(go_at_call 24;first|((with_reducible refine seq_gw' (topFolded_c _) ?_);intro g9)|((with_reducible refine seq_gw (topFolded_c _) ?_);intro g9))|(go_at_call 35;first|(refine (hbe.out _ (X5.out.trans g9.grown)).mono ?_;rintro ee w10 ⟨v10,M10,rfl,hM10,o10,x10⟩;obtain⟨AM10,cM10,qM10⟩:=own_form o10.1;subst qM10;have X10:=hide ((X5.out.trans g9.grown).trans x10);replace hM10:=hide hM10;replace o10:=hide o10;have x10h:=hide x10;clear x10)|(refine (hbe.out _ (X10.out.trans g11.grown)).mono ?_;rintro ee w12 ⟨v12,M12,rfl,hM12,o12,x12⟩;obtain⟨AM12,cM12,qM12⟩:=own_form o12.1;subst qM12;have X12:=hide ((X10.out.trans g11.grown).trans x12);have hMN:M12.length=M8.length:=(by have h7:=congrArg List.length hM12;have h8:=congrArg List.length hM8.out;rw[hYX.out] at h8;simp only[eds,List.length_map] at h7 h8;omega)))|(go_at_call 34;have hsm:=edgeSame_c (o10.out.ew) (o8.out.ew.ext (g9.grown.trans x10h.out));rw[hM10.out,hM8.out,hYX.out,decide_eq_true rfl] at hsm;first|((with_reducible refine seq_gw' hsm ?_);intro g11;clear hsm)|((with_reducible refine seq_gw hsm ?_);intro g11;clear hsm)))
     go_returns
     exact⟨by first|rfl|simp,(hX1.out.trans hX.out).trans X12.out⟩
    ·have r1:(EE != 0)=true:=by rw[bne_iff_ne];exact hE0
     clear hfin
     go_wp2_with (first|(go_at_call 31;(refine hta.out.mono ?_;rintro ee w5 ⟨v5,M5,rfl,hM5,o5,x5⟩;obtain⟨AM5,cM5,qM5⟩:=own_form o5.1;subst qM5;have hP5:=hide (hpe.out M5 hM5);replace x5:=hide x5;skip))|(go_at_call 32;(refine (hP5.out _ w5 o5.ew).mono ?_;rintro ee w6 ⟨v6,M6,rfl,hM6,o6,x6⟩;obtain⟨AM6,cM6,qM6⟩:=own_form o6.1;subst qM6;have X6:=hide (x5.out.trans x6);have hR6:=hide (her.out M6 hM6);replace o6:=hide o6;skip))|(go_at_call 13;first|((with_reducible refine seq_gw' (hclk.out _ X6.out) ?_);intro g7)|((with_reducible refine seq_gw (hclk.out _ X6.out) ?_);intro g7))|(go_at_call 33;(refine (hR6.out _ _ (o6.out.ew.ext g7.grown)).mono ?_;rintro ee w8 ⟨v8,M8,rfl,hM8,o8,x8⟩;obtain⟨AM8,cM8,qM8⟩:=own_form o8.1;subst qM8;have X5:=hide (X6.out.trans (g7.grown.trans x8));replace hM8:=hide hM8;replace o8:=hide o8;skip))|(go_at_call 24;first|((with_reducible refine seq_gw' (topFolded_c _) ?_);intro g9)|((with_reducible refine seq_gw (topFolded_c _) ?_);intro g9)))
     go_returns
     exact⟨by first|rfl|simp,(hX1.out.trans hX.out).trans (X5.out.trans g9.grown)⟩
 ·have d1:(300:Int)<l.length:=by omega
  obtain⟨LA,lc,rfl, -⟩:=mw_form hl
  clear hl hi
  go_enter Tryz.func5,Tryz.ntmps5
  go_wp2_with (go_at_call 24;first|((with_reducible refine seq_gw' (topFolded_c _) ?_);intro g9)|((with_reducible refine seq_gw (topFolded_c _) ?_);intro g9))
  go_returns
  exact⟨by first|rfl|simp,g9.grown⟩
end TopTab
end Go.Proofs.YtajelkkiijdegaaGreat
