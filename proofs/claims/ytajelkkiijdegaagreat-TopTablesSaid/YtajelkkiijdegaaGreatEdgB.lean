/-
  A helper of ours: no claim of its own. Layer 10 (edge): edges asked one by one, in order, pair by pair; cloned; what ranges over their rows.
-/
import Derived.Test.YtajelkkiijdegaaGreatEdgA
import Derived.Test.YtajelkkiijdegaaGreatReg
import Derived.Test.YtajelkkiijdegaaGreatStepE
set_option linter.unusedVariables false
set_option linter.unusedSimpArgs false
set_option linter.unusedSectionVars false
set_option maxHeartbeats 64000000
set_option maxRecDepth 100000
namespace Go.Proofs.YtajelkkiijdegaaGreat
open Go.RowKit
attribute [local go_sem] GW.cell GW.frozen In.eq_true In.le_true In.ne In.ne' In.ne_add In.ne_add' In.lt_add Upto.le_true Upto.le_add Upto.lt_add
theorem indexERow_c(L:List Ve)(v:Value)(w:World)(h:Ew w [] v L):Calls Tryz.prog 121 #[v, .func (.func 111) #[] #[]] w fun e w'=>e= .returned (.int .i64 (idxP (fun x:Ve=>mayR x.2.1) 0 L))∧Ext w w':=by
 obtain⟨A,cap,rfl,hl,hm,hat⟩:=ew_form h
 unfold maxLen at hm
 replace hat:=hide hat
 have hrows:=hide h.2
 clear h
 obtain⟨R,hR⟩:∃R,R=idxP (fun x:Ve=>mayR x.2.1) 0 L:=⟨_,rfl⟩
 rw[←hR]
 replace hR:=hide hR
 go_enter Tryz.func121,Tryz.ntmps121
 go_wp2_with fail
 go_loopg [8] L.length (fun gh i wr=>∃(k:Nat),i= .int .i64 k∧k+gh=L.length∧Hid (R=idxP (fun x:Ve=>mayR x.2.1) k (L.drop k))∧Ext w wr)
 case atStart=>exact⟨0,rfl,by omega,by simpa using hR,Ext.refl w⟩
 case round =>
  obtain⟨k,rfl,hk,hRk,hX⟩:=hrel
  clear hR
  by_cases hlt:k<L.length
  ·obtain⟨x,hx⟩:∃x,L[k]? = some x:=⟨_,List.getElem?_eq_getElem hlt⟩
   obtain⟨b,o,rfl, -,hb,c0,c1,c2⟩:=hat.out k x hx
   have k0:=cell_later hX c0
   have k1:=cell_later hX c1
   have k2:=cell_later hX c2
   have hbr:b<wr.heap.size:=block_lt_of_cell k0
   have hrw:=Sl.ext (hrows.out x (List.mem_of_getElem? hx)) hX
   have hR2:=hRk.out
   rw[drop_cons hx] at hR2
   obtain⟨xv,xq,xa,xn⟩:=x
   simp only at k0 k1 k2 hrw
   have hin:=hide (fun w' (hXw:Ext wr w')=>hasNoRow_c xq (xa,xn) xv w' (Sl.ext hrw hXw))
   have hX00:=hide (Ext.refl wr)
   obtain⟨XA,xcap,rfl⟩:=rw_val hrw
   clear c0 c1 c2 hat hx hrows hrw
   cases hmx:mayR xq
   ·rw[hmx] at hin
    rw[idxP_no (p:=(fun x:Ve=>mayR x.2.1)) (x:=(.slice XA xq.length xcap,xq,xa,xn)) hmx] at hR2
    replace hR2:=hide hR2
    replace hmx:=hide hmx
    go_wp2_with (go_at_call 111;(with_reducible refine seq_gw (hin.out _ hX00.out) ?_);intro g)
    go_returns
    exact⟨by rw[hR2.out];rfl,hX.trans g.grown⟩
   ·rw[hmx] at hin
    rw[idxP_yes (p:=(fun x:Ve=>mayR x.2.1)) (x:=(.slice XA xq.length xcap,xq,xa,xn)) hmx] at hR2
    replace hR2:=hide hR2
    replace hmx:=hide hmx
    go_wp2_with (go_at_call 111;(with_reducible refine seq_gw (hin.out _ hX00.out) ?_);intro g)
    go_roundg (L.length-(k+1))
    case measure=>omega
    case rel=>exact⟨k+1,by go_num,by omega,hR2,hX.trans g.grown⟩
  ·have hk':k=L.length:=by omega
   have hge:(L.length:Int)≤k:=by omega
   have hR2:=hRk.out
   rw[hk',List.drop_length] at hR2
   replace hR2:=hide hR2
   replace hk':=hide hk'
   go_wp2_with fail
   go_returns
   exact⟨by rw[hR2.out];rfl,hX⟩
theorem containsERow_c(L:List Ve)(v:Value)(w:World)(h:Ew w [] v L):Calls Tryz.prog 63 #[v, .func (.func 111) #[] #[]] w fun e w'=>e= .returned (.bool (!L.all (fun x:Ve=>mayR x.2.1)))∧Ext w w':=by
 have hc:=hide (indexERow_c L v w h)
 have e:=hide (idxP_ge (fun x:Ve=>mayR x.2.1) 0 L)
 generalize idxP (fun x:Ve=>mayR x.2.1) 0 L=z at *
 obtain⟨A,cap,rfl, -, -, -⟩:=ew_form h
 clear h
 go_enter Tryz.func63,Tryz.ntmps63
 go_wp2_with (go_at_call 121;(with_reducible refine seq_gw hc.out ?_);intro g)
 go_returns
 exact⟨by rw[←e.out];first|rfl|simp,g.grown⟩
theorem indexEToo_c(L:List Ve)(v:Value)(w:World)(h:Ew w [] v L):Calls Tryz.prog 121 #[v, .func (.func 112) #[] #[]] w fun e w'=>e= .returned (.int .i64 (idxP (fun x:Ve=> !tooJ x.2.2) 0 L))∧Ext w w':=by
 obtain⟨A,cap,rfl,hl,hm,hat⟩:=ew_form h
 unfold maxLen at hm
 replace hat:=hide hat
 have hrows:=hide h.2
 clear h
 obtain⟨R,hR⟩:∃R,R=idxP (fun x:Ve=> !tooJ x.2.2) 0 L:=⟨_,rfl⟩
 rw[←hR]
 replace hR:=hide hR
 go_enter Tryz.func121,Tryz.ntmps121
 go_wp2_with fail
 go_loopg [8] L.length (fun gh i wr=>∃(k:Nat),i= .int .i64 k∧k+gh=L.length∧Hid (R=idxP (fun x:Ve=> !tooJ x.2.2) k (L.drop k))∧Ext w wr)
 case atStart=>exact⟨0,rfl,by omega,by simpa using hR,Ext.refl w⟩
 case round =>
  obtain⟨k,rfl,hk,hRk,hX⟩:=hrel
  clear hR
  by_cases hlt:k<L.length
  ·obtain⟨x,hx⟩:∃x,L[k]? = some x:=⟨_,List.getElem?_eq_getElem hlt⟩
   obtain⟨b,o,rfl, -,hb,c0,c1,c2⟩:=hat.out k x hx
   have k0:=cell_later hX c0
   have k1:=cell_later hX c1
   have k2:=cell_later hX c2
   have hbr:b<wr.heap.size:=block_lt_of_cell k0
   have hrw:=Sl.ext (hrows.out x (List.mem_of_getElem? hx)) hX
   have hR2:=hRk.out
   rw[drop_cons hx] at hR2
   obtain⟨xv,xq,xa,xn⟩:=x
   simp only at k0 k1 k2 hrw
   have hin:=hide (fun w' (hXw:Ext wr w')=>isTooE_c xq (xa,xn) xv w' (Sl.ext hrw hXw))
   have hX00:=hide (Ext.refl wr)
   obtain⟨XA,xcap,rfl⟩:=rw_val hrw
   clear c0 c1 c2 hat hx hrows hrw
   cases hmx:tooJ (xa,xn)
   ·rw[hmx] at hin
    rw[idxP_yes (p:=(fun x:Ve=> !tooJ x.2.2)) (x:=(.slice XA xq.length xcap,xq,xa,xn)) (by simp only;rw[hmx];rfl)] at hR2
    replace hR2:=hide hR2
    replace hmx:=hide hmx
    go_wp2_with (go_at_call 112;(with_reducible refine seq_gw (hin.out _ hX00.out) ?_);intro g)
    go_roundg (L.length-(k+1))
    case measure=>omega
    case rel=>exact⟨k+1,by go_num,by omega,hR2,hX.trans g.grown⟩
   ·rw[hmx] at hin
    rw[idxP_no (p:=(fun x:Ve=> !tooJ x.2.2)) (x:=(.slice XA xq.length xcap,xq,xa,xn)) (by simp only;rw[hmx];rfl)] at hR2
    replace hR2:=hide hR2
    replace hmx:=hide hmx
    go_wp2_with (go_at_call 112;(with_reducible refine seq_gw (hin.out _ hX00.out) ?_);intro g)
    go_returns
    exact⟨by rw[hR2.out];rfl,hX.trans g.grown⟩
  ·have hk':k=L.length:=by omega
   have hge:(L.length:Int)≤k:=by omega
   have hR2:=hRk.out
   rw[hk',List.drop_length] at hR2
   replace hR2:=hide hR2
   replace hk':=hide hk'
   go_wp2_with fail
   go_returns
   exact⟨by rw[hR2.out];rfl,hX⟩
theorem containsEToo_c(L:List Ve)(v:Value)(w:World)(h:Ew w [] v L):Calls Tryz.prog 63 #[v, .func (.func 112) #[] #[]] w fun e w'=>e= .returned (.bool (!L.all (fun x:Ve=> !tooJ x.2.2)))∧Ext w w':=by
 have hc:=hide (indexEToo_c L v w h)
 have e:=hide (idxP_ge (fun x:Ve=> !tooJ x.2.2) 0 L)
 generalize idxP (fun x:Ve=> !tooJ x.2.2) 0 L=z at *
 obtain⟨A,cap,rfl, -, -, -⟩:=ew_form h
 clear h
 go_enter Tryz.func63,Tryz.ntmps63
 go_wp2_with (go_at_call 121;(with_reducible refine seq_gw hc.out ?_);intro g)
 go_returns
 exact⟨by rw[←e.out];first|rfl|simp,g.grown⟩
theorem indexENow_c(L:List Ve)(v:Value)(w:World)(h:Ew w [] v L):Calls Tryz.prog 121 #[v, .func (.func 113) #[] #[]] w fun e w'=>e= .returned (.int .i64 (idxP (fun x:Ve=> !nowJ x.2.2) 0 L))∧Ext w w':=by
 obtain⟨A,cap,rfl,hl,hm,hat⟩:=ew_form h
 unfold maxLen at hm
 replace hat:=hide hat
 have hrows:=hide h.2
 clear h
 obtain⟨R,hR⟩:∃R,R=idxP (fun x:Ve=> !nowJ x.2.2) 0 L:=⟨_,rfl⟩
 rw[←hR]
 replace hR:=hide hR
 go_enter Tryz.func121,Tryz.ntmps121
 go_wp2_with fail
 go_loopg [8] L.length (fun gh i wr=>∃(k:Nat),i= .int .i64 k∧k+gh=L.length∧Hid (R=idxP (fun x:Ve=> !nowJ x.2.2) k (L.drop k))∧Ext w wr)
 case atStart=>exact⟨0,rfl,by omega,by simpa using hR,Ext.refl w⟩
 case round =>
  obtain⟨k,rfl,hk,hRk,hX⟩:=hrel
  clear hR
  by_cases hlt:k<L.length
  ·obtain⟨x,hx⟩:∃x,L[k]? = some x:=⟨_,List.getElem?_eq_getElem hlt⟩
   obtain⟨b,o,rfl, -,hb,c0,c1,c2⟩:=hat.out k x hx
   have k0:=cell_later hX c0
   have k1:=cell_later hX c1
   have k2:=cell_later hX c2
   have hbr:b<wr.heap.size:=block_lt_of_cell k0
   have hrw:=Sl.ext (hrows.out x (List.mem_of_getElem? hx)) hX
   have hR2:=hRk.out
   rw[drop_cons hx] at hR2
   obtain⟨xv,xq,xa,xn⟩:=x
   simp only at k0 k1 k2 hrw
   have hin:=hide (fun w' (hXw:Ext wr w')=>isNowE_c xq (xa,xn) xv w' (Sl.ext hrw hXw))
   have hX00:=hide (Ext.refl wr)
   obtain⟨XA,xcap,rfl⟩:=rw_val hrw
   clear c0 c1 c2 hat hx hrows hrw
   cases hmx:nowJ (xa,xn)
   ·rw[hmx] at hin
    rw[idxP_yes (p:=(fun x:Ve=> !nowJ x.2.2)) (x:=(.slice XA xq.length xcap,xq,xa,xn)) (by simp only;rw[hmx];rfl)] at hR2
    replace hR2:=hide hR2
    replace hmx:=hide hmx
    go_wp2_with (go_at_call 113;(with_reducible refine seq_gw (hin.out _ hX00.out) ?_);intro g)
    go_roundg (L.length-(k+1))
    case measure=>omega
    case rel=>exact⟨k+1,by go_num,by omega,hR2,hX.trans g.grown⟩
   ·rw[hmx] at hin
    rw[idxP_no (p:=(fun x:Ve=> !nowJ x.2.2)) (x:=(.slice XA xq.length xcap,xq,xa,xn)) (by simp only;rw[hmx];rfl)] at hR2
    replace hR2:=hide hR2
    replace hmx:=hide hmx
    go_wp2_with (go_at_call 113;(with_reducible refine seq_gw (hin.out _ hX00.out) ?_);intro g)
    go_returns
    exact⟨by rw[hR2.out];rfl,hX.trans g.grown⟩
  ·have hk':k=L.length:=by omega
   have hge:(L.length:Int)≤k:=by omega
   have hR2:=hRk.out
   rw[hk',List.drop_length] at hR2
   replace hR2:=hide hR2
   replace hk':=hide hk'
   go_wp2_with fail
   go_returns
   exact⟨by rw[hR2.out];rfl,hX⟩
theorem containsENow_c(L:List Ve)(v:Value)(w:World)(h:Ew w [] v L):Calls Tryz.prog 63 #[v, .func (.func 113) #[] #[]] w fun e w'=>e= .returned (.bool (!L.all (fun x:Ve=> !nowJ x.2.2)))∧Ext w w':=by
 have hc:=hide (indexENow_c L v w h)
 have e:=hide (idxP_ge (fun x:Ve=> !nowJ x.2.2) 0 L)
 generalize idxP (fun x:Ve=> !nowJ x.2.2) 0 L=z at *
 obtain⟨A,cap,rfl, -, -, -⟩:=ew_form h
 clear h
 go_enter Tryz.func63,Tryz.ntmps63
 go_wp2_with (go_at_call 121;(with_reducible refine seq_gw hc.out ?_);intro g)
 go_returns
 exact⟨by rw[←e.out];first|rfl|simp,g.grown⟩
theorem rise_adj:∀ {l:List Ed},(∀e∈l,mayR e.1=true)→(∀(i:Nat) (a b:Ed),l[i]? = some a→l[i+1]? = some b→cmpT a.1 b.1≤0)→l.Pairwise fun a b=>cmpT a.1 b.1≤0
 |[],_,_=>List.Pairwise.nil
 |[a],_,_=>by simp
 |a::b::l,hv,h=>by
  have ih:=rise_adj (l:=b::l) (fun e he=>hv e (List.mem_cons_of_mem _ he)) (fun i x y hx hy=>h (i+1) x y (by simpa using hx) (by simpa using hy))
  have hab:=h 0 a b rfl rfl
  rw[List.pairwise_cons]
  refine⟨fun x hx=>?_,ih⟩
  rcases List.mem_cons.1 hx with rfl|hx
  ·exact hab
  ·have hbx:=(List.pairwise_cons.1 ih).1 x hx
   have:=cmpT_trans a.1 b.1 x.1 (mayR_iff.1 (hv a (by simp))).2 (mayR_iff.1 (hv b (by simp))).2 (mayR_iff.1 (hv x (by simp[hx]))).2 hab hbx
   omega
theorem riseB_true{l:List Ed}(hv:∀e∈l,mayR e.1=true)(h:∀(i:Nat) (a b:Ed),l[i]? = some a→l[i+1]? = some b→cmpT a.1 b.1≤0):riseB l=true:=by
 unfold riseB;rw[decide_eq_true_iff];exact rise_adj hv h
theorem riseB_false{l:List Ed}{i:Nat}{a b:Ed}(ha:l[i]? = some a)(hb:l[i+1]? = some b)(h:0<cmpT a.1 b.1):riseB l=false:=by
 unfold riseB
 rw[decide_eq_false_iff_not]
 intro hp
 have hi:=(List.getElem?_eq_some_iff.1 hb).1
 have:=List.pairwise_iff_getElem.1 hp i (i+1) (by omega) hi (by omega)
 rw[List.getElem?_eq_getElem (by omega)] at ha hb
 rw[Option.some.inj ha,Option.some.inj hb] at this
 omega
theorem isSorted_c(L:List Ve)(hv:∀p∈L,mayR p.2.1=true)(v:Value)(w:World)(h:Ew w [] v L):Calls Tryz.prog 119 #[v, .func (.func 116) #[] #[]] w fun e w'=>e= .returned (.bool (riseB (eds L)))∧Ext w w':=by
 obtain⟨A,cap,rfl,hl,hm,hat⟩:=ew_form h
 unfold maxLen at hm
 replace hat:=hide hat
 have hrows:=hide h.2
 clear h
 obtain⟨R,hR⟩:∃R,R=riseB (eds L):=⟨_,rfl⟩
 rw[←hR]
 have hRt:Hid ((∀(i:Nat) (a b:Ve),L[i]? = some a→L[i+1]? = some b→cmpT a.2.1 b.2.1≤0)→R=true):=fun h=>by
  rw[hR]
  refine riseB_true (fun e he=>?_) fun i a b ha hb=>?_
  ·obtain⟨p,hp,rfl⟩:=List.mem_map.1 he;exact hv p hp
  ·rw[List.getElem?_map] at ha hb
   obtain⟨p,hp,rfl⟩:=Option.map_eq_some_iff.1 ha
   obtain⟨q,hq,rfl⟩:=Option.map_eq_some_iff.1 hb
   exact h i p q hp hq
 have hRf:Hid (∀(i:Nat) (a b:Ve),L[i]? = some a→L[i+1]? = some b→0<cmpT a.2.1 b.2.1→R=false):=fun i a b ha hb h=>by
  rw[hR]
  exact riseB_false (i:=i) (a:=a.2) (b:=b.2) (by rw[List.getElem?_map,ha];rfl) (by rw[List.getElem?_map,hb];rfl) h
 replace hv:=hide hv
 clear hR
 go_enter Tryz.func119,Tryz.ntmps119
 go_wp2_with fail
 go_loopw [5] (fun i wr=>∃k:Int,i= .int .i64 k∧ -1≤k∧k≤(L.length:Int)-1∧Hid (∀(j:Nat) (a b:Ve),k≤j→L[j]? = some a→L[j+1]? = some b→cmpT a.2.1 b.2.1≤0)∧Ext w wr) (fun i _=>(intOf i).toNat)
 case atStart=>exact⟨(L.length:Int)-1,by go_num,by omega,by omega,(fun j a b hj ha hb=>by have:=(List.getElem?_eq_some_iff.1 hb).1;omega),Ext.refl w⟩
 case round =>
  obtain⟨k,rfl,hk1,hk,hall,hX⟩:=hrel
  by_cases hlt:0<k
  ·obtain⟨m,rfl⟩:∃m:Nat,k=(m:Int)+1:=⟨(k-1).toNat,by omega⟩
   obtain⟨x,hx⟩:∃x,L[m+1]? = some x:=⟨_,List.getElem?_eq_getElem (by omega)⟩
   obtain⟨y,hy⟩:∃y,L[m]? = some y:=⟨_,List.getElem?_eq_getElem (by omega)⟩
   obtain⟨b,o,rfl, -,hb,c0,c1,c2⟩:=hat.out (m+1) x hx
   obtain⟨b',o',e', -,hb',d0,d1,d2⟩:=hat.out m y hy
   injection e' with e'
   injection e' with e1 e2
   subst e1;subst e2
   have k0:=cell_later hX c0
   have k1:=cell_later hX c1
   have k2:=cell_later hX c2
   have j0:=cell_later hX d0
   have j1:=cell_later hX d1
   have j2:=cell_later hX d2
   have hbr:b<wr.heap.size:=block_lt_of_cell k0
   have hrx:=Sl.ext (hrows.out x (List.mem_of_getElem? hx)) hX
   have hry:=Sl.ext (hrows.out y (List.mem_of_getElem? hy)) hX
   have hvx:=hv.out x (List.mem_of_getElem? hx)
   have hvy:=hv.out y (List.mem_of_getElem? hy)
   have hno:=hide (hRf.out m y x hy hx)
   have hyes:Hid (cmpT y.2.1 x.2.1≤0→∀(j:Nat) (a b:Ve),(m:Int)≤j→L[j]? = some a→L[j+1]? = some b→cmpT a.2.1 b.2.1≤0):=fun h j a b hj ha hb=>by
    by_cases e:j=m
    ·subst e
     rw[hy] at ha;rw[hx] at hb
     obtain rfl:=Option.some.inj ha
     obtain rfl:=Option.some.inj hb
     exact h
    ·exact hall.out j a b (by omega) ha hb
   have hsw:=cmpT_swap y.2.1 x.2.1
   obtain⟨xv,xq,xa,xn⟩:=x
   obtain⟨yv,yq,ya,yn⟩:=y
   simp only at k0 k1 k2 j0 j1 j2 hvx hvy hno hyes hsw hrx hry
   have hin:=hide (fun w' (hXw:Ext wr w')=>byRow_c xq (xa,xn) xv yq (ya,yn) yv w' (Sl.ext hrx hXw) (Sl.ext hry hXw))
   rw[cmpR_of hvx hvy] at hin
   generalize cmpT yq xq=z at *
   generalize cmpT xq yq=z' at *
   obtain⟨XA,xcap,rfl⟩:=rw_val hrx
   obtain⟨YA,ycap,rfl⟩:=rw_val hry
   clear c0 c1 c2 d0 d1 d2 hat hx hy hrows hrx hry hvx hvy hRt hRf hall
   haveI:In b wr:=⟨hbr⟩
   have hm1:m+1<L.length:=by omega
   by_cases hz:0<z
   ·have hf:=hide (hno.out hz)
    have hz':z'<0:=by omega
    clear hno hyes hsw
    go_wp2_with fail
    refine wp_region_gw (by kernel_rfl) (by kernel_rfl) ?_
    repeat (go_big_quiet_step ((go_at_call 116;with_reducible exact quiet_gw (hin.out _ (GW.grown _)))))
    refine wpQuiet_nil ?_
    intro g
    go_wp2_with fail
    go_returns
    exact⟨by rw[hf.out];rfl,hX.trans g.grown⟩
   ·have hf:=hide (hyes.out (by omega))
    have hz':¬z'<0:=by omega
    clear hno hyes hsw
    go_wp2_with fail
    refine wp_region_gw (by kernel_rfl) (by kernel_rfl) ?_
    repeat (go_big_quiet_step ((go_at_call 116;with_reducible exact quiet_gw (hin.out _ (GW.grown _)))))
    refine wpQuiet_nil ?_
    intro g
    go_wp2_with fail
    go_roundw
    case rel=>exact⟨m,by go_num,by omega,by omega,hf,hX.trans g.grown⟩
    case measure=>first|(simp [intOf];done)|(simp [intOf];omega)
  ·have hf:=hide (hRt.out fun i a b ha hb=>hall.out i a b (by omega) ha hb)
   have hle:k≤0:=by omega
   clear hat hrows hall hRt hRf hv
   go_wp2_with fail
   go_returns
   exact⟨by rw[hf.out];rfl,hX⟩
theorem equalE_c{L M:List Ve}{v u:Value}{w:World}(hl:Ew w [] v L)(hm:Ew w [] u M):Calls Tryz.prog 74 #[v,u, .func (.func 75) #[] #[]] w fun e w'=>e= .returned (.bool (eqP (fun x y:Ve=>decide (x.2=y.2)) L M))∧Ext w w':=by
 obtain⟨A,cap,rfl,hlc,hlm,hat⟩:=ew_form hl
 obtain⟨B,cap2,rfl,hmc,hmm,hbt⟩:=ew_form hm
 unfold maxLen at hlm hmm
 have hrl:=hide hl.2
 have hrm:=hide hm.2
 clear hl hm
 replace hat:=hide hat
 replace hbt:=hide hbt
 obtain⟨R,hR⟩:∃R,R=eqP (fun x y:Ve=>decide (x.2=y.2)) L M:=⟨_,rfl⟩
 rw[←hR]
 by_cases hn:L.length=M.length
 ·replace hR:=hide hR
  obtain⟨n,hln⟩:∃n,n=L.length:=⟨_,rfl⟩
  have hmn:n=M.length:=by omega
  rw[←hln] at hlc ⊢
  rw[←hmn] at hmc ⊢
  have hlI:=hide hln
  have hmI:=hide hmn
  clear hn hln hmn
  go_enter Tryz.func74,Tryz.ntmps74
  go_wp2_with fail
  go_loopg [17] n (fun gh i wr=>∃(k:Nat),i= .int .i64 k∧k+gh=n∧Hid (R=eqP (fun x y:Ve=>decide (x.2=y.2)) (L.drop k) (M.drop k))∧Ext w wr)
  case atStart=>exact⟨0,rfl,by omega,hR,Ext.refl w⟩
  case round =>
   obtain⟨k,rfl,hk,hRk,hX⟩:=hrel
   clear hR
   by_cases hlt:k<n
   ·obtain⟨x,hx⟩:∃x,L[k]? = some x:=⟨_,List.getElem?_eq_getElem (by have:=hlI.out;omega)⟩
    obtain⟨y,hy⟩:∃y,M[k]? = some y:=⟨_,List.getElem?_eq_getElem (by have:=hmI.out;omega)⟩
    obtain⟨b,o,rfl, -,hb,c0,c1,c2⟩:=hat.out k x hx
    obtain⟨b',o',rfl, -,hb',d0,d1,d2⟩:=hbt.out k y hy
    have k0:=cell_later hX c0
    have k1:=cell_later hX c1
    have k2:=cell_later hX c2
    have j0:=cell_later hX d0
    have j1:=cell_later hX d1
    have j2:=cell_later hX d2
    have hbr:b<wr.heap.size:=block_lt_of_cell k0
    have hbr':b'<wr.heap.size:=block_lt_of_cell j0
    have hrx:=Sl.ext (hrl.out x (List.mem_of_getElem? hx)) hX
    have hry:=Sl.ext (hrm.out y (List.mem_of_getElem? hy)) hX
    have hR2:=hRk.out
    rw[drop_cons hx,drop_cons hy] at hR2
    obtain⟨xv,xq,xa,xn⟩:=x
    obtain⟨yv,yq,ya,yn⟩:=y
    simp only at k0 k1 k2 j0 j1 j2 hrx hry
    have hq:=hide (fun w' (hXw:Ext wr w')=>esame_c xq (xa,xn) xv yq (ya,yn) yv w' (Sl.ext hrx hXw) (Sl.ext hry hXw))
    obtain⟨XA,xcap,rfl⟩:=rw_val hrx
    obtain⟨YA,ycap,rfl⟩:=rw_val hry
    have hX1:=hide (((Ext.refl wr).alloc (.cells #[.slice XA xq.length xcap, .int .i64 xa, .int .i64 xn] 131)).alloc (.cells #[.slice YA yq.length ycap, .int .i64 ya, .int .i64 yn] 131))
    clear c0 c1 c2 d0 d1 d2 hat hbt hx hy hlI hmI hRk hrx hry hrl hrm
    by_cases hp:(xq,(xa,xn))=(yq,(ya,yn))
    ·rw[eqP_yes (p:=(fun x y:Ve=>decide (x.2=y.2))) (x:=(.slice XA xq.length xcap,xq,xa,xn)) (y:=(.slice YA yq.length ycap,yq,ya,yn)) (decide_eq_true hp)] at hR2
     rw[decide_eq_true hp] at hq
     replace hR2:=hide hR2
     replace hp:=hide hp
     go_wp2_with (go_at_call 75;(with_reducible refine seq_gw (hq.out _ hX1.out) ?_);intro g)
     go_roundg (n-(k+1))
     case measure=>omega
     case rel=>exact⟨k+1,by go_num,by omega,hR2,(hX.trans hX1.out).trans g.grown⟩
    ·rw[eqP_no (p:=(fun x y:Ve=>decide (x.2=y.2))) (x:=(.slice XA xq.length xcap,xq,xa,xn)) (y:=(.slice YA yq.length ycap,yq,ya,yn)) (decide_eq_false hp)] at hR2
     rw[decide_eq_false hp] at hq
     replace hR2:=hide hR2
     replace hp:=hide hp
     go_wp2_with (go_at_call 75;(with_reducible refine seq_gw (hq.out _ hX1.out) ?_);intro g)
     go_returns
     exact⟨by rw[hR2.out];rfl,(hX.trans hX1.out).trans g.grown⟩
   ·have hk':k=n:=by omega
    have hge:(n:Int)≤k:=by omega
    have hR2:=hRk.out
    rw[List.drop_eq_nil_of_le (by have:=hlI.out;omega),List.drop_eq_nil_of_le (by have:=hmI.out;omega)] at hR2
    replace hR2:R=true:=hR2
    replace hR2:=hide hR2
    replace hk':=hide hk'
    go_wp2_with fail
    go_returns
    exact⟨by rw[hR2.out];rfl,hX⟩
 ·have hR2:=hR.trans (eqP_len hn)
  replace hR2:=hide hR2
  have hnI:¬(L.length:Int)=M.length:=by omega
  clear hR hn
  go_enter Tryz.func74,Tryz.ntmps74
  go_wp2_with fail
  go_returns
  exact⟨by rw[hR2.out];rfl,Ext.refl w⟩
theorem eqP_eds:∀L M:List Ve,eqP (fun x y:Ve=>decide (x.2=y.2)) L M=decide (eds L=eds M)
 |[],[]=>rfl
 |[],_::_=>by simp[eqP]
 |_::_,[]=>by simp[eqP]
 |x::a,y::b=>by
  show (decide (x.2=y.2) && eqP (fun x y:Ve=>decide (x.2=y.2)) a b)=_
  rw[eqP_eds a b]
  simp
theorem edgeSame_c{L M:List Ve}{v u:Value}{w:World}(hl:Ew w [] v L)(hm:Ew w [] u M):Calls Tryz.prog 34 #[v,u] w fun e w'=>e= .returned (.bool (decide (eds L=eds M)))∧Ext w w':=by
 have hc:=hide (equalE_c hl hm)
 rw[eqP_eds] at hc
 generalize decide (eds L=eds M)=b at *
 obtain⟨A,cap,rfl, -, -, -⟩:=ew_form hl
 obtain⟨B,cap2,rfl, -, -, -⟩:=ew_form hm
 clear hl hm
 go_enter Tryz.func34,Tryz.ntmps34
 go_wp2_with (go_at_call 74;(with_reducible refine seq_gw hc.out ?_);intro g)
 go_returns
 exact⟨rfl,g.grown⟩
abbrev OwnE(w:World)(base:Nat)(v:Value)(L:List Ve):Prop:=w.ownsRow base 131 3 v L.length (ec L)
theorem tEdg:ElemT Tryz.prog 69 131 (.agg #[.slice none 0 0, .int .i64 0, .int .i64 0]) 3 40:=ElemT.mk' Tryz.underlying69 (by kernel_rfl) rfl (by omega)
theorem own_appE{w:World}{B:Nat}{v:Value}{L M:List Ve}(h:w.ownsRow B 131 3 v (L.length+M.length) (ec L++ec M)):OwnE w B v (L++M):=by
 unfold OwnE;rw[List.length_append,ec_append];exact h
theorem edgClone_c(L:List Ve)(v:Value)(w:World)(h:Ew w [] v L)(hz:L.length*40≤140737488351232):Calls Tryz.prog 114 #[v] w fun e w'=>∃v',e= .returned v'∧OwnE w' w.heap.size v' L∧Ext w w':=by
 obtain⟨A,cap,rfl,hl,hm, -⟩:=ew_form h
 have hq:=fun w=>Lib.run_eql_slice_nil (P:=Tryz.prog) w 69 131 A L.length cap 0 0 Tryz.underlying69
 cases A with
 |none =>
  have hl0:L=[]:=by
   obtain⟨A',cap',e,_,_,h3,h4⟩:=h.1
   rcases h4 with h4|⟨b,o,rfl,_⟩
   ·have:=congrArg List.length h4;rw[ec_length] at this;exact List.eq_nil_of_length_eq_zero (by simp at this;omega)
   ·cases e
  subst hl0
  clear h hq
  have hq0:=fun w=>Lib.run_eql_slice_nil (P:=Tryz.prog) w 69 131 none 0 cap 0 0 Tryz.underlying69
  show Calls Tryz.prog 114 #[.slice none 0 cap] w fun e w'=>∃v',e= .returned v'∧OwnE w' w.heap.size v' []∧Ext w w'
  go_enter Tryz.func114,Tryz.ntmps114
  go_wp2_with fail
  go_returns
  exact⟨_,rfl,World.ownsRow_nil _ _ _ _,Ext.refl w⟩
 |some a =>
  have hlit:=hide (World.ownsRow_lit (base:=w.heap.size) (e:=131) (size:=3) w #[] 0 (Nat.le_refl _) (by decide) rfl)
  have hv:=hide h
  clear h
  go_enter Tryz.func114,Tryz.ntmps114
  go_wp2_with (at_builtin;(refine wpl_app tEdg rfl (.tmp 5) (.tmp 6) rfl rfl hlit.out rfl (src_sl Tryz.underlying69 (Sl.ext hv.out.1 ((Ext.refl w).alloc _)) (Ew.one hv.out) (by omega)) (by unfold maxLen;omega) (by omega) (by simp) ?_;intro v1 w1 ho1 hg1 _))
  go_returns
  have ho2:OwnE w1 w.heap.size v1 L:=by have:=own_appE (L:=[]) ho1;simpa using this
  exact⟨_,rfl,ho2,ext_grown ((Ext.refl w).alloc _) hg1 (fun k hk=>(hlit.out.lt k hk).1)⟩
theorem functions_c(A:Option Addr)(n cap:Nat)(w:World):Calls Tryz.prog 120 #[.slice A n cap] w fun e w'=>∃b,e= .returned (.func (.func 173) #[] #[.pointer (some ⟨b,0,none⟩)])∧Ob w' b 69 [.slice A n cap]∧w.heap.size≤b∧Ext w w':=by
 go_enter Tryz.func120,Tryz.ntmps120
 go_wp2_with fail
 go_returns
 exact⟨_,rfl,Ob.new w _ [.slice A n cap],Nat.le_refl _,(Ext.refl w).alloc _⟩
end Go.Proofs.YtajelkkiijdegaaGreat
