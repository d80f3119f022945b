/-
  A helper of ours: no claim of its own. Layer 7 (schema): the first column of a name, by the code and by the document.
-/
import Derived.Test.YtajelkkiijdegaaGreatSchS
import Derived.Test.YtajelkkiijdegaaGreatRows
import Derived.Handy
import Derived.Deep.LoopGhost
import Derived.Lib.IndexBytes
import Derived.WalkSpells
import Derived.Lib.ConvBytes
import Derived.Test.YtajelkkiijdegaaGreatValB
import Derived.Test.YtajelkkiijdegaaGreatEdgA
import Derived.Test.YtajelkkiijdegaaGreatStepR
set_option linter.unusedVariables false
set_option linter.unusedSimpArgs false
set_option linter.unusedSectionVars false
set_option maxHeartbeats 64000000
set_option maxRecDepth 100000
namespace Go.Proofs.YtajelkkiijdegaaGreat
open Go.RowKit
attribute [local go_sem] GW.cell GW.frozen In.eq_true In.le_true In.ne In.ne' In.ne_add In.ne_add' In.lt_add Upto.le_true Upto.le_add Upto.lt_add
theorem nm_len(s:ByteArray):s.data.toList.length=s.size:=by rw[Array.length_toList];rfl
theorem nm_empty(s:ByteArray):s.toList.isEmpty=decide (s.size=0):=by
 rw[Lib.toList_data,Bool.eq_iff_iff,List.isEmpty_iff,decide_eq_true_iff,←List.length_eq_zero_iff,Array.length_toList]
 exact Iff.rfl
theorem nm_at{s:ByteArray}{k:Nat}(h:k<s.size):s.data.toList[k]? = some s[k]:=by
 rw[List.getElem?_eq_getElem (by rw[nm_len];exact h)];rfl
theorem name_empty{s:ByteArray}(h:s.size=0):nameB s=false:=by unfold nameB;rw[h];rfl
theorem name_long{s:ByteArray}(h:16<s.size):nameB s=false:=by
 unfold nameB;rw[decide_eq_false (by omega),Bool.false_and]
theorem name_first{s:ByteArray}(h:0<s.size)(h1:letB s[0]=false):nameB s=false:=by
 have e:=nm_at h
 unfold nameB
 rw[List.head?_eq_getElem?,e,Option.any_some,h1,Bool.false_and,Bool.and_false]
theorem name_bad{s:ByteArray}{k:Nat}(h:k<s.size)(h1:letB s[k]=false)(h2:digB s[k]=false):nameB s=false:=by
 have hm:=List.mem_of_getElem? (nm_at h)
 have:(s.data.toList.all fun c=>letB c || digB c)=false:=by
  rw[←Bool.not_eq_true,List.all_eq_true]
  intro ha
  have:=ha _ hm
  rw[h1,h2] at this
  cases this
 unfold nameB
 rw[this,Bool.false_and,Bool.and_false,Bool.and_false]
theorem name_end{s:ByteArray}(h0:0<s.size)(h16:s.size≤16)(h1:letB s[0]=true)(ha:∀(j:Nat) (hj:j<s.size),(letB s[j] || digB s[j])=true):nameB s= !opB s:=by
 have:(s.data.toList.all fun c=>letB c || digB c)=true:=by
  rw[List.all_eq_true]
  intro c hc
  obtain⟨j,hj⟩:=List.getElem?_of_mem hc
  have hjs:j<s.size:=by rw[←nm_len];exact (List.getElem?_eq_some_iff.1 hj).1
  rw[nm_at hjs] at hj
  obtain rfl:=Option.some.inj hj
  exact ha j hjs
 unfold nameB
 rw[this,List.head?_eq_getElem?,nm_at h0,Option.any_some,h1,decide_eq_true ⟨by omega,h16⟩]
 rfl
theorem letB_true{c:UInt8}:letB c=true↔97≤c.toNat∧c.toNat≤122:=by unfold letB;rw[decide_eq_true_iff]
theorem digB_true{c:UInt8}:digB c=true↔48≤c.toNat∧c.toNat≤57:=by unfold digB;rw[decide_eq_true_iff]
theorem letB_false{c:UInt8}:letB c=false↔c.toNat<97∨122<c.toNat:=by rw[←Bool.not_eq_true,letB_true];omega
theorem digB_false{c:UInt8}:digB c=false↔c.toNat<48∨57<c.toNat:=by rw[←Bool.not_eq_true,digB_true];omega
theorem isLetter_c(c:UInt8)(w:World):Calls Tryz.prog 191 #[.int .u8 c.toNat] w fun e w'=>e= .returned (.bool (letB c))∧Ext w w':=by
 obtain⟨R,hR⟩:∃R,R=letB c:=⟨_,rfl⟩
 rw[←hR]
 by_cases h1:97≤c.toNat
 ·by_cases h2:c.toNat≤122
  ·replace hR:=hide (hR.trans (letB_true.2 ⟨h1,h2⟩))
   go_enter Tryz.func191,Tryz.ntmps191
   go_wp2_with fail
   go_returns
   exact⟨by rw[hR.out];first|rfl|(simp;omega),Ext.refl w⟩
  ·replace hR:=hide (hR.trans (letB_false.2 (.inr (by omega))))
   replace h2:122<c.toNat:=by omega
   go_enter Tryz.func191,Tryz.ntmps191
   go_wp2_with fail
   go_returns
   exact⟨by rw[hR.out];first|rfl|(simp;omega),Ext.refl w⟩
 ·replace hR:=hide (hR.trans (letB_false.2 (.inl (by omega))))
  replace h1:c.toNat<97:=by omega
  go_enter Tryz.func191,Tryz.ntmps191
  go_wp2_with fail
  go_returns
  exact⟨by rw[hR.out];first|rfl|(simp;omega),Ext.refl w⟩
theorem isDigit_c(c:UInt8)(w:World):Calls Tryz.prog 192 #[.int .u8 c.toNat] w fun e w'=>e= .returned (.bool (digB c))∧Ext w w':=by
 obtain⟨R,hR⟩:∃R,R=digB c:=⟨_,rfl⟩
 rw[←hR]
 by_cases h1:48≤c.toNat
 ·by_cases h2:c.toNat≤57
  ·replace hR:=hide (hR.trans (digB_true.2 ⟨h1,h2⟩))
   go_enter Tryz.func192,Tryz.ntmps192
   go_wp2_with fail
   go_returns
   exact⟨by rw[hR.out];first|rfl|(simp;omega),Ext.refl w⟩
  ·replace hR:=hide (hR.trans (digB_false.2 (.inr (by omega))))
   replace h2:57<c.toNat:=by omega
   go_enter Tryz.func192,Tryz.ntmps192
   go_wp2_with fail
   go_returns
   exact⟨by rw[hR.out];first|rfl|(simp;omega),Ext.refl w⟩
 ·replace hR:=hide (hR.trans (digB_false.2 (.inl (by omega))))
  replace h1:c.toNat<48:=by omega
  go_enter Tryz.func192,Tryz.ntmps192
  go_wp2_with fail
  go_returns
  exact⟨by rw[hR.out];first|rfl|(simp;omega),Ext.refl w⟩
theorem op_cases(s:ByteArray):(s.toList=[97,110,100]∧opB s=true)∨(¬s.toList=[97,110,100]∧s.toList=[111,114]∧opB s=true)∨(¬s.toList=[97,110,100]∧¬s.toList=[111,114]∧s.toList=[110,111,116]∧opB s=true) ∨
 (¬s.toList=[97,110,100]∧¬s.toList=[111,114]∧¬s.toList=[110,111,116]∧s.toList=[108,101,110]∧opB s=true)∨(¬s.toList=[97,110,100]∧¬s.toList=[111,114]∧¬s.toList=[110,111,116]∧¬s.toList=[108,101,110]∧opB s=false):=by
 rw[Lib.toList_data]
 unfold opB
 by_cases h1:s.data.toList=[97,110,100]
 ·left;exact⟨h1,by simp[h1]⟩
 by_cases h2:s.data.toList=[111,114]
 ·right;left;exact⟨h1,h2,by simp[h2]⟩
 by_cases h3:s.data.toList=[110,111,116]
 ·right;right;left;exact⟨h1,h2,h3,by simp[h3]⟩
 by_cases h4:s.data.toList=[108,101,110]
 ·right;right;right;left;exact⟨h1,h2,h3,h4,by simp[h4]⟩
 ·right;right;right;right;exact⟨h1,h2,h3,h4,by rw[decide_eq_false_iff_not];simp[h1,h2,h3,h4]⟩
theorem beqT{l m:List UInt8}(h:l=m):(l == m)=true:=by rw[h];exact beq_self_eq_true m
theorem beqF{l m:List UInt8}(h:¬l=m):(l == m)=false:=beq_eq_false_iff_ne.2 h
theorem isOperator_c(s:ByteArray)(w:World):Calls Tryz.prog 193 #[.string s] w fun e w'=>e= .returned (.bool (opB s))∧Ext w w':=by
 obtain⟨R,hR⟩:∃R,R=opB s:=⟨_,rfl⟩
 rw[←hR]
 rcases op_cases s with ⟨h1,h⟩|⟨h1,h2,h⟩|⟨h1,h2,h3,h⟩|⟨h1,h2,h3,h4,h⟩|⟨h1,h2,h3,h4,h⟩
 ·replace hR:=hide (hR.trans h)
  replace h1:=beqT h1
  clear h
  go_enter Tryz.func193,Tryz.ntmps193
  go_wp2_with fail
  go_returns
  exact⟨by rw[hR.out];rfl,Ext.refl w⟩
 ·replace hR:=hide (hR.trans h)
  replace h1:=beqF h1
  replace h2:=beqT h2
  clear h
  go_enter Tryz.func193,Tryz.ntmps193
  go_wp2_with fail
  go_returns
  exact⟨by rw[hR.out];rfl,Ext.refl w⟩
 ·replace hR:=hide (hR.trans h)
  replace h1:=beqF h1
  replace h2:=beqF h2
  replace h3:=beqT h3
  clear h
  go_enter Tryz.func193,Tryz.ntmps193
  go_wp2_with fail
  go_returns
  exact⟨by rw[hR.out];rfl,Ext.refl w⟩
 ·replace hR:=hide (hR.trans h)
  replace h1:=beqF h1
  replace h2:=beqF h2
  replace h3:=beqF h3
  replace h4:=beqT h4
  clear h
  go_enter Tryz.func193,Tryz.ntmps193
  go_wp2_with fail
  go_returns
  exact⟨by rw[hR.out];rfl,Ext.refl w⟩
 ·replace hR:=hide (hR.trans h)
  replace h1:=beqF h1
  replace h2:=beqF h2
  replace h3:=beqF h3
  replace h4:=beqF h4
  clear h
  go_enter Tryz.func193,Tryz.ntmps193
  go_wp2_with fail
  go_returns
  exact⟨by rw[hR.out];rfl,Ext.refl w⟩
theorem name_c(s:ByteArray)(w:World):Calls Tryz.prog 139 #[.string s] w fun e w'=>e= .returned (.bool (nameB s))∧Ext w w':=by
 obtain⟨R,hR⟩:∃R,R=nameB s:=⟨_,rfl⟩
 rw[←hR]
 by_cases h0:s.size=0
 ·replace hR:=hide (hR.trans (name_empty h0))
  have nE:s.toList=[]:=by rw[Lib.toList_data];exact List.eq_nil_of_length_eq_zero ((nm_len s).trans h0)
  replace h0:=hide h0
  go_enter Tryz.func139,Tryz.ntmps139
  go_wp2_with fail
  go_returns
  exact⟨by rw[hR.out];rfl,Ext.refl w⟩
 have nE:s.toList.isEmpty=false:=by rw[nm_empty,decide_eq_false h0]
 have hpos:0<s.size:=by omega
 clear h0
 by_cases h16:16<s.size
 ·replace hR:=hide (hR.trans (name_long h16))
  have h16I:(16:Int)<s.size:=by omega
  go_enter Tryz.func139,Tryz.ntmps139
  go_wp2_with fail
  go_returns
  exact⟨by rw[hR.out];rfl,Ext.refl w⟩
 have h16':s.size≤16:=by omega
 have h16I:(s.size:Int)≤16:=by omega
 clear h16
 cases hL:letB s[0]
 ·have hq:=hide (fun w=>isLetter_c s[0] w)
  rw[hL] at hq
  replace hR:=hide (hR.trans (name_first hpos hL))
  clear hL
  go_enter Tryz.func139,Tryz.ntmps139
  go_wp2_with (go_at_call 191;(with_reducible refine seq_gw (hq.out _) ?_);intro g)
  go_returns
  exact⟨by rw[hR.out];rfl,g.grown⟩
 have hq:=hide (fun w=>isLetter_c s[0] w)
 rw[hL] at hq
 replace hL:=hide hL
 have ho:=hide (fun w=>isOperator_c s w)
 have hR1:Hid (∀(k:Nat) (hk:k<s.size),letB s[k]=false→digB s[k]=false→R=false):=fun k hk h1 h2=>hR.trans (name_bad hk h1 h2)
 have hR2:Hid ((∀(j:Nat) (hj:j<s.size),(letB s[j] || digB s[j])=true)→R= !opB s):=fun ha=>hR.trans (name_end hpos h16' hL.out ha)
 generalize opB s=op at *
 clear hR hL
 go_enter Tryz.func139,Tryz.ntmps139
 go_wp2_with (go_at_call 191;(with_reducible refine seq_gw (hq.out _) ?_);intro g)
 clear hq
 go_loopg [19] s.size (fun gh i wr=>∃(k:Nat),i= .int .i64 k∧k+gh=s.size∧Hid (∀(j:Nat) (hj:j<s.size),j<k→(letB s[j] || digB s[j])=true)∧Ext w wr)
 case atStart=>exact⟨0,rfl,by omega,fun j hj h=>absurd h (by omega),g.grown⟩
 case round =>
  obtain⟨k,rfl,hk,hD,hX⟩:=hrel
  clear g
  by_cases hlt:k<s.size
  ·have hl:=hide (fun w=>isLetter_c s[k] w)
   have hd:=hide (fun w=>isDigit_c s[k] w)
   have hb:=hide (hR1.out k hlt)
   have hstep:Hid ((letB s[k] || digB s[k])=true→∀(j:Nat) (hj:j<s.size),j<k+1→(letB s[j] || digB s[j])=true):=fun h j hj hjk=>by
    rcases (by omega:j<k∨j=k) with h'|rfl
    ·exact hD.out j hj h'
    ·exact h
   generalize letB s[k]=lb at *
   generalize digB s[k]=db at *
   cases lb
   ·cases db
    ·replace hb:=hide (hb.out rfl rfl)
     clear hstep
     go_wp2_with (first|(go_at_call 191;(with_reducible refine seq_gw (hl.out _) ?_);intro g)|(go_at_call 192;(with_reducible refine seq_gw' (hd.out _) ?_);intro g2))
     go_returns
     exact⟨by rw[hb.out];rfl,hX.trans g2.grown⟩
    ·replace hstep:=hide (hstep.out rfl)
     clear hb
     go_wp2_with (first|(go_at_call 191;(with_reducible refine seq_gw (hl.out _) ?_);intro g)|(go_at_call 192;(with_reducible refine seq_gw' (hd.out _) ?_);intro g2))
     go_roundg (s.size-(k+1))
     case measure=>omega
     case rel=>exact⟨k+1,by go_num,by omega,hstep,hX.trans g2.grown⟩
   ·replace hstep:=hide (hstep.out rfl)
    clear hb hd
    go_wp2_with (go_at_call 191;(with_reducible refine seq_gw (hl.out _) ?_);intro g)
    go_roundg (s.size-(k+1))
    case measure=>omega
    case rel=>exact⟨k+1,by go_num,by omega,hstep,hX.trans g.grown⟩
  ·have hk':k=s.size:=by omega
   have hge:(s.size:Int)≤k:=by omega
   have hR3:=hide (hR2.out fun j hj=>hD.out j hj (by omega))
   replace hk':=hide hk'
   clear hlt
   go_wp2_with (go_at_call 193;(with_reducible refine seq_gw (ho.out _) ?_);intro g)
   go_returns
   exact⟨by rw[hR3.out];first|rfl|simp,hX.trans g.grown⟩
end Go.Proofs.YtajelkkiijdegaaGreat
namespace Go.Proofs.YtajelkkiijdegaaGreat
open Go.RowKit
attribute [local go_sem] GW.cell GW.frozen In.eq_true In.le_true In.ne In.ne' In.ne_add In.ne_add' In.lt_add Upto.le_true Upto.le_add Upto.lt_add Oper.semAt_some wide_depth wide_fn
def cc(a:Cl):List Value:=[.string a.1, .int .i64 a.2]
def cl(l:List Cl):List Value:=l.flatMap cc
theorem cl_length(l:List Cl):(cl l).length=l.length*2:=by
 induction l with
 |nil=>rfl
 |cons p r ih=>simp only[cl,cc,List.flatMap_cons,List.length_append,List.length_cons,List.length_nil] at ih ⊢;omega
theorem cl_get:∀(l:List Cl) (i:Nat) (a:Cl),l[i]? = some a→∀j v,(cc a)[j]? = some v→(cl l)[i*2+j]? = some v
 |q::r,0,a,h,j,v,hv=>by
  simp at h;subst h
  have hj:j<(cc q).length:=(List.getElem?_eq_some_iff.1 hv).1
  simp only[cl,List.flatMap_cons]
  rw[List.getElem?_append_left (by omega),show 0*2+j=j by omega];exact hv
 |q::r,i+1,a,h,j,v,hv=>by
  have:=cl_get r i a (by simpa using h) j v hv
  rw[show (i+1)*2+j=i*2+j+1+1 by omega]
  simpa [cl,cc] using this
abbrev Cw(w:World)(S:List Nat)(v:Value)(l:List Cl):Prop:=Sl w S 2 v l.length (cl l)
theorem cw_form{w:World}{S:List Nat}{v:Value}{l:List Cl}(h:Cw w S v l):∃A cap,v= .slice A l.length cap∧l.length≤cap∧cap≤maxLen ∧
 ∀(i:Nat) (x:Cl),l[i]? = some x→∃b o,A=some ⟨b,o,none⟩∧b∉S∧b<w.heap.size∧w.cell? ⟨b,o+i*2,none⟩=some (.string x.1)∧w.cell? ⟨b,o+i*2+1,none⟩=some (.int .i64 x.2):=by
 obtain⟨A,cap,rfl,h1,h2,h3,h4⟩:=h
 refine⟨A,cap,rfl,h1,h2,fun i x hx=>?_⟩
 have hg:=cl_get l i x hx
 rcases h4 with h4|⟨b,o,rfl,hb,hc⟩
 ·have:=hg 0 _ rfl;rw[h4] at this;cases this
 ·have c0:=hc _ _ (hg 0 _ rfl)
  have c1:=hc _ _ (hg 1 _ rfl)
  exact⟨b,o,rfl,hb,block_lt_of_cell c0,c0,c1⟩
theorem names_c(A:Option Addr)(n cap:Nat)(w:World):Calls Tryz.prog 140 #[.slice A n cap] w fun e w'=>∃b,e= .returned (.func (.func 194) #[] #[.pointer (some ⟨b,0,none⟩)])∧Ob w' b 23 [.slice A n cap]∧w.heap.size≤b∧Ext w w':=by
 go_enter Tryz.func140,Tryz.ntmps140
 go_wp2_with fail
 go_returns
 exact⟨_,rfl,Ob.new w _ [.slice A n cap],Nat.le_refl _,(Ext.refl w).alloc _⟩
theorem names_seq(l:List Cl)(v:Value)(w0 w:World)(b:Nat)(hC:Cw w0 [] v l)(hX:Ext w0 w)(hb:Ob w b 23 [v]) :
 Seqs Tryz.prog w0.heap.size 194 #[.pointer (some ⟨b,0,none⟩)] (fun (x:Cl×Nat) vs _=>vs= #[.int .i64 x.2, .string x.1.1]) l.zipIdx w:=by
 intro L J Jx W hW hJ hJx hY h0
 obtain⟨A,cap,rfl,hlc,hlm,hat⟩:=cw_form hC
 unfold maxLen at hlm
 replace hat:=hide hat
 have q0:=(hb.ext hW).cell 0 rfl
 have hz0:=hX.size
 have hz1:=hW.size
 replace hW:=hide (hX.trans hW)
 have hJ':=hide hJ
 have hY':=hide hY
 clear hJ hY hb hC hX
 refine (callsIn_wide (n:=1)).1 ?_
 refine callsIn_of_wp Tryz.func194 rfl trivial ?_ rfl
 simp only[Tryz.ntmps194,List.size_toArray,List.length_cons,List.length_nil,Nat.reduceAdd,Nat.reduceSub,Array.replicate_succ,Array.replicate_zero,List.push_toArray,List.append_toArray,List.nil_append,List.cons_append]
 gi_wp2
 gi_loopw [7] (fun i wr=>∃k:Nat,i= .int .i64 k∧k≤l.length∧Hid (J k wr)∧Below w0.heap.size W wr) (fun i _=>l.length-(intOf i).toNat)
 case atStart=>exact⟨0,rfl,Nat.zero_le _,h0,Below.refl _ _⟩
 case round =>
  obtain⟨k,rfl,hk,hJk,hB⟩:=hrel
  by_cases hlt:k<l.length
  ·obtain⟨x,hx⟩:∃x,l[k]? = some x:=⟨_,List.getElem?_eq_getElem hlt⟩
   obtain⟨b',o',rfl, -,hb',c0,c1⟩:=hat.out k x hx
   have k0:=(hB.cell (p:=⟨b',o'+k*2,none⟩) hb').trans (cell_later hW.out c0)
   have k1:=(hB.cell (p:=⟨b',o'+k*2+1,none⟩) hb').trans (cell_later hW.out c1)
   have hbr:b'<wr.heap.size:=block_lt_of_cell k0
   obtain⟨xn,xk⟩:=x
   obtain⟨fn,tmps,assign,body,hy,hR⟩:=hY'.out k ((xn,xk),k) #[.int .i64 k, .string xn] (wr.alloc (.cells #[.string xn, .int .i64 xk] 87)) (by rw[List.getElem?_zipIdx,hx];simp) (hJ'.out _ _ _ hJk.out ((Ext.refl wr).alloc _)) rfl
   have hzB:=hB.size
   replace hR:=hide hR
   clear c0 c1 hat hx q0
   gi_wp2
   refine hR.out.mono ?_
   rintro e W3 (⟨rfl,hJ3,hk3⟩|⟨rfl,hJx3⟩)
   ·replace hJ3:=hide hJ3
    replace hk3:=hide hk3
    gi_wp2
    go_roundw
    case rel=>exact⟨k+1,by go_num,by omega,hJ3,hB.trans ((Below.alloc (Below.refl _ _) (by omega) _).trans hk3.out)⟩
    case measure=>simp[intOf];omega
   ·replace hJx3:=hide hJx3
    gi_wp2
    refine bodyPost_ret (results_none rfl _ _ _) rfl ?_
    exact⟨⟨_,rfl⟩, .inr ⟨k+1,by rw[List.length_zipIdx];omega,hJx3.out⟩⟩
  ·have hk':k=l.length:=by omega
   have hge:(l.length:Int)≤k:=by omega
   have hJe:Hid (J l.zipIdx.length wr):=by show J _ wr;rw[List.length_zipIdx,←hk'];exact hJk.out
   replace hk':=hide hk'
   clear q0
   gi_wp2
   go_end0
   exact⟨⟨_,rfl⟩, .inl hJe.out⟩
theorem str_ne{s t:ByteArray}(h:¬s=t):(s.toList == t.toList)=false:=by rw[beq_eq_false_iff_ne];exact fun e=>h (toList_iff.1 e)
theorem index1_c(s n:ByteArray)(b:Nat)(w:World)(hb:Ob w b 9 [.string n]):Calls Tryz.prog 196 #[.string s, .pointer (some ⟨b,0,none⟩)] w fun e w'=>e= .returned (.bool (decide (s=n)))∧Ext w w':=by
 have q0:=hb.cell 0 rfl
 clear hb
 by_cases h:s=n
 ·subst h
  rw[decide_eq_true rfl]
  go_enter Tryz.func196,Tryz.ntmps196
  go_wp2_with fail
  go_returns
  exact⟨by first|rfl|simp,Ext.refl w⟩
 ·rw[decide_eq_false h]
  have h2:=str_ne h
  clear h
  go_enter Tryz.func196,Tryz.ntmps196
  go_wp2_with fail
  go_returns
  exact⟨by first|rfl|simp[h2],Ext.refl w⟩
theorem schFirst_c(l:List Cl)(n:ByteArray)(v:Value)(w:World)(hC:Cw w [] v l)(bn:Nat)(hn:Ob w bn 9 [.string n]):Calls Tryz.prog 195 #[v, .func (.func 196) #[] #[.pointer (some ⟨bn,0,none⟩)]] w fun e w'=>e= .returned (.int .i64 (ixC l n))∧Ext w w':=by
 obtain⟨A,cap,rfl,hlc,hlm, -⟩:=cw_form hC
 unfold maxLen at hlm
 refine calls_marks Tryz.func195 rfl ?_
 simp only[Tryz.ntmps195,List.size_toArray,List.length_cons,List.length_nil,Nat.reduceAdd,Nat.reduceSub,Array.replicate_succ,Array.replicate_zero,List.push_toArray,List.append_toArray,List.nil_append,List.cons_append]
 obtain⟨Wb,hWb⟩:∃Wb,Wb=(w.alloc (.cells #[.func (.func 196) #[] #[.pointer (some ⟨bn,0,none⟩)]] 155)).alloc (.cells #[.int .i64 0] 3):=⟨_,rfl⟩
 have hX0:Ext w Wb:=by rw[hWb];exact ((Ext.refl w).alloc _).alloc _
 have ob0:Ob Wb w.heap.size 155 [.func (.func 196) #[] #[.pointer (some ⟨bn,0,none⟩)]]:=by rw[hWb];exact (Ob.new w _ [.func (.func 196) #[] #[.pointer (some ⟨bn,0,none⟩)]]).alloc _
 have ob1:Ob Wb (w.heap.size+1) 3 [.int .i64 0]:=by rw[hWb];have:=Ob.new (w.alloc (.cells #[.func (.func 196) #[] #[.pointer (some ⟨bn,0,none⟩)]] 155)) 3 [.int .i64 0];rwa [World.size_alloc] at this
 have hWs:Wb.heap.size=w.heap.size+2:=by rw[hWb];simp
 replace hX0:=hide hX0
 replace hC:=hide hC
 go_wp2_with (go_at_call 140;refine (names_c _ _ _ _).mono ?_;rintro ee w1 ⟨b,rfl,hb,hle,hX1⟩)
 rw[←hWb] at hle hX1
 clear hWb
 have hX2:=hide (hX0.out.trans hX1)
 have hz2:=hX2.out.size
 have hz1:=hX1.size
 refine wp_range (xs:=l.zipIdx) rfl (enters_of Tryz.func194 (by kernel_rfl) rfl) (names_seq l _ w w1 b hC.out hX2.out hb) (Ext.refl _) hX2.out.size (by rintro x vs W rfl;rfl) (fun x vs=>Stab.pure _)
  (fun k W=>(Ob W w.heap.size 155 [.func (.func 196) #[] #[.pointer (some ⟨bn,0,none⟩)]]∧Ob W (w.heap.size+1) 3 [.int .i64 0])∧(Ext w W∧∀c∈l.take k,c.1≠n))
  (fun c k W=>(c= .ret∧Ob W (w.heap.size+1) 3 [.int .i64 (ixC l n)])∧Ext w W)
  (fun k=>((Stab.ob _ _ _).and (Stab.ob _ _ _)).and ((Stab.of_ext hz2).and (Stab.pure _)))
  (fun c k=>((Stab.pure _).and (Stab.ob _ _ _)).and (Stab.of_ext hz2))
  ⟨⟨ob0.ext hX1,ob1.ext hX1⟩,hX2.out,by simp⟩
  (fun k x vs a' _=>a'={ tmps:= #[.slice A l.length cap, .func (.func 196) #[] #[.pointer (some ⟨bn,0,none⟩)],undef, .pointer (some ⟨w.heap.size,0,none⟩), .pointer (some ⟨w.heap.size+1,0,none⟩), .int .i64 x.2, .string x.1.1, .slice A l.length cap, .func (.func 194) #[] #[.pointer (some ⟨b,0,none⟩)], .int .i64 x.2, .string x.1.1,undef,undef,undef,undef],defers:=[]})
  (fun k x vs a'=>Stab.pure _) ?assign ?body ?done ?stop
 case assign =>
  rintro L k x vs W K _ rfl hK
  gi_wp2
  exact hK _ _ (Ext.refl _) rfl
 case body =>
  rintro L k x vs a' W hx ⟨⟨o0,o1⟩,hXw,hno⟩ rfl rfl
  rw[List.getElem?_zipIdx] at hx
  obtain⟨c,hc,rfl⟩:∃c,l[k]? = some c∧(c,k)=x:=by
   cases h:l[k]? with
   |none=>rw[h] at hx;cases hx
   |some c=>rw[h] at hx;exact⟨c,rfl,by simpa using hx⟩
  have q0:=o0.cell 0 rfl
  have q1:=o1.cell 0 rfl
  have hfr:=o1.free 0
  have hcall:=hide (index1_c c.1 n bn W (hn.ext hXw))
  have hzW:=hXw.size
  have hat:Hid (c.1=n→ixC l n=k):=fun e=>ixC_at hc e hno
  have hgo:Hid (¬c.1=n→∀d∈l.take (k+1),d.1≠n):=fun e d hd=>by
   rw[List.take_add_one,hc] at hd
   rcases List.mem_append.1 hd with hd|hd
   ·exact hno d hd
   ·obtain rfl:d=c:=by simpa using hd
    exact e
  have hmem:∀y∈[w.heap.size+1],∃T vs,Ob W y T vs:=by intro y hy;simp at hy;subst hy;exact⟨_,_,o1⟩
  replace hmem:=hide hmem
  replace hno:=hide hno
  have hltW:=o1.lt
  haveI:In (w.heap.size+1) W:=⟨hltW⟩
  obtain⟨cn,ck⟩:=c
  by_cases he:cn=n
  ·rw[decide_eq_true he] at hcall
   have hk:=hide (hat.out he)
   clear hat hgo he hc hx
   gi_wp2_with (gi_at_call 196;(with_reducible refine seq_gi hcall.out ?_);intro g)
   refine⟨keeps_fr (S:=[w.heap.size+1]) ((Fr.of_ext g.grown).setCell _ _ (.inl (by simp))) hmem.out,⟨rfl,?_⟩,(hXw.trans g.grown).setCell (p:=⟨w.heap.size+1,0,none⟩) (by simp) _⟩
   rw[hk.out]
   exact (o1.ext g.grown).set 0 _
  ·rw[decide_eq_false he] at hcall
   have hk:=hide (hgo.out he)
   clear hat hgo he hc hx
   gi_wp2_with (gi_at_call 196;(with_reducible refine seq_gi hcall.out ?_);intro g)
   exact⟨keeps_ext g.grown,below_fr (S:=[]) (Fr.of_ext g.grown) hzW (by simp),⟨o0.ext g.grown,o1.ext g.grown⟩,hXw.trans g.grown,hk.out⟩
 case done =>
  rintro D W hD ⟨⟨o0,o1⟩,hXw,hno⟩ hK
  rw[List.length_zipIdx,List.take_of_length_le (Nat.le_refl _)] at hno
  have hR:=hide (ixC_none hno)
  have q1:=o1.cell 0 rfl
  have hfr:=o1.free 0
  clear hno
  go_wp2
  have hK2:=(KeepsOthers.setCell W ⟨w.heap.size+1,0,none⟩ (.int .i64 (-1))).same D _ hK rfl
  have o2:Ob (W.setCell ⟨w.heap.size+1,0,none⟩ (.int .i64 (-1))) (w.heap.size+1) 3 [.int .i64 (-1)]:=o1.set 0 _
  have q2:=(ob_put (o':= .deferred none) hK2 rfl o2).cell 0 rfl
  refine ret_mark hK2 (v:= .int .i64 (-1)) ?_ ⟨by rw[hR.out],put_ext (hXw.setCell (p:=⟨w.heap.size+1,0,none⟩) (by simp) _) (by omega) _⟩
  simp[results,Tryz.f195,go_sem,q2]
 case stop =>
  rintro D c k W hD hk ⟨⟨rfl,o1⟩,hXw⟩ hK
  go_wp2
  have q2:=(ob_put (o':= .deferred none) hK rfl o1).cell 0 rfl
  refine ret_mark hK (v:= .int .i64 (ixC l n)) ?_ ⟨rfl,put_ext hXw (by omega) _⟩
  simp[results,Tryz.f195,go_sem,q2]
end Go.Proofs.YtajelkkiijdegaaGreat
