/-
  A helper of ours: no claim of its own. Layer 9 (step): step functions as lists of jumps: their values, their one form, and what is told by values at places. No program in it.
-/
import Derived.Test.YtajelkkiijdegaaGreatRows
import Derived.Test.YtajelkkiijdegaaGreatMem
set_option linter.unusedVariables false
set_option linter.unusedSimpArgs false
set_option linter.unusedSectionVars false
set_option maxHeartbeats 64000000
set_option maxRecDepth 100000
namespace Go.Proofs.YtajelkkiijdegaaGreat
open Go.RowKit
def cmpL:List UInt8→List UInt8→Int
 |[],[]=>0
 |[],_::_=> -1
 |_::_,[]=>1
 |x::a,y::b=>if x<y then -1 else if x=y then cmpL a b else 1
theorem u8_tri(x y:UInt8):x<y∨x=y∨y<x:=by
 rcases Nat.lt_trichotomy x.toNat y.toNat with h|h|h
 ·exact .inl h
 ·exact .inr (.inl (UInt8.toNat_inj.1 h))
 ·exact .inr (.inr h)
theorem u8_asym{x y:UInt8}(h:x<y):¬y<x∧x≠y:=by
 have h':x.toNat<y.toNat:=h
 exact⟨fun k=>by have k':y.toNat<x.toNat:=k;omega,fun e=>by subst e;omega⟩
theorem u8_irr(x:UInt8):¬x<x:=fun h=>(u8_asym h).1 h
theorem u8_trans{x y z:UInt8}(h:x<y)(k:y<z):x<z:=by
 have h':x.toNat<y.toNat:=h
 have k':y.toNat<z.toNat:=k
 show x.toNat<z.toNat
 omega
theorem cmpL_lt{x y:UInt8}(a b:List UInt8)(h:x<y):cmpL (x::a) (y::b)= -1:=by simp only[cmpL];rw[if_pos h]
theorem cmpL_gt{x y:UInt8}(a b:List UInt8)(h:y<x):cmpL (x::a) (y::b)=1:=by simp only[cmpL];rw[if_neg (u8_asym h).1,if_neg (Ne.symm (u8_asym h).2)]
theorem cmpL_eq(x:UInt8)(a b:List UInt8):cmpL (x::a) (x::b)=cmpL a b:=by simp only[cmpL,if_neg (u8_irr x),if_true]
theorem cmpL_nil(y:UInt8)(b:List UInt8):cmpL [] (y::b)= -1:=rfl
theorem cmpL_nil'(y:UInt8)(b:List UInt8):cmpL (y::b) []=1:=rfl
theorem cmpL_swap:∀a b:List UInt8,cmpL b a= - cmpL a b
 |[],[]=>rfl
 |[],_::_=>rfl
 |_::_,[]=>rfl
 |x::a,y::b=>by
  rcases u8_tri x y with h|h|h
  ·rw[cmpL_lt _ _ h,cmpL_gt _ _ h];rfl
  ·subst h;rw[cmpL_eq,cmpL_eq];exact cmpL_swap a b
  ·rw[cmpL_lt _ _ h,cmpL_gt _ _ h]
theorem cmpL_range:∀a b:List UInt8,cmpL a b= -1∨cmpL a b=0∨cmpL a b=1
 |[],[]=> .inr (.inl rfl)
 |[],_::_=> .inl rfl
 |_::_,[]=> .inr (.inr rfl)
 |x::a,y::b=>by
  rcases u8_tri x y with h|h|h
  ·rw[cmpL_lt _ _ h];simp
  ·subst h;rw[cmpL_eq];exact cmpL_range a b
  ·rw[cmpL_gt _ _ h];simp
theorem cmpL_zero:∀a b:List UInt8,cmpL a b=0↔a=b
 |[],[]=>by simp[cmpL]
 |[],_::_=>by simp[cmpL]
 |_::_,[]=>by simp[cmpL]
 |x::a,y::b=>by
  rcases u8_tri x y with h|h|h
  ·rw[cmpL_lt _ _ h];have:=(u8_asym h).2;simp[this]
  ·subst h;rw[cmpL_eq,cmpL_zero a b];simp
  ·rw[cmpL_gt _ _ h];have:=Ne.symm (u8_asym h).2;simp[this]
theorem cmpL_trans:∀a b c:List UInt8,cmpL a b≤0→cmpL b c≤0→cmpL a c=min (cmpL a b) (cmpL b c)
 |[],[],c,_,h=>by rw[show cmpL [] []=0 from rfl];omega
 |[],y::b,[],_,h=>by rw[cmpL_nil'] at h;omega
 |[],y::b,z::c,_,h=>by rw[cmpL_nil,cmpL_nil];rcases cmpL_range (y::b) (z::c) with e|e|e<;>omega
 |x::a,[],_,h,_=>by rw[cmpL_nil'] at h;omega
 |x::a,y::b,[],_,h=>by rw[cmpL_nil'] at h;omega
 |x::a,y::b,z::c,h,k=>by
  rcases u8_tri x y with h1|h1|h1
  ·rw[cmpL_lt _ _ h1]
   rcases u8_tri y z with k1|k1|k1
   ·rw[cmpL_lt _ _ k1,cmpL_lt _ _ (u8_trans h1 k1)];rfl
   ·subst k1
    rw[cmpL_eq] at k ⊢
    rw[cmpL_lt _ _ h1]
    rcases cmpL_range b c with e|e|e<;>omega
   ·rw[cmpL_gt _ _ k1] at k;omega
  ·subst h1
   rw[cmpL_eq] at h ⊢
   rcases u8_tri x z with k1|k1|k1
   ·rw[cmpL_lt _ _ k1,cmpL_lt _ _ k1];rcases cmpL_range a b with e|e|e<;>omega
   ·subst k1
    rw[cmpL_eq] at k ⊢
    rw[cmpL_eq]
    exact cmpL_trans a b c h k
   ·rw[cmpL_gt _ _ k1] at k;omega
  ·rw[cmpL_gt _ _ h1] at h;omega
theorem less_iff:∀a b:List UInt8,Op.bytesLess a b=decide (cmpL a b<0)
 |[],[]=>rfl
 |[],_::_=>rfl
 |_::_,[]=>rfl
 |x::a,y::b=>by
  simp only[Op.bytesLess]
  rcases u8_tri x y with h|h|h
  ·rw[cmpL_lt _ _ h];simp[h]
  ·subst h;rw[cmpL_eq,less_iff a b];simp[u8_irr]
  ·rw[cmpL_gt _ _ h];simp[(u8_asym h).1,Ne.symm (u8_asym h).2]
def cmpN(n m:Int):Int:=if n<m then -1 else if m<n then 1 else 0
def mayB(k n:Int)(s:ByteArray):Bool:=decide (k=1∧s.size=0) || decide (k=2∧n=0∧s.size≤64)
abbrev Vl:=Int×Int×ByteArray
def may(a:Vl):Bool:=mayB a.1 a.2.1 a.2.2
def cmpV(a b:Vl):Int :=
 if may a && may b then
  (if a.1=1 then (if b.1=1 then cmpN a.2.1 b.2.1 else -1) else if b.1=1 then 1 else cmpL a.2.2.data.toList b.2.2.data.toList)
 else 0
theorem may_kind{a:Vl}(h:may a=true):(a.1=1∧a.2.2.size=0)∨(a.1=2∧a.2.1=0∧a.2.2.size≤64):=by
 unfold may mayB at h;simpa using h
theorem text_eq{s t:ByteArray}(h:s.data.toList=t.data.toList):s=t:=by
 cases s;cases t;simp at h;congr 1
theorem empty_of{s:ByteArray}(h:s.size=0):s=⟨#[]⟩:=by
 cases s with
 |mk d=>congr 1;exact Array.eq_empty_of_size_eq_zero h
theorem cmpV_swap(a b:Vl):cmpV b a= - cmpV a b:=by
 unfold cmpV
 rw[Bool.and_comm]
 by_cases h:(may a && may b)=true
 ·rw[if_pos h,if_pos h]
  have hL:=cmpL_swap a.2.2.data.toList b.2.2.data.toList
  by_cases ha:a.1=1<;>by_cases hb:b.1=1<;>simp only[ha,hb,if_true,if_false]
  ·unfold cmpN;split<;>split<;>(try split)<;>omega
  ·rfl
  ·exact hL
 ·rw[if_neg h,if_neg h];rfl
theorem cmpV_zero{a b:Vl}(ha:may a=true)(hb:may b=true):cmpV a b=0↔a=b:=by
 obtain⟨k,n,s⟩:=a
 obtain⟨k',n',s'⟩:=b
 unfold cmpV
 rw[ha,hb]
 rcases may_kind ha with ⟨h1,h2⟩|⟨h1,h2,h3⟩<;>rcases may_kind hb with ⟨h4,h5⟩|⟨h4,h5,h6⟩<;>simp only at h1 h2 h4 h5<;>subst h1<;>subst h4
 ·have e1:=empty_of h2
  have e2:=empty_of h5
  subst e1;subst e2
  simp only[Bool.and_self,if_true]
  unfold cmpN
  constructor
  ·intro h
   have:n=n':=by split at h<;>(try split at h)<;>omega
   rw[this]
  ·intro h;cases h;simp
 ·simp
 ·simp
 ·subst h2;subst h5
  simp only[Bool.and_self,if_true,if_neg (show ¬(2:Int)=1 by decide)]
  rw[cmpL_zero]
  constructor
  ·intro h;rw[text_eq h]
  ·intro h;cases h;rfl
theorem cmpV_trans{a b c:Vl}(ha:may a=true)(hb:may b=true)(hc:may c=true)(h:cmpV a b≤0)(k:cmpV b c≤0):cmpV a c=min (cmpV a b) (cmpV b c):=by
 unfold cmpV at h k ⊢
 rw[ha,hb] at h
 rw[hb,hc] at k
 rw[ha,hb,hc]
 simp only[Bool.and_self,if_true] at h k ⊢
 by_cases ka:a.1=1<;>by_cases kb:b.1=1<;>by_cases kc:c.1=1<;>simp only[ka,kb,kc,if_true,if_false] at h k ⊢
 ·unfold cmpN at h k ⊢;omega
 ·unfold cmpN at h ⊢;omega
 ·omega
 ·rcases cmpL_range b.2.2.data.toList c.2.2.data.toList with e|e|e<;>omega
 ·omega
 ·omega
 ·omega
 ·exact cmpL_trans _ _ _ h k
theorem cmpV_range(a b:Vl):cmpV a b= -1∨cmpV a b=0∨cmpV a b=1:=by
 unfold cmpV cmpN
 have:=cmpL_range a.2.2.data.toList b.2.2.data.toList
 split
 ·split
  ·split
   ·split
    ·simp
    ·split<;>simp
   ·simp
  ·split
   ·simp
   ·exact this
 ·simp
def vc(a:Vl):List Value:=[.int .i64 a.1, .int .i64 a.2.1, .string a.2.2]
def rc(l:List Vl):List Value:=l.flatMap vc
theorem rc_length(l:List Vl):(rc l).length=l.length*3:=by
 induction l with
 |nil=>rfl
 |cons p r ih=>simp only[rc,vc,List.flatMap_cons,List.length_append,List.length_cons,List.length_nil] at ih ⊢;omega
theorem rc_append(l m:List Vl):rc (l++m)=rc l++rc m:=by simp[rc]
theorem rc_one(l:List Vl):∀u∈rc l,u.oneCell'=true:=by
 intro u hu
 simp only[rc,List.mem_flatMap,vc] at hu
 obtain⟨a,_,hu⟩:=hu
 simp at hu
 rcases hu with rfl|rfl|rfl<;>rfl
theorem rc_get:∀(l:List Vl) (i:Nat) (a:Vl),l[i]? = some a→∀j v,(vc a)[j]? = some v→(rc l)[i*3+j]? = some v
 |q::r,0,a,h,j,v,hv=>by
  simp at h;subst h
  have hj:j<(vc q).length:=(List.getElem?_eq_some_iff.1 hv).1
  simp only[rc,List.flatMap_cons]
  rw[List.getElem?_append_left (by omega),show 0*3+j=j by omega];exact hv
 |q::r,i+1,a,h,j,v,hv=>by
  have:=rc_get r i a (by simpa using h) j v hv
  rw[show (i+1)*3+j=i*3+j+1+1+1 by omega]
  simpa [rc,vc] using this
abbrev inI(n:Int):Prop:= -9223372036854775808≤n∧n≤9223372036854775807
abbrev Rw(w:World)(S:List Nat)(v:Value)(l:List Vl):Prop:=Sl w S 3 v l.length (rc l)
abbrev OwnR(w:World)(base:Nat)(v:Value)(l:List Vl):Prop:=w.ownsRow base 83 3 v l.length (rc l)
def mayR(l:List Vl):Bool:=decide (l.length≤8) && l.all may
theorem mayR_iff{l:List Vl}:mayR l=true↔l.length≤8∧∀a∈l,may a=true:=by
 unfold mayR;rw[Bool.and_eq_true,decide_eq_true_iff,List.all_eq_true]
def cmpT:List Vl→List Vl→Int
 |[],[]=>0
 |[],_::_=> -1
 |_::_,[]=>1
 |x::a,y::b=>if x=y then cmpT a b else cmpV x y
def cmpR(a b:List Vl):Int:=if mayR a && mayR b then cmpT a b else 0
theorem cmpT_swap:∀a b:List Vl,cmpT b a= - cmpT a b
 |[],[]=>rfl
 |[],_::_=>rfl
 |_::_,[]=>rfl
 |x::a,y::b=>by
  simp only[cmpT]
  by_cases h:x=y
  ·subst h;rw[if_pos rfl,if_pos rfl];exact cmpT_swap a b
  ·rw[if_neg h,if_neg (Ne.symm h)];exact cmpV_swap x y
theorem cmpT_range:∀a b:List Vl,cmpT a b= -1∨cmpT a b=0∨cmpT a b=1
 |[],[]=> .inr (.inl rfl)
 |[],_::_=> .inl rfl
 |_::_,[]=> .inr (.inr rfl)
 |x::a,y::b=>by
  simp only[cmpT]
  split
  ·exact cmpT_range a b
  ·exact cmpV_range x y
theorem cmpT_zero:∀a b:List Vl,(∀x∈a,may x=true)→(∀x∈b,may x=true)→(cmpT a b=0↔a=b)
 |[],[],_,_=>by simp[cmpT]
 |[],_::_,_,_=>by simp[cmpT]
 |_::_,[],_,_=>by simp[cmpT]
 |x::a,y::b,ha,hb=>by
  simp only[cmpT]
  by_cases h:x=y
  ·subst h;rw[if_pos rfl,cmpT_zero a b (fun z hz=>ha z (by simp[hz])) (fun z hz=>hb z (by simp[hz]))];simp
  ·rw[if_neg h,cmpV_zero (ha x (by simp)) (hb y (by simp))];simp[h]
theorem cmpT_trans:∀a b c:List Vl,(∀x∈a,may x=true)→(∀x∈b,may x=true)→(∀x∈c,may x=true)→cmpT a b≤0→cmpT b c≤0→cmpT a c=min (cmpT a b) (cmpT b c)
 |[],[],c,_,_,_,_,h=>by rw[show cmpT [] []=0 from rfl];omega
 |[],y::b,[],_,_,_,_,h=>by simp[cmpT] at h
 |[],y::b,z::c,_,_,_,_,h=>by
  have e1:cmpT [] (y::b)= -1:=rfl
  have e2:cmpT [] (z::c)= -1:=rfl
  rw[e1,e2];rcases cmpT_range (y::b) (z::c) with e|e|e<;>omega
 |x::a,[],c,_,_,_,h,_=>by simp[cmpT] at h
 |x::a,y::b,[],_,_,_,_,h=>by simp[cmpT] at h
 |x::a,y::b,z::c,ha,hb,hc,h,k=>by
  have hx:=ha x (by simp)
  have hy:=hb y (by simp)
  have hz:=hc z (by simp)
  simp only[cmpT] at h k ⊢
  by_cases h1:x=y
  ·subst h1
   rw[if_pos rfl] at h ⊢
   by_cases k1:x=z
   ·subst k1
    rw[if_pos rfl] at k ⊢
    rw[if_pos rfl]
    exact cmpT_trans a b c (fun z hz=>ha z (by simp[hz])) (fun z hz=>hb z (by simp[hz])) (fun z hz=>hc z (by simp[hz])) h k
   ·rw[if_neg k1] at k ⊢
    rw[if_neg k1]
    have h0:=mt (cmpV_zero hx hz).1 k1
    rcases cmpV_range x z with e|e|e<;>rcases cmpT_range a b with f|f|f<;>omega
  ·rw[if_neg h1] at h ⊢
   have h0:=mt (cmpV_zero hx hy).1 h1
   by_cases k1:y=z
   ·subst k1
    rw[if_neg h1]
    rw[if_pos rfl] at k ⊢
    rcases cmpV_range x y with e|e|e<;>rcases cmpT_range b c with f|f|f<;>omega
   ·rw[if_neg k1] at k ⊢
    have k0:=mt (cmpV_zero hy hz).1 k1
    have ht:=cmpV_trans hx hy hz h k
    have hxz:x≠z:=by
     rintro rfl
     have h2:=(cmpV_zero hx hx).2 rfl
     rcases cmpV_range x y with e|e|e<;>rcases cmpV_range y x with f|f|f<;>omega
    rw[if_neg hxz]
    exact ht
abbrev Jp:=Int×Int
def jv:List Jp→Int→Int
 |[],_=>0
 |j::r,t=>(if j.1≤t then j.2 else 0)+jv r t
def js:List Jp→Int
 |[]=>0
 |j::r=>j.2+js r
theorem jv_append(f g:List Jp)(t:Int):jv (f++g) t=jv f t+jv g t:=by
 induction f with
 |nil=>simp[jv]
 |cons a r ih=>simp only[List.cons_append,jv,ih];omega
theorem js_append(f g:List Jp):js (f++g)=js f+js g:=by
 induction f with
 |nil=>simp[js]
 |cons a r ih=>simp only[List.cons_append,js,ih];omega
theorem jv_snoc(f:List Jp)(j:Jp)(t:Int):jv (f++[j]) t=jv f t+(if j.1≤t then j.2 else 0):=by rw[jv_append];simp[jv]
theorem js_snoc(f:List Jp)(j:Jp):js (f++[j])=js f+j.2:=by rw[js_append];simp[js]
theorem jv_low{f:List Jp}{t:Int}(h:∀j∈f,t<j.1):jv f t=0:=by
 induction f with
 |nil=>rfl
 |cons a r ih =>
  have:=h a (by simp)
  rw[jv,if_neg (by omega),ih (fun j hj=>h j (by simp[hj]))];omega
theorem jv_high{f:List Jp}{t:Int}(h:∀j∈f,j.1≤t):jv f t=js f:=by
 induction f with
 |nil=>rfl
 |cons a r ih=>rw[jv,js,if_pos (h a (by simp)),ih (fun j hj=>h j (by simp[hj]))]
theorem jv_perm{f g:List Jp}(h:f.Perm g)(t:Int):jv f t=jv g t:=by
 induction h with
 |nil=>rfl
 |cons a _ ih=>simp only[jv,ih]
 |swap a b l=>simp only[jv];omega
 |trans _ _ h1 h2=>exact h1.trans h2
theorem jv_bound{f:List Jp}{K:Int}(hK:0≤K)(h:∀j∈f, -K≤j.2∧j.2≤K)(t:Int): -(K*f.length)≤jv f t∧jv f t≤K*f.length:=by
 induction f with
 |nil=>simp[jv]
 |cons a r ih =>
  have h1:=ih (fun j hj=>h j (by simp[hj]))
  have h2:=h a (by simp)
  have e:K*((a::r).length:Int)=K*(r.length:Int)+K:=by rw[List.length_cons];push_cast;rw[Int.mul_add,Int.mul_one]
  rw[e,jv]
  generalize K*(r.length:Int)=z at *
  split<;>omega
theorem js_bound{f:List Jp}{K:Int}(hK:0≤K)(h:∀j∈f, -K≤j.2∧j.2≤K): -(K*f.length)≤js f∧js f≤K*f.length:=by
 induction f with
 |nil=>simp[js]
 |cons a r ih =>
  have h1:=ih (fun j hj=>h j (by simp[hj]))
  have h2:=h a (by simp)
  have e:K*((a::r).length:Int)=K*(r.length:Int)+K:=by rw[List.length_cons];push_cast;rw[Int.mul_add,Int.mul_one]
  rw[e,js]
  generalize K*(r.length:Int)=z at *
  omega
abbrev Asc(f:List Jp):Prop:=f.Pairwise fun a b=>a.1<b.1
def Canon(f:List Jp):Prop:=Asc f∧∀j∈f,j.2≠0
theorem Canon.nil:Canon []:=⟨List.Pairwise.nil,by simp⟩
theorem Canon.tail{j:Jp}{r:List Jp}(h:Canon (j::r)):Canon r:=⟨(List.pairwise_cons.1 h.1).2,fun k hk=>h.2 k (by simp[hk])⟩
theorem Canon.snoc{f:List Jp}{j:Jp}(h:Canon f)(hl:∀k∈f,k.1<j.1)(h0:j.2≠0):Canon (f++[j]):=by
 refine⟨List.pairwise_append.2 ⟨h.1,by simp,fun a ha b hb=>?_⟩,fun k hk=>?_⟩
 ·simp only[List.mem_singleton] at hb;subst hb;exact hl a ha
 ·rcases List.mem_append.1 hk with hk|hk
  ·exact h.2 k hk
  ·simp only[List.mem_singleton] at hk;subst hk;exact h0
theorem canon_eq(F:Int):∀f g:List Jp,Canon f→Canon g→(∀j∈f,j.1<F)→(∀j∈g,j.1<F)→(∀t,t<F→jv f t=jv g t)→f=g
 |[],[],_,_,_,_,_=>rfl
 |[],k::g,_,hg,_,hG,h=>by
  exfalso
  have h1:=h k.1 (hG k (by simp))
  have h2:=(List.pairwise_cons.1 hg.1).1
  rw[jv,jv,if_pos (Int.le_refl _),jv_low h2] at h1
  exact hg.2 k (by simp) (by omega)
 |j::f,[],hf,_,hF,_,h=>by
  exfalso
  have h1:=h j.1 (hF j (by simp))
  have h2:=(List.pairwise_cons.1 hf.1).1
  rw[jv,jv,if_pos (Int.le_refl _),jv_low h2] at h1
  exact hf.2 j (by simp) (by omega)
 |j::f,k::g,hf,hg,hF,hG,h=>by
  have hj:=(List.pairwise_cons.1 hf.1).1
  have hk:=(List.pairwise_cons.1 hg.1).1
  have hj0:=hf.2 j (by simp)
  have hk0:=hg.2 k (by simp)
  have e1:j.1=k.1:=by
   rcases Int.lt_trichotomy j.1 k.1 with h1|h1|h1
   ·exfalso
    have h2:=h j.1 (hF j (by simp))
    rw[jv,if_pos (Int.le_refl _),jv_low hj,jv_low (f:=k::g) (by intro a ha;rcases List.mem_cons.1 ha with rfl|ha;exact h1;exact Int.lt_trans h1 (hk a ha))] at h2
    omega
   ·exact h1
   ·exfalso
    have h2:=h k.1 (hG k (by simp))
    rw[jv.eq_2 k.1 k g,if_pos (Int.le_refl _),jv_low hk,jv_low (f:=j::f) (by intro a ha;rcases List.mem_cons.1 ha with rfl|ha;exact h1;exact Int.lt_trans h1 (hj a ha))] at h2
    omega
  have e2:j.2=k.2:=by
   have h2:=h j.1 (hF j (by simp))
   rw[jv,jv,if_pos (Int.le_refl _),if_pos (by omega),jv_low hj,jv_low (f:=g) (by rw[e1];exact hk)] at h2
   omega
  have e:j=k:=Prod.ext e1 e2
  subst e
  congr 1
  exact canon_eq F f g hf.tail hg.tail (fun a ha=>hF a (by simp[ha])) (fun a ha=>hG a (by simp[ha])) (fun t ht=>by have:=h t ht;rw[jv,jv] at this;omega)
def tell(v:Int→Int):List Int→Int→List Jp
 |[],_=>[]
 |p::r,was=>if v p=was then tell v r (v p) else (p,v p-was)::tell v r (v p)
theorem tell_mem(v:Int→Int):∀(ps:List Int) (was:Int) (j:Jp),j∈tell v ps was→j.1∈ps∧j.2≠0
 |[],_,j,h=>by simp[tell] at h
 |p::r,was,j,h=>by
  rw[tell] at h
  split at h
  ·have:=tell_mem v r (v p) j h;exact⟨by simp[this.1],this.2⟩
  ·rcases List.mem_cons.1 h with rfl|h
   ·exact⟨by simp,by simp only;omega⟩
   ·have:=tell_mem v r (v p) j h;exact⟨by simp[this.1],this.2⟩
theorem tell_canon(v:Int→Int):∀(ps:List Int) (was:Int),ps.Pairwise (· < ·)→Canon (tell v ps was)
 |[],_,_=>Canon.nil
 |p::r,was,h=>by
  have ih:=tell_canon v r (v p) (List.pairwise_cons.1 h).2
  rw[tell]
  split
  ·exact ih
  ·refine⟨List.pairwise_cons.2 ⟨fun a ha=>(List.pairwise_cons.1 h).1 _ (tell_mem v r _ a ha).1,ih.1⟩,fun k hk=>?_⟩
   rcases List.mem_cons.1 hk with rfl|hk
   ·simp only;omega
   ·exact ih.2 k hk
theorem tell_val(v:Int→Int)(F:Int):∀(ps:List Int) (was lo:Int),ps.Pairwise (· < ·)→(∀p∈ps,lo≤p∧p<F) →
 (∀s t,lo≤s→s≤t→t<F→(∀p∈ps,p≤s∨t<p)→v s=v t)→(∀t,lo≤t→t<F→(∀p∈ps,t<p)→v t=was)→∀t,lo≤t→t<F→jv (tell v ps was) t=v t-was
 |[],was,lo,_,_,_,hl,t,h1,h2=>by rw[tell,jv,hl t h1 h2 (by simp)];omega
 |p::r,was,lo,ha,hlo,hs,hl,t,h1,h2=>by
  have hp:=(List.pairwise_cons.1 ha).1
  have hpl:=hlo p (by simp)
  by_cases htp:t<p
  ·have e:=hl t h1 h2 (by intro q hq;rcases List.mem_cons.1 hq with rfl|hq;exact htp;exact Int.lt_trans htp (hp q hq))
   rw[jv_low,e];omega
   intro j hj
   have:=(tell_mem v _ _ j hj).1
   rcases List.mem_cons.1 this with h|h
   ·omega
   ·have:=hp _ h;omega
  ·have ih:=tell_val v F r (v p) p (List.pairwise_cons.1 ha).2 (fun q hq=>⟨Int.le_of_lt (hp q hq),(hlo q (by simp[hq])).2⟩)
    (fun s t' k1 k2 k3 k4=>hs s t' (by omega) k2 k3 (by intro q hq;rcases List.mem_cons.1 hq with rfl|hq;exact .inl k1;exact k4 q hq))
    (fun t' k1 k2 k3=>(hs p t' hpl.1 k1 k2 (by intro q hq;rcases List.mem_cons.1 hq with rfl|hq;exact .inl (Int.le_refl _);exact .inr (k3 q hq))).symm) t (by omega) h2
   rw[tell]
   split
   ·rename_i h;rw[ih,h]
   ·rw[jv,if_pos (by simp only;omega),ih];omega
theorem tell_all(v:Int→Int)(F:Int)(ps:List Int)(h:ps.Pairwise (· < ·))(hF:∀p∈ps,p<F)(hs:∀s t,s≤t→t<F→(∀p∈ps,p≤s∨t<p)→v s=v t)(hl:∀t,t<F→(∀p∈ps,t<p)→v t=0)(t:Int)(ht:t<F):jv (tell v ps 0) t=v t:=by
 obtain⟨lo,h1,h2⟩:∃lo,lo≤t∧∀p∈ps,lo≤p:=by
  rcases ps with _|⟨p,r⟩
  ·exact⟨t,Int.le_refl _,by simp⟩
  ·refine⟨min t p,by omega,fun q hq=>?_⟩
   rcases List.mem_cons.1 hq with rfl|hq
   ·omega
   ·have:=(List.pairwise_cons.1 h).1 q hq;omega
 have:=tell_val v F ps 0 lo h (fun p hp=>⟨h2 p hp,hF p hp⟩) (fun s t _ k2 k3 k4=>hs s t k2 k3 k4) (fun t _ k2 k3=>hl t k2 k3) t h1 ht
 omega
def ins(l:List Int)(t:Int):List Int:=if t∈l then l else l.filter (fun x=>decide (x<t))++t::l.filter (fun x=>decide (t<x))
theorem ins_mem(l:List Int)(t x:Int):x∈ins l t↔x=t∨x∈l:=by
 unfold ins
 split
 ·rename_i h
  constructor
  ·exact .inr
  ·rintro (rfl|h')
   ·exact h
   ·exact h'
 ·simp only[List.mem_append,List.mem_cons,List.mem_filter,decide_eq_true_eq]
  constructor
  ·rintro (⟨h1,_⟩|rfl|⟨h1,_⟩)
   ·exact .inr h1
   ·exact .inl rfl
   ·exact .inr h1
  ·rintro (rfl|h1)
   ·exact .inr (.inl rfl)
   ·rcases Int.lt_trichotomy x t with h|h|h
    ·exact .inl ⟨h1,h⟩
    ·exact .inr (.inl h)
    ·exact .inr (.inr ⟨h1,h⟩)
theorem ins_asc{l:List Int}(t:Int)(h:l.Pairwise (· < ·)):(ins l t).Pairwise (· < ·):=by
 unfold ins
 split
 ·exact h
 ·refine List.pairwise_append.2 ⟨h.sublist List.filter_sublist,List.pairwise_cons.2 ⟨fun a ha=>?_,h.sublist List.filter_sublist⟩,fun a ha b hb=>?_⟩
  ·simp only[List.mem_filter,decide_eq_true_eq] at ha;exact ha.2
  ·simp only[List.mem_filter,decide_eq_true_eq,List.mem_cons] at ha hb
   rcases hb with rfl|hb
   ·exact ha.2
   ·omega
theorem ins_length(l:List Int)(t:Int)(h:l.Pairwise (· < ·)):(ins l t).length≤l.length+1:=by
 unfold ins
 split
 ·omega
 ·rw[List.length_append,List.length_cons]
  have:∀m:List Int,(m.filter (fun x=>decide (x<t))).length+(m.filter (fun x=>decide (t<x))).length≤m.length:=by
   intro m
   induction m with
   |nil=>simp
   |cons a r ih =>
    simp only[List.filter_cons]
    split<;>split<;>simp only[List.length_cons,decide_eq_true_eq] at * <;> omega
  have:=this l
  omega
def plc(a:List Int)(f:List Jp):List Int:=f.foldl (fun a j=>ins a j.1) a
theorem plc_mem(f:List Jp):∀(a:List Int) (x:Int),x∈plc a f↔x∈a∨∃j∈f,j.1=x:=by
 induction f with
 |nil=>intro a x;simp[plc]
 |cons k r ih =>
  intro a x
  rw[show plc a (k::r)=plc (ins a k.1) r from rfl,ih,ins_mem]
  simp only[List.mem_cons,exists_eq_or_imp]
  constructor
  ·rintro ((h|h)|h)
   ·exact .inr (.inl h.symm)
   ·exact .inl h
   ·exact .inr (.inr h)
  ·rintro (h|h|h)
   ·exact .inl (.inr h)
   ·exact .inl (.inl h.symm)
   ·exact .inr h
theorem plc_asc(f:List Jp):∀a:List Int,a.Pairwise (· < ·)→(plc a f).Pairwise (· < ·):=by
 induction f with
 |nil=>intro a h;exact h
 |cons k r ih=>intro a h;exact ih _ (ins_asc _ h)
theorem plc_length(f:List Jp):∀a:List Int,a.Pairwise (· < ·)→(plc a f).length≤a.length+f.length:=by
 induction f with
 |nil=>intro a h;simp[plc]
 |cons k r ih =>
  intro a h
  have h1:=ih _ (ins_asc k.1 h)
  have h2:=ins_length a k.1 h
  rw[show plc a (k::r)=plc (ins a k.1) r from rfl,List.length_cons]
  omega
theorem jv_between{f:List Jp}{s t:Int}(hst:s≤t)(h:∀j∈f,j.1≤s∨t<j.1):jv f s=jv f t:=by
 induction f with
 |nil=>rfl
 |cons a r ih =>
  rw[jv,jv,ih (fun j hj=>h j (by simp[hj]))]
  rcases h a (by simp) with h1|h1
  ·rw[if_pos h1,if_pos (by omega)]
  ·rw[if_neg (by omega),if_neg (by omega)]
def okJ(j:Jp):Bool:=decide (-1≤j.1∧j.1<1125899906842624∧j.2≠0∧j.2≤1048576∧ -1048576≤j.2)
theorem okJ_iff{j:Jp}:okJ j=true↔ -1≤j.1∧j.1<1125899906842624∧j.2≠0∧j.2≤1048576∧ -1048576≤j.2:=by unfold okJ;rw[decide_eq_true_iff]
def mayJ(f:List Jp):Bool:=decide (f.length≤1024) && (f.all okJ && decide (Asc f))
theorem mayJ_iff{f:List Jp}:mayJ f=true↔f.length≤1024∧(∀j∈f,okJ j=true)∧Asc f:=by
 unfold mayJ;rw[Bool.and_eq_true,Bool.and_eq_true,decide_eq_true_iff,decide_eq_true_iff,List.all_eq_true]
theorem mayJ_canon{f:List Jp}(h:mayJ f=true):Canon f:=by
 obtain⟨_,h2,h3⟩:=mayJ_iff.1 h
 exact⟨h3,fun j hj=>(okJ_iff.1 (h2 j hj)).2.2.1⟩
theorem mayJ_net{f:List Jp}(h:mayJ f=true):∀j∈f, -1048576≤j.2∧j.2≤1048576:=fun j hj=>by
 have:=okJ_iff.1 ((mayJ_iff.1 h).2.1 j hj);omega
theorem mayJ_at{f:List Jp}(h:mayJ f=true):∀j∈f, -1≤j.1∧j.1<1125899906842624:=fun j hj=>by
 have:=okJ_iff.1 ((mayJ_iff.1 h).2.1 j hj);omega
theorem mayJ_len{f:List Jp}(h:mayJ f=true):f.length≤1024:=(mayJ_iff.1 h).1
theorem mayJ_nil:mayJ []=true:=by decide
theorem mayJ_left{f g:List Jp}(h:mayJ (f++g)=true):mayJ f=true:=by
 obtain⟨h1,h2,h3⟩:=mayJ_iff.1 h
 rw[List.length_append] at h1
 exact mayJ_iff.2 ⟨by omega,fun j hj=>h2 j (by simp[hj]),(List.pairwise_append.1 h3).1⟩
theorem mayJ_right{f g:List Jp}(h:mayJ (f++g)=true):mayJ g=true:=by
 obtain⟨h1,h2,h3⟩:=mayJ_iff.1 h
 rw[List.length_append] at h1
 exact mayJ_iff.2 ⟨by omega,fun j hj=>h2 j (by simp[hj]),(List.pairwise_append.1 h3).2.1⟩
def full(f:List Jp):Int:=if mayJ f then 0 else 7
def kept(f:List Jp):List Jp:=if mayJ f then f else []
theorem one_form{f g:List Jp}(hf:Canon f)(hg:Canon g)(h1:∀j∈f,j.1<1125899906842624)(h2:∀j∈g,j.1<1125899906842624)(h:∀t,t<1125899906842624→jv f t=jv g t):f=g :=
 canon_eq 1125899906842624 f g hf hg h1 h2 h
end Go.Proofs.YtajelkkiijdegaaGreat
