/-
  A helper of ours: no claim of its own. Layer 9 (step): what each call makes of step functions, as lists: jumps put together, two functions at once, parts. No program in it.
-/
import Derived.Test.YtajelkkiijdegaaGreatStepS
set_option linter.unusedVariables false
set_option linter.unusedSimpArgs false
set_option linter.unusedSectionVars false
set_option maxHeartbeats 64000000
set_option maxRecDepth 100000
namespace Go.Proofs.YtajelkkiijdegaaGreat
open Go.RowKit
theorem tell_lt(v:Int→Int)(F:Int)(ps:List Int)(was:Int)(h:∀p∈ps,p<F):∀j∈tell v ps was,j.1<F:=fun j hj=>h _ (tell_mem v ps was j hj).1
theorem Asc.nil':([]:List Int).Pairwise (· < ·):=List.Pairwise.nil
def tooJ(j:Jp):Bool:=decide (1048576<j.2∨j.2 < -1048576)
def nowJ(j:Jp):Bool:=decide (j.1 < -1∨1125899906842624<j.1)
def inF(l:List Jp):List Jp:=l.filter fun j=>decide (j.1≠1125899906842624)
def nmL(l:List Jp):List Jp:=tell (jv l) (plc [] (inF l)) 0
def nmE(l:List Jp):Int:=if l.any tooJ then 2 else if l.any nowJ then 13 else full (nmL l)
def nmR(l:List Jp):List Jp:=if nmE l=0 then nmL l else []
theorem nmL_val(l:List Jp)(h:∀j∈l,nowJ j=false)(t:Int)(ht:t<1125899906842624):jv (nmL l) t=jv l t:=by
 have hm:∀x,x∈plc [] (inF l)↔∃j∈inF l,j.1=x:=fun x=>by rw[plc_mem];simp
 have hmem:∀j∈l,j.1≠1125899906842624→j.1∈plc [] (inF l):=fun j hj h0=>(hm _).2 ⟨j,by simp[inF,hj,h0],rfl⟩
 have hle:∀j∈l,j.1≤1125899906842624:=fun j hj=>by have:=h j hj;unfold nowJ at this;rw[decide_eq_false_iff_not] at this;omega
 refine tell_all (jv l) 1125899906842624 _ (plc_asc _ _ Asc.nil') (fun p hp=>?_) (fun s u h1 h2 h3=>?_) (fun u h1 h2=>?_) t ht
 ·obtain⟨j,hj,rfl⟩:=(hm p).1 hp
  simp only[inF,List.mem_filter,decide_eq_true_eq] at hj
  have:=hle j hj.1;omega
 ·refine jv_between h1 fun j hj=>?_
  by_cases h0:j.1=1125899906842624
  ·right;omega
  ·exact h3 _ (hmem j hj h0)
 ·refine jv_low fun j hj=>?_
  by_cases h0:j.1=1125899906842624
  ·omega
  ·exact h2 _ (hmem j hj h0)
theorem nmL_lt(l:List Jp)(h:∀j∈l,nowJ j=false):∀j∈nmL l,j.1<1125899906842624:=by
 refine tell_lt _ _ _ _ fun p hp=>?_
 obtain⟨j,hj,rfl⟩:=((plc_mem _ _ _).1 hp).resolve_left (by simp)
 simp only[inF,List.mem_filter,decide_eq_true_eq] at hj
 have:=h j hj.1;unfold nowJ at this;rw[decide_eq_false_iff_not] at this;omega
def addS(acc:List Jp)(j:Jp):List Jp:=match acc.getLast? with
 |none=>[j]
 |some k=>if k.1=j.1 then acc.dropLast++[(k.1,k.2+j.2)] else acc++[j]
def addup(s:List Jp):List Jp:=s.foldl addS []
theorem addup_snoc(s:List Jp)(j:Jp):addup (s++[j])=addS (addup s) j:=by simp[addup]
theorem addS_nil(j:Jp):addS [] j=[j]:=rfl
theorem addS_same(acc:List Jp)(k j:Jp)(h:k.1=j.1):addS (acc++[k]) j=acc++[(k.1,k.2+j.2)]:=by
 unfold addS;simp[h]
theorem addS_other(acc:List Jp)(k j:Jp)(h:¬k.1=j.1):addS (acc++[k]) j=acc++[k]++[j]:=by
 unfold addS;simp[h]
theorem snoc_cases{α:Type}(l:List α):l=[]∨∃m a,l=m++[a]:=by
 rcases List.eq_nil_or_concat l with h|⟨m,a,h⟩
 ·exact .inl h
 ·exact .inr ⟨m,a,by rw[h,List.concat_eq_append]⟩
theorem addS_jv(acc:List Jp)(j:Jp)(t:Int):jv (addS acc j) t=jv (acc++[j]) t:=by
 rcases snoc_cases acc with rfl|⟨m,k,rfl⟩
 ·rfl
 ·by_cases h:k.1=j.1
  ·rw[addS_same _ _ _ h,jv_snoc,jv_snoc,jv_snoc]
   simp only
   rw[h]
   split<;>omega
  ·rw[addS_other _ _ _ h]
theorem addup_jv(s:List Jp)(t:Int):jv (addup s) t=jv s t:=by
 suffices H:∀n (s:List Jp),s.length=n→jv (addup s) t=jv s t from H _ s rfl
 intro n
 induction n with
 |zero=>intro s h;obtain rfl:=List.length_eq_zero_iff.1 h;rfl
 |succ n ih =>
  intro s h
  rcases snoc_cases s with rfl|⟨m,k,rfl⟩
  ·simp at h
  ·rw[addup_snoc,addS_jv,jv_snoc,jv_snoc,ih m (by simpa using h)]
theorem addup_inv(K:Int)(hK:0≤K):∀(n:Nat) (s:List Jp),s.length=n→s.Pairwise (fun a b=>a.1≤b.1)→(∀j∈s, -K≤j.2∧j.2≤K) →
 Asc (addup s)∧(addup s).length≤n∧(∀j∈addup s,∃k∈s,k.1=j.1)∧(∀j∈addup s, -(K*n)≤j.2∧j.2≤K*n)
 |0,s,h,_,_=>by
  obtain rfl:=List.length_eq_zero_iff.1 h
  exact⟨List.Pairwise.nil,by simp[addup],by simp[addup],by simp[addup]⟩
 |n+1,s,h,hs,hb=>by
  rcases snoc_cases s with rfl|⟨m,j,rfl⟩
  ·simp at h
  have hm:m.length=n:=by simpa using h
  obtain⟨h1,h2,h3,h4⟩:=addup_inv K hK n m hm (List.pairwise_append.1 hs).1 (fun a ha=>hb a (by simp[ha]))
  have hle:∀a∈m,a.1≤j.1:=fun a ha=>(List.pairwise_append.1 hs).2.2 a ha j (by simp)
  have hj:=hb j (by simp)
  have hlt:∀a∈addup m,a.1≤j.1:=fun a ha=>by obtain⟨k,hk,e⟩:=h3 a ha;have:=hle k hk;omega
  have eK:K*((n+1:Nat):Int)=K*(n:Int)+K:=by push_cast;rw[Int.mul_add,Int.mul_one]
  rw[eK]
  have hKn:0≤K*(n:Int):=Int.mul_nonneg hK (by omega)
  generalize K*(n:Int)=z at *
  rw[addup_snoc]
  rcases snoc_cases (addup m) with e|⟨p,k,e⟩
  ·rw[e,addS_nil]
   exact⟨by simp,by simp,fun a ha=>by simp only[List.mem_singleton] at ha;subst ha;exact⟨a,by simp,rfl⟩,fun a ha=>by simp only[List.mem_singleton] at ha;subst ha;omega⟩
  ·rw[e] at h1 h2 h3 h4 hlt ⊢
   have hpk:=(List.pairwise_append.1 h1).2.2
   by_cases hk:k.1=j.1
   ·rw[addS_same _ _ _ hk]
    refine⟨List.pairwise_append.2 ⟨(List.pairwise_append.1 h1).1,by simp,fun a ha b hb=>?_⟩,by simpa using (by simp at h2;omega),fun a ha=>?_,fun a ha=>?_⟩
    ·simp only[List.mem_singleton] at hb;subst hb;exact hpk a ha k (by simp)
    ·rcases List.mem_append.1 ha with ha|ha
     ·obtain⟨q,hq,e2⟩:=h3 a (by simp[ha]);exact⟨q,by simp[hq],e2⟩
     ·simp only[List.mem_singleton] at ha;subst ha;exact⟨j,by simp,hk.symm⟩
    ·rcases List.mem_append.1 ha with ha|ha
     ·have:=h4 a (by simp[ha]);omega
     ·simp only[List.mem_singleton] at ha;subst ha;have:=h4 k (by simp);simp only;omega
   ·rw[addS_other _ _ _ hk]
    have hkj:k.1<j.1:=by have:=hlt k (by simp);omega
    refine⟨List.pairwise_append.2 ⟨h1,by simp,fun a ha b hb=>?_⟩,by simpa using (by simp at h2;omega),fun a ha=>?_,fun a ha=>?_⟩
    ·simp only[List.mem_singleton] at hb;subst hb
     rcases List.mem_append.1 ha with ha|ha
     ·have:=hpk a ha k (by simp);omega
     ·simp only[List.mem_singleton] at ha;subst ha;exact hkj
    ·rcases List.mem_append.1 ha with ha|ha
     ·obtain⟨q,hq,e2⟩:=h3 a (by simpa using ha);exact⟨q,by simp[hq],e2⟩
     ·simp only[List.mem_singleton] at ha;subst ha;exact⟨a,by simp,rfl⟩
    ·rcases List.mem_append.1 ha with ha|ha
     ·have:=h4 a (by simpa using ha);omega
     ·simp only[List.mem_singleton] at ha;subst ha;omega
def dropJ(j:Jp):Bool:=decide (j.2=0∨j.1=1125899906842624)
theorem jv_filter(f:List Jp)(t:Int)(ht:t<1125899906842624):jv (f.filter fun j=> !dropJ j) t=jv f t:=by
 induction f with
 |nil=>rfl
 |cons a r ih =>
  rw[List.filter_cons]
  by_cases h:dropJ a=true
  ·rw[if_neg (by simp[h]),ih,jv]
   unfold dropJ at h
   rw[decide_eq_true_iff] at h
   split<;>omega
  ·rw[if_pos (by simpa using h),jv,jv,ih]
theorem norm_code{l s:List Jp}(hp:s.Perm l)(hs:s.Pairwise fun a b=>a.1≤b.1)(hn:∀j∈l,nowJ j=false):(addup s).filter (fun j=> !dropJ j)=nmL l:=by
 obtain⟨K,hK,hb⟩:∃K:Int,0≤K∧∀j∈s, -K≤j.2∧j.2≤K:=by
  clear hp hs
  induction s with
  |nil=>exact⟨0,by omega,by simp⟩
  |cons a r ih =>
   obtain⟨K,hK,h⟩:=ih
   refine⟨max K (max a.2 (-a.2)),by omega,fun j hj=>?_⟩
   rcases List.mem_cons.1 hj with rfl|hj
   ·omega
   ·have:=h j hj;omega
 obtain⟨h1,_,h3,_⟩:=addup_inv K hK s.length s rfl hs hb
 refine one_form ⟨h1.sublist List.filter_sublist,fun j hj=>?_⟩ (tell_canon _ _ _ (plc_asc _ _ Asc.nil')) (fun j hj=>?_) (nmL_lt l hn) (fun t ht=>?_)
 ·simp only[List.mem_filter,dropJ,Bool.not_eq_true',decide_eq_false_iff_not] at hj;omega
 ·simp only[List.mem_filter,dropJ,Bool.not_eq_true',decide_eq_false_iff_not] at hj
  obtain⟨k,hk,e⟩:=h3 j hj.1
  have:=hn k (hp.mem_iff.1 hk)
  unfold nowJ at this
  rw[decide_eq_false_iff_not] at this
  omega
 ·rw[jv_filter _ _ ht,addup_jv,jv_perm hp,nmL_val l hn t ht]
def nxt:List Jp→Int
 |[]=>1125899906842624
 |j::_=>j.1
def opv(op:Int→Int→Int)(f g:List Jp)(t:Int):Int:=op (jv f t) (jv g t)
def opd(op:Int→Int→Int)(f g:List Jp):List Jp:=tell (opv op f g) (plc (plc [] f) g) 0
def twE(op:Int→Int→Int)(f g:List Jp):Int:=if mayJ f && mayJ g then full (opd op f g) else 2
def twR(op:Int→Int→Int)(f g:List Jp):List Jp:=if twE op f g=0 then opd op f g else []
theorem opd_mem{f g:List Jp}{x:Int}:x∈plc (plc [] f) g↔(∃j∈f,j.1=x)∨∃j∈g,j.1=x:=by rw[plc_mem,plc_mem];simp
theorem opd_lt{op:Int→Int→Int}{f g:List Jp}(hf:mayJ f=true)(hg:mayJ g=true):∀j∈opd op f g,j.1<1125899906842624:=by
 refine tell_lt _ _ _ _ fun p hp=>?_
 rcases opd_mem.1 hp with ⟨j,hj,rfl⟩|⟨j,hj,rfl⟩
 ·exact (mayJ_at hf j hj).2
 ·exact (mayJ_at hg j hj).2
theorem opd_canon(op:Int→Int→Int)(f g:List Jp):Canon (opd op f g):=tell_canon _ _ _ (plc_asc _ _ (plc_asc _ _ Asc.nil'))
theorem opd_val{op:Int→Int→Int}(h0:op 0 0=0){f g:List Jp}(hf:mayJ f=true)(hg:mayJ g=true)(t:Int)(ht:t<1125899906842624):jv (opd op f g) t=op (jv f t) (jv g t):=by
 refine tell_all (opv op f g) 1125899906842624 _ (plc_asc _ _ (plc_asc _ _ Asc.nil')) (fun p hp=>?_) (fun s u h1 h2 h3=>?_) (fun u h1 h2=>?_) t ht
 ·rcases opd_mem.1 hp with ⟨j,hj,rfl⟩|⟨j,hj,rfl⟩
  ·exact (mayJ_at hf j hj).2
  ·exact (mayJ_at hg j hj).2
 ·unfold opv
  rw[jv_between h1 (f:=f) (fun j hj=>h3 _ (opd_mem.2 (.inl ⟨j,hj,rfl⟩))),jv_between h1 (f:=g) (fun j hj=>h3 _ (opd_mem.2 (.inr ⟨j,hj,rfl⟩)))]
 ·unfold opv
  rw[jv_low (f:=f) (fun j hj=>h2 _ (opd_mem.2 (.inl ⟨j,hj,rfl⟩))),jv_low (f:=g) (fun j hj=>h2 _ (opd_mem.2 (.inr ⟨j,hj,rfl⟩))),h0]
structure Comb (op:Int→Int→Int) (f1 f2 g1 g2 made:List Jp):Prop where
 canon:Canon made
 lt:∀j∈made,j.1<min (nxt f2) (nxt g2)
 l1:∀j∈f1,j.1<min (nxt f2) (nxt g2)
 l2:∀j∈g1,j.1<min (nxt f2) (nxt g2)
 sum:js made=op (js f1) (js g1)
 at':∀t,t<min (nxt f2) (nxt g2)→jv made t=op (jv f1 t) (jv g1 t)
 len:made.length≤f1.length+g1.length
theorem Comb.start{op:Int→Int→Int}(h0:op 0 0=0)(f g:List Jp):Comb op [] f [] g [] :=
 ⟨Canon.nil,by simp,by simp,by simp,by simp[js,h0],fun t _=>by simp[jv,h0],by simp⟩
def pasL(f2:List Jp)(t:Int):List Jp:=match f2 with
 |[]=>[]
 |j::r=>if j.1=t then [j] else []
def pasR(f2:List Jp)(t:Int):List Jp:=match f2 with
 |[]=>[]
 |j::r=>if j.1=t then r else j::r
theorem pas_eq(f2:List Jp)(t:Int):pasL f2 t++pasR f2 t=f2:=by
 rcases f2 with _|⟨j,r⟩
 ·rfl
 ·simp only[pasL,pasR];split<;>rfl
theorem pas_at(f2:List Jp)(t:Int):∀j∈pasL f2 t,j.1=t:=by
 rcases f2 with _|⟨j,r⟩
 ·simp[pasL]
 ·simp only[pasL];split
  ·rename_i h;intro k hk;simp only[List.mem_singleton] at hk;subst hk;exact h
  ·simp
theorem nxt_le{f1 f2:List Jp}(h:mayJ (f1++f2)=true):nxt f2≤1125899906842624:=by
 rcases f2 with _|⟨j,r⟩
 ·exact Int.le_refl _
 ·have:=(mayJ_at h j (by simp)).2;exact Int.le_of_lt this
theorem nxt_lt{f1 f2:List Jp}(h:mayJ (f1++f2)=true)(h0:f2≠[]):nxt f2<1125899906842624:=by
 rcases f2 with _|⟨j,r⟩
 ·exact absurd rfl h0
 ·exact (mayJ_at h j (by simp)).2
theorem pas_next{f1 f2:List Jp}{t:Int}(h:mayJ (f1++f2)=true)(hle:t≤nxt f2)(ht:t<1125899906842624):t<nxt (pasR f2 t):=by
 rcases f2 with _|⟨j,r⟩
 ·exact ht
 ·simp only[pasR]
  split
  ·rename_i e
   have h2:=mayJ_right h
   rcases r with _|⟨k,r⟩
   ·exact ht
   ·have:=(List.pairwise_cons.1 (mayJ_iff.1 h2).2.2).1 k (by simp);simp only[nxt];omega
  ·simp only[nxt] at hle ⊢;omega
theorem pas_jv{f1 f2:List Jp}{t u:Int}(hu:u<t):jv (f1++pasL f2 t) u=jv f1 u:=by
 rw[jv_append,jv_low (f:=pasL f2 t) (fun j hj=>by rw[pas_at f2 t j hj];exact hu)];omega
theorem Comb.step{op:Int→Int→Int}{f1 f2 g1 g2 made:List Jp}(h:Comb op f1 f2 g1 g2 made)(hf:mayJ (f1++f2)=true)(hg:mayJ (g1++g2)=true)(h0:¬(f2=[]∧g2=[]))(t:Int)(ht:t=min (nxt f2) (nxt g2)) :
 Comb op (f1++pasL f2 t) (pasR f2 t) (g1++pasL g2 t) (pasR g2 t)
  (if op (js (f1++pasL f2 t)) (js (g1++pasL g2 t))=op (js f1) (js g1) then made else made++[(t,op (js (f1++pasL f2 t)) (js (g1++pasL g2 t))-op (js f1) (js g1))]):=by
 have htF:t<1125899906842624:=by
  have h1:=nxt_le hf
  have h2:=nxt_le hg
  by_cases e:f2=[]
  ·have h3:=nxt_lt hg (fun e2=>h0 ⟨e,e2⟩);omega
  ·have h3:=nxt_lt hf e;omega
 have n1:=pas_next (t:=t) hf (by omega) htF
 have n2:=pas_next (t:=t) hg (by omega) htF
 have hlt:∀j∈made,j.1<t:=fun j hj=>by rw[ht];exact h.lt j hj
 have hf1:∀j∈f1++pasL f2 t,j.1≤t:=fun j hj=>by
  rcases List.mem_append.1 hj with hj|hj
  ·have:=h.l1 j hj;omega
  ·have:=pas_at f2 t j hj;omega
 have hg1:∀j∈g1++pasL g2 t,j.1≤t:=fun j hj=>by
  rcases List.mem_append.1 hj with hj|hj
  ·have:=h.l2 j hj;omega
  ·have:=pas_at g2 t j hj;omega
 obtain⟨x,hx⟩:∃x,x=op (js (f1++pasL f2 t)) (js (g1++pasL g2 t)):=⟨_,rfl⟩
 have hsum:=h.sum
 rw[←hx,←hsum]
 have hlen:=h.len
 refine⟨?_,?_,fun j hj=>by have:=hf1 j hj;omega,fun j hj=>by have:=hg1 j hj;omega,?_,fun u hu=>?_,?_⟩
 ·split
  ·exact h.canon
  ·exact h.canon.snoc (by simpa using hlt) (by simp only;omega)
 ·intro j hj
  have:j.1≤t:=by
   split at hj
   ·exact Int.le_of_lt (hlt j hj)
   ·rcases List.mem_append.1 hj with hj|hj
    ·exact Int.le_of_lt (hlt j hj)
    ·simp only[List.mem_singleton] at hj;subst hj;exact Int.le_refl _
  omega
 ·split
  ·rename_i e;exact e.symm.trans hx
  ·rw[js_snoc,←hx];simp only;omega
 ·by_cases hut:u<t
  ·have e:jv (if x=js made then made else made++[(t,x-js made)]) u=jv made u:=by
    split
    ·rfl
    ·rw[jv_snoc,if_neg (by simp only;omega)];omega
   rw[e,pas_jv hut,pas_jv hut]
   exact h.at' u (by omega)
  ·have e1:=jv_high (f:=f1++pasL f2 t) (t:=u) (fun j hj=>by have:=hf1 j hj;omega)
   have e2:=jv_high (f:=g1++pasL g2 t) (t:=u) (fun j hj=>by have:=hg1 j hj;omega)
   have e3:=jv_high (f:=made) (t:=u) (fun j hj=>by have:=hlt j hj;omega)
   rw[e1,e2,←hx]
   split
   ·rename_i e;rw[e3,e]
   ·rw[jv_snoc,if_pos (by simp only;omega),e3];simp only;omega
 ·rcases f2 with _|⟨j,r⟩
  ·rcases g2 with _|⟨k,s⟩
   ·exact absurd ⟨rfl,rfl⟩ h0
   ·have e:k.1=t:=by have:=nxt_le hg;simp only[nxt] at ht this;omega
    simp only[pasL,if_pos e,List.length_append,List.length_cons,List.length_nil]
    split
    ·omega
    ·simp;omega
  ·by_cases e:j.1=t
   ·simp only[pasL,if_pos e,List.length_append,List.length_cons,List.length_nil]
    split
    ·omega
    ·simp;omega
   ·rcases g2 with _|⟨k,s⟩
    ·exfalso;have:=nxt_le hf;simp only[nxt] at ht this;omega
    ·have e':k.1=t:=by simp only[nxt] at ht;omega
     simp only[pasL,if_neg e,if_pos e',List.length_append,List.length_cons,List.length_nil]
     split
     ·omega
     ·simp;omega
theorem Comb.done{op:Int→Int→Int}(h0:op 0 0=0){f g made:List Jp}(h:Comb op f [] g [] made)(hf:mayJ f=true)(hg:mayJ g=true):made=opd op f g:=by
 refine one_form h.canon (opd_canon op f g) (fun j hj=>by have:=h.lt j hj;simp only[nxt] at this;omega) (opd_lt hf hg) (fun t ht=>?_)
 rw[opd_val h0 hf hg t ht]
 exact h.at' t (by simp only[nxt];omega)
def cutL(f:List Jp)(t:Int):List Jp:=f.takeWhile fun j=>decide (j.1<t)
def cutR(f:List Jp)(t:Int):List Jp:=f.dropWhile fun j=>decide (j.1<t)
theorem cut_eq(f:List Jp)(t:Int):cutL f t++cutR f t=f:=List.takeWhile_append_dropWhile
theorem cutL_lt(f:List Jp)(t:Int):∀j∈cutL f t,j.1<t:=by
 induction f with
 |nil=>simp[cutL]
 |cons a r ih =>
  intro j hj
  unfold cutL at hj ih
  rw[List.takeWhile_cons] at hj
  split at hj
  ·rename_i e
   rcases List.mem_cons.1 hj with rfl|hj
   ·simpa using e
   ·exact ih j hj
  ·simp at hj
theorem cutR_ge{f:List Jp}(h:Asc f)(t:Int):∀j∈cutR f t,t≤j.1:=by
 induction f with
 |nil=>simp[cutR]
 |cons a r ih =>
  intro j hj
  unfold cutR at hj ih
  rw[List.dropWhile_cons] at hj
  split at hj
  ·exact ih (List.pairwise_cons.1 h).2 j hj
  ·rename_i e
   simp only[decide_eq_true_eq] at e
   rcases List.mem_cons.1 hj with rfl|hj
   ·omega
   ·have:=(List.pairwise_cons.1 h).1 j hj;omega
theorem plc0_mem(f:List Jp)(x:Int):x∈plc [] f↔∃j∈f,j.1=x:=by rw[plc_mem];simp
theorem cut_jv{f:List Jp}(h:Asc f){t u:Int}(hu:u<t):jv (cutL f t) u=jv f u:=by
 have:=jv_append (cutL f t) (cutR f t) u
 rw[cut_eq,jv_low (f:=cutR f t) (fun j hj=>by have:=cutR_ge h t j hj;omega)] at this
 omega
theorem cutR_canon{f:List Jp}(h:Canon f)(t:Int):Canon (cutR f t):=⟨h.1.sublist (List.dropWhile_sublist _),fun j hj=>h.2 j ((List.dropWhile_sublist _).subset hj)⟩
theorem cutL_js{f:List Jp}(h:Asc f)(t:Int):js (cutL f t)=jv f (t-1):=by
 rw[←cut_jv h (t:=t) (u:=t-1) (by omega),jv_high (fun j hj=>by have:=cutL_lt f t j hj;omega)]
def reV(f:List Jp)(t p:Int):Int:=jv f (if -1<t∧p<t then t-1 else p)
def reP(f:List Jp):List Int:=ins (plc [] f) (-1)
def reL(f:List Jp)(t:Int):List Jp:=if 1125899906842624≤t then [] else tell (reV f t) (reP f) 0
def reE(f:List Jp)(t:Int):Int:=if mayJ f then full (reL f t) else 2
def reR(f:List Jp)(t:Int):List Jp:=if reE f t=0 then reL f t else []
def reC(f:List Jp)(t:Int):List Jp:=if js (cutL f t)≠0 then (-1,js (cutL f t))::cutR f t else cutR f t
theorem reP_asc(f:List Jp):(reP f).Pairwise (· < ·):=ins_asc _ (plc_asc _ _ Asc.nil')
theorem reP_lt{f:List Jp}(hf:mayJ f=true):∀p∈reP f,p<1125899906842624:=by
 intro p hp
 rcases (ins_mem _ _ _).1 hp with rfl|hp
 ·omega
 ·obtain⟨j,hj,rfl⟩:=(plc0_mem f p).1 hp;exact (mayJ_at hf j hj).2
theorem rest_code{f:List Jp}(hf:mayJ f=true)(t:Int)(ht:t<1125899906842624):reC f t=reL f t:=by
 have hc:=mayJ_canon hf
 have hR:=cutR_canon hc t
 have hin:∀j∈cutR f t,j∈f:=fun j hj=>(List.dropWhile_sublist _).subset hj
 have hinL:∀j∈cutL f t,j∈f:=fun j hj=>(List.takeWhile_sublist _).subset hj
 have hbase:t≤ -1→js (cutL f t)=0:=fun h=>by
  rw[cutL_js hc.1];exact jv_low fun j hj=>by have:=(mayJ_at hf j hj).1;omega
 have hsub:∀j∈f,j.1∈reP f:=fun j hj=>(ins_mem _ _ _).2 (.inr ((plc0_mem f _).2 ⟨j,hj,rfl⟩))
 have hm1:(-1:Int)∈reP f:=(ins_mem _ _ _).2 (.inl rfl)
 rw[reL,if_neg (by omega)]
 refine canon_eq 1125899906842624 _ _ ?_ (tell_canon _ _ _ (reP_asc f)) ?_ (tell_lt _ _ _ _ (reP_lt hf)) (fun u hu=>?_)
 ·unfold reC;split
  ·rename_i h0
   have ht1: -1<t:=by rcases Int.lt_or_le (-1) t with h|h;exact h;exact absurd (hbase h) h0
   refine⟨List.pairwise_cons.2 ⟨fun a ha=>by have:=cutR_ge hc.1 t a ha;simp only;omega,hR.1⟩,fun k hk=>?_⟩
   rcases List.mem_cons.1 hk with rfl|hk
   ·exact h0
   ·exact hR.2 k hk
  ·exact hR
 ·intro j hj
  unfold reC at hj
  split at hj
  ·rcases List.mem_cons.1 hj with rfl|hj
   ·simp only;omega
   ·exact (mayJ_at hf j (hin j hj)).2
  ·exact (mayJ_at hf j (hin j hj)).2
 · -- the told one has reV from -1 on, and 0 ahead of it
   have hT: -1≤u→jv (tell (reV f t) (reP f) 0) u=reV f t u:=fun hu1=>by
    have hrp:∃r,reP f= -1::r:=by
     have ha:=reP_asc f
     rcases e:reP f with _|⟨p,r⟩
     ·rw[e] at hm1;simp at hm1
     ·refine⟨r,?_⟩
      rw[e] at hm1 ha
      rcases List.mem_cons.1 hm1 with h|h
      ·rw[←h]
      ·have h1:=(List.pairwise_cons.1 ha).1 _ h
       have h2:p∈reP f:=by rw[e];simp
       rcases (ins_mem _ _ _).1 h2 with rfl|h3
       ·rfl
       ·obtain⟨j,hj,e2⟩:=(plc0_mem f p).1 h3
        have:=(mayJ_at hf j hj).1;omega
    obtain⟨r,hr⟩:=hrp
    have hA:=reP_asc f
    have hL:=reP_lt hf
    rw[hr] at hA hL
    have hmem:∀j∈f,j.1∈((-1:Int)::r):=by rw[←hr];exact hsub
    clear hm1 hsub
    have:=tell_val (reV f t) 1125899906842624 (-1::r) 0 (-1) hA (fun p hp=>⟨by rcases List.mem_cons.1 hp with rfl|hp;omega;exact Int.le_of_lt ((List.pairwise_cons.1 hA).1 p hp),hL p hp⟩) (fun s v k1 k2 k3 k4=>by
     unfold reV
     by_cases h1: -1<t∧v<t
     ·rw[if_pos h1,if_pos ⟨h1.1,by omega⟩]
     ·by_cases h2: -1<t∧s<t
      ·rw[if_pos h2,if_neg h1]
       exact jv_between (by omega) (fun j hj=>by have:=k4 _ (hmem j hj);omega)
      ·rw[if_neg h2,if_neg h1]
       exact jv_between k2 (fun j hj=>k4 _ (hmem j hj))) (fun v k1 k2 k3=>by have:=k3 (-1) (by simp);omega) u hu1 hu
    rw[hr,this];omega
   by_cases hu1: -1≤u
   ·rw[hT hu1]
    have e1:jv (reC f t) u=js (cutL f t)+jv (cutR f t) u:=by
     unfold reC;split
     ·rw[jv,if_pos (by simp only;omega)]
     ·rename_i h0;simp only[ne_eq,Decidable.not_not] at h0;rw[h0];omega
    rw[e1]
    unfold reV
    by_cases h1: -1<t∧u<t
    ·rw[if_pos h1,jv_low (f:=cutR f t) (fun j hj=>by have:=cutR_ge hc.1 t j hj;omega),cutL_js hc.1];omega
    ·rw[if_neg h1]
     have e2:=jv_append (cutL f t) (cutR f t) u
     rw[cut_eq] at e2
     rw[e2]
     by_cases h2: -1<t
     ·rw[jv_high (f:=cutL f t) (fun j hj=>by have:=cutL_lt f t j hj;omega)]
     ·rw[hbase (by omega),jv_low (f:=cutL f t) (fun j hj=>by have:=cutL_lt f t j hj;have:=(mayJ_at hf j (hinL j hj)).1;omega)]
   ·rw[jv_low,jv_low]
    ·intro j hj
     rcases (ins_mem _ _ _).1 (tell_mem _ _ _ j hj).1 with h|h
     ·omega
     ·obtain⟨k,hk,e2⟩:=(plc0_mem f j.1).1 h
      have:=(mayJ_at hf k hk).1;omega
    ·intro j hj
     unfold reC at hj
     split at hj
     ·rcases List.mem_cons.1 hj with rfl|hj
      ·simp only;omega
      ·have:=(mayJ_at hf j (hin j hj)).1;omega
     ·have:=(mayJ_at hf j (hin j hj)).1;omega
def atV(f:List Jp)(t:Int):Int:=if mayJ f then jv f t else 0
def leF(f:List Jp)(m:Int)(g:List Jp):Int:=g.foldl (fun m j=>min m (jv f j.1)) m
def leV(f:List Jp):Int:=if mayJ f then leF f (jv f (-1)) f else 0
theorem leF_snoc(f:List Jp)(m:Int)(g:List Jp)(j:Jp):leF f m (g++[j])=min (leF f m g) (jv f j.1):=by simp[leF]
theorem js_at{f1 f2:List Jp}{j:Jp}(h:Asc (f1++j::f2)):js (f1++[j])=jv (f1++j::f2) j.1:=by
 have h1:=(List.pairwise_append.1 h).2.2
 have h2:=(List.pairwise_cons.1 (List.pairwise_append.1 h).2.1).1
 rw[jv_append,jv,if_pos (Int.le_refl _),jv_low h2,jv_high (fun a ha=>Int.le_of_lt (h1 a ha j (by simp))),js_snoc];omega
end Go.Proofs.YtajelkkiijdegaaGreat
