/-
  A helper of ours: no claim of its own. A region that draws its order and whose operations make memory: if each operation, in whatever grown world, leaves a value of which a fact holds that further growth does not end, then behind the region all the facts hold, whatever the order was.
-/
import Derived.Test.YtajelkkiijdegaaGreatValR
import Derived.Test.YtajelkkiijdegaaGreatStepS
import Derived.Test.YtajelkkiijdegaaGreatValB
import Derived.StringKeys
import Derived.Test.YtajelkkiijdegaaGreatStepE
import Derived.Test.YtajelkkiijdegaaGreatMem
import Derived.Orders
set_option linter.unusedVariables false
set_option linter.unusedSimpArgs false
set_option linter.unusedSectionVars false
set_option maxHeartbeats 64000000
set_option maxRecDepth 100000
set_option maxHeartbeats 64000000
set_option maxRecDepth 100000
namespace Go.Proofs.YtajelkkiijdegaaGreat
open Go.RowKit
theorem text_back'(l:List UInt8)(hl:l.length≤64)(r:List UInt8):textVal 64 (textB l++r) 0=l∧textSt 64 (textB l++r) 0=(r,0):=by
 have h:=num_back (l.length:Int) (by omega) (by omega) (l++r)
 have e:numB (l.length:Int)=grb l.length:=by unfold numB;rw[if_neg (by omega)];simp
 rw[e] at h
 have e2:textB l++r=grb l.length++(l++r):=by unfold textB;rw[List.append_assoc]
 rw[e2]
 have hv:numVal 9 (grb l.length++(l++r)) 0=l.length:=by have:=h.1;omega
 obtain⟨h1,h2⟩:=text_ok (most:=64) h.2 (by rw[hv];omega) (by rw[hv];simp)
 rw[h1,h2,hv]
 simp
theorem rd_num(r:List UInt8):rdE (1::r)=(numSt 10 r 0).2∧rdS (1::r)=numSt 10 r 0∧((numSt 10 r 0).2=0→rdV (1::r)=(1,unz (numVal 10 r 0),⟨#[]⟩)):=by
 have e:rdE (1::r)=(numSt 10 r 0).2:=by simp[rdE]
 refine⟨e,by simp[rdS],fun h=>?_⟩
 unfold rdV
 rw[e,if_pos h]
 simp
theorem rd_text(r:List UInt8):rdE (2::r)=(textSt 64 r 0).2∧rdS (2::r)=textSt 64 r 0∧((textSt 64 r 0).2=0→rdV (2::r)=(2,0,⟨(textVal 64 r 0).toArray⟩)):=by
 have e:rdE (2::r)=(textSt 64 r 0).2:=by simp[rdE]
 refine⟨e,by simp[rdS],fun h=>?_⟩
 unfold rdV
 rw[e,if_pos h]
 simp
theorem val_back{k n:Int}{s:ByteArray}(hn: -9223372036854775808≤n∧n≤9223372036854775807)(h:mayB k n s=true)(l:List UInt8):rdE (valB (k,n,s)++l)=0∧rdV (valB (k,n,s)++l)=(k,n,s)∧rdS (valB (k,n,s)++l)=(l,0):=by
 unfold valB may
 simp only
 rw[h,if_pos rfl]
 rcases may_cases (k:=k) (n:=n) (s:=s) with ⟨rfl,h'⟩|⟨rfl,rfl,h'⟩|⟨hm,_⟩
 ·rw[if_pos rfl,List.cons_append]
  obtain⟨h1,h2⟩:=int_back n hn l
  obtain⟨e1,e2,e3⟩:=rd_num (intB n++l)
  rw[h2] at e1 e2 e3
  rw[e1,e2,e3 rfl,h1,empty_of h']
  exact⟨rfl,rfl,rfl⟩
 ·rw[if_neg (by decide),List.cons_append]
  obtain⟨h1,h2⟩:=text_back' s.data.toList (by rw[size_list];exact h') l
  obtain⟨e1,e2,e3⟩:=rd_text (textB s.data.toList++l)
  rw[h2] at e1 e2 e3
  rw[e1,e2,e3 rfl,h1]
  exact⟨rfl,rfl,rfl⟩
 ·rw[h] at hm;cases hm
theorem valB_len{k n:Int}{s:ByteArray}(hn: -9223372036854775808≤n∧n≤9223372036854775807):(valB (k,n,s)).length≤75:=by
 unfold valB may
 simp only
 split
 ·rename_i h
  split
  ·have:=intB_len hn;simp;omega
  ·rcases may_cases (k:=k) (n:=n) (s:=s) with ⟨rfl,h'⟩|⟨rfl,rfl,h'⟩|⟨hm,_⟩
   ·rename_i h1;exact absurd rfl h1
   ·have:=textB_len h';simp;omega
   ·rw[h] at hm;cases hm
 ·simp
def valsB(l:List Vl):List UInt8:=l.flatMap valB
def rowB(l:List Vl):List UInt8:=if mayR l then UInt8.ofNat l.length::valsB l else []
theorem valsB_cons(x:Vl)(l:List Vl):valsB (x::l)=valB x++valsB l:=by simp[valsB]
theorem valsB_snoc(l:List Vl)(x:Vl):valsB (l++[x])=valsB l++valB x:=by simp[valsB]
theorem back1{x:Vl}(hx:may x=true)(hn:inI x.2.1)(l:List UInt8):rdE (valB x++l)=0∧rdV (valB x++l)=x∧rdS (valB x++l)=(l,0):=val_back (k:=x.1) (n:=x.2.1) (s:=x.2.2) hn hx l
theorem valsB_len:∀l:List Vl,(∀x∈l,inI x.2.1)→(valsB l).length≤75*l.length
 |[],_=>by simp[valsB]
 |x::l,h=>by
  have h1:=valB_len (k:=x.1) (n:=x.2.1) (s:=x.2.2) (h x (by simp))
  have h2:=valsB_len l (fun y hy=>h y (by simp[hy]))
  rw[valsB_cons,List.length_append,List.length_cons]
  have e:valB (x.1,x.2.1,x.2.2)=valB x:=rfl
  rw[e] at h1
  omega
theorem rowB_len{l:List Vl}(h:∀x∈l,inI x.2.1):(rowB l).length≤601:=by
 unfold rowB
 split
 ·rename_i hm
  have:=valsB_len l h
  have:=(mayR_iff.1 hm).1
  simp only[List.length_cons];omega
 ·simp
theorem valsB_inj:∀a b:List Vl,(∀x∈a,may x=true∧inI x.2.1)→(∀x∈b,may x=true∧inI x.2.1)→a.length=b.length→∀p q,valsB a++p=valsB b++q→a=b
 |[],[],_,_,_,_,_,_=>rfl
 |[],_::_,_,_,h,_,_,_=>by simp at h
 |_::_,[],_,_,h,_,_,_=>by simp at h
 |x::a,y::b,ha,hb,hl,p,q,h=>by
  rw[valsB_cons,valsB_cons,List.append_assoc,List.append_assoc] at h
  have h1:=back1 (ha x (by simp)).1 (ha x (by simp)).2 (valsB a++p)
  have h2:=back1 (hb y (by simp)).1 (hb y (by simp)).2 (valsB b++q)
  rw[h] at h1
  have e1:x=y:=h1.2.1.symm.trans h2.2.1
  have e2:valsB a++p=valsB b++q:=by
   have:=h1.2.2.symm.trans h2.2.2
   exact congrArg Prod.fst this
  subst e1
  rw[valsB_inj a b (fun z hz=>ha z (by simp[hz])) (fun z hz=>hb z (by simp[hz])) (by simpa using hl) p q e2]
theorem rowB_inj{a b:List Vl}(ha:mayR a=true)(hb:mayR b=true)(na:∀x∈a,inI x.2.1)(nb:∀x∈b,inI x.2.1):rowB a=rowB b↔a=b:=by
 constructor
 ·intro h
  unfold rowB at h
  rw[if_pos ha,if_pos hb] at h
  obtain⟨la,ma⟩:=mayR_iff.1 ha
  obtain⟨lb,mb⟩:=mayR_iff.1 hb
  injection h with h1 h2
  have hl:a.length=b.length:=by
   have:=congrArg UInt8.toNat h1
   simp at this
   omega
  exact valsB_inj a b (fun x hx=>⟨ma x hx,na x hx⟩) (fun x hx=>⟨mb x hx,nb x hx⟩) hl [] [] (by simpa using h2)
 ·rintro rfl;rfl
end Go.Proofs.YtajelkkiijdegaaGreat
namespace Go.Proofs.YtajelkkiijdegaaGreat
open Go.RowKit
attribute [local go_sem] GW.cell GW.frozen In.eq_true In.le_true In.ne In.ne' In.ne_add In.ne_add' In.lt_add Upto.le_true Upto.le_add Upto.lt_add
theorem lenB_lit{n:Nat}(h:n≤8)(B:Nat)(w:World)(hB:B≤w.heap.size):OwnB (w.alloc (.cells #[.int .u8 (n:Int)] 5)) B (.slice (some ⟨w.heap.size,0,none⟩) 1 1) [UInt8.ofNat n]:=by
 have h1:=World.ownsRow_lit (base:=B) (e:=5) (size:=1) w #[.int .u8 (n:Int)] 1 hB (by decide) rfl
 have e:bs [UInt8.ofNat n]=[.int .u8 (n:Int)]:=by
  simp only[bs,List.map_cons,List.map_nil]
  have:(UInt8.ofNat n).toNat=n:=by simp;omega
  rw[this]
 unfold OwnB
 rw[e]
 exact h1
theorem valB_le(x:Vl)(h:inI x.2.1):(valB x).length≤75:=valB_len (k:=x.1) (n:=x.2.1) (s:=x.2.2) h
theorem rowBytes_c(l:List Vl)(hn:∀x∈l,inI x.2.1)(v:Value)(w:World)(hl:Rw w [] v l):Calls Tryz.prog 176 #[v] w fun e w'=>∃v',e= .returned v'∧OwnB w' w.heap.size v' (rowB l)∧Ext w w':=by
 have h1:=hide (fun w' (hX:Ext w w')=>rowMay_c l v w' (Sl.ext hl hX))
 have hX0:=hide (Ext.refl w)
 obtain⟨A,cap,rfl,hlc,hlm,hat⟩:=rw_form hl
 unfold maxLen at hlm
 replace hat:=hide hat
 clear hl
 cases ha:mayR l
 ·have e:rowB l=[]:=by unfold rowB;rw[ha,if_neg (by decide)]
  rw[e]
  rw[ha] at h1
  clear ha e
  go_enter Tryz.func176,Tryz.ntmps176
  go_wp2_with (go_at_call 55;(with_reducible refine seq_gw (h1.out _ hX0.out) ?_);intro g)
  go_returns
  exact⟨_,rfl,World.ownsRow_nil _ _ _ _,g.grown⟩
 ·have l8:=(mayR_iff.1 ha).1
  have e:rowB l=UInt8.ofNat l.length::valsB l:=by unfold rowB;rw[if_pos ha]
  rw[ha] at h1
  obtain⟨R,hR⟩:∃R,R=rowB l:=⟨_,rfl⟩
  rw[←hR]
  rw[e] at hR
  replace hR:=hide hR
  have hm8:(l.length:Int) % 256=l.length:=by omega
  have hlit:=hide (fun (g:GW w)=>lenB_lit l8 w.heap.size g.val (GW.size g))
  replace hn:=hide hn
  clear ha e
  go_enter Tryz.func176,Tryz.ntmps176
  go_wp2_with (go_at_call 55;(with_reducible refine seq_gw (h1.out _ hX0.out) ?_);intro g)
  have hli:=hlit.out g
  clear hlit h1 hX0 hm8
  go_loopg [3,15] l.length (fun gh vv i wr=>∃(k:Nat) (acc:List UInt8),i= .int .i64 k∧k+gh=l.length∧OwnB wr w.heap.size vv acc∧acc.length≤1+75*k∧Hid (acc=UInt8.ofNat l.length::valsB (l.take k))∧Ext w wr)
  case atStart=>exact⟨0,[UInt8.ofNat l.length],rfl,by omega,hli,by simp,(by show _=_;simp[valsB]),g.grown.alloc _⟩
  case round =>
   obtain⟨k,acc,rfl,hk,ho,hak,hacc,hX⟩:=hrel
   clear hli
   have hzX:=hX.size
   by_cases hlt:k<l.length
   ·obtain⟨x,hx⟩:∃x,l[k]? = some x:=⟨_,List.getElem?_eq_getElem hlt⟩
    obtain⟨b,o,rfl, -,hb',c0,c1,c2⟩:=hat.out k x hx
    have k0:=cell_later hX c0
    have k1:=cell_later hX c1
    have k2:=cell_later hX c2
    have hbr:b<wr.heap.size:=block_lt_of_cell k0
    have hxn:=hn.out x (List.mem_of_getElem? hx)
    have hVl:=valB_le x hxn
    have hvb:=hide (fun w=>vbytes_c x.1 x.2.1 x.2.2 hxn w)
    rw[show (x.1,x.2.1,x.2.2)=x from rfl] at hvb
    have hnx:=hide (show acc++valB x=UInt8.ofNat l.length::valsB (l.take (k+1)) by rw[List.take_add_one,hx,hacc.out,Option.toList_some,valsB_snoc];rfl)
    obtain⟨B,hB⟩:∃B,B=valB x:=⟨_,rfl⟩
    rw[←hB] at hVl hvb hnx
    replace hB:=hide hB
    obtain⟨xk,xn,xs⟩:=x
    clear hx c0 c1 c2 hacc hxn
    go_wp2_with (first|(go_at_call 227;refine (hvb.out _).mono ?_;rintro ee w1 ⟨v1,rfl,ho1,hx1⟩;have hz1:=hx1.size)|(at_builtin;(refine wpl_app tBytes rfl (.tmp 19) (.tmp 21) rfl rfl (own_ext ho (((Ext.refl wr).alloc _).trans hx1)) rfl (src_sl Tryz.underlying229 (Sl.own (S:=[]) ho1 (by simp)) (bs_one _) (by omega)) (by unfold maxLen;omega) (by omega) (by simp only[World.size_alloc] at hz1;omega) ?_;intro v2 w2 ho2 hg2 _;replace ho2:=own_app ho2)))
    go_roundg (l.length-(k+1))
    case measure=>omega
    case rel=>exact⟨k+1,acc++B,by go_num,by omega,ho2,by rw[List.length_append];omega,hnx,ext_grown (hX.trans ((((Ext.refl wr).alloc _).trans hx1))) hg2 (fun k hk=>(ho.lt k hk).1)⟩
   ·have hk':k=l.length:=by omega
    have hge:(l.length:Int)≤k:=by omega
    have hac:=hacc.out
    rw[List.take_of_length_le (by omega)] at hac
    have hRa:=hide (hR.out.trans hac.symm)
    replace hk':=hide hk'
    clear hac
    go_wp2_with fail
    go_returns
    rw[hRa.out]
    exact⟨_,rfl,ho,hX⟩
theorem rowKey_c(l:List Vl)(hn:∀x∈l,inI x.2.1)(v:Value)(w:World)(hl:Rw w [] v l):Calls Tryz.prog 123 #[v] w fun e w'=>e= .returned (.string ⟨(rowB l).toArray⟩)∧Ext w w':=by
 have hc:=hide (rowBytes_c l hn v w hl)
 generalize rowB l=B at *
 clear hl
 go_enter Tryz.func123,Tryz.ntmps123
 go_wp2_with (go_at_call 176;refine hc.out.mono ?_;rintro ee w1 ⟨v1,rfl,ho1,hx1⟩;have hcv:=run_str (P:=Tryz.prog) Tryz.underlying229 Tryz.underlying5 Tryz.underlying9 (Sl.own (S:=[]) ho1 (by simp)))
 go_returns
 exact⟨rfl,hx1⟩
def jmpAt(T:List Fe)(r:List Vl):List Jp:=match getM (fent rowB) T (.string (rowB r)) with
 |some q=>q.2.2.2
 |none=>[]
end Go.Proofs.YtajelkkiijdegaaGreat
namespace Go.Proofs.YtajelkkiijdegaaGreat
def idxP{α:Type}(p:α→Bool):Nat→List α→Int
 |_,[]=> -1
 |k,x::r=>if p x then idxP p (k+1) r else k
theorem idxP_yes{α:Type}{p:α→Bool}{k:Nat}{x:α}{r:List α}(h:p x=true):idxP p k (x::r)=idxP p (k+1) r:=by
 show (if p x then _ else _)=_
 rw[h];rfl
theorem idxP_no{α:Type}{p:α→Bool}{k:Nat}{x:α}{r:List α}(h:p x=false):idxP p k (x::r)=k:=by
 show (if p x then _ else _)=_
 rw[h];rfl
theorem idxP_ge{α:Type}(p:α→Bool):∀(k:Nat) (l:List α),decide ((0:Int)≤idxP p k l)= !l.all p
 |_,[]=>rfl
 |k,x::r=>by
  rw[List.all_cons]
  cases h:p x
  ·rw[idxP_no h];simp
  ·rw[idxP_yes h,Bool.true_and];exact idxP_ge p (k+1) r
def eqP{α β:Type}(p:α→β→Bool):List α→List β→Bool
 |[],[]=>true
 |x::a,y::b=>p x y && eqP p a b
 |[],_::_=>false
 |_::_,[]=>false
theorem eqP_yes{α β:Type}{p:α→β→Bool}{x:α}{y:β}{a:List α}{b:List β}(h:p x y=true):eqP p (x::a) (y::b)=eqP p a b:=by
 show (p x y && eqP p a b)=_
 rw[h,Bool.true_and]
theorem eqP_no{α β:Type}{p:α→β→Bool}{x:α}{y:β}{a:List α}{b:List β}(h:p x y=false):eqP p (x::a) (y::b)=false:=by
 show (p x y && eqP p a b)=_
 rw[h,Bool.false_and]
theorem eqP_len{α β:Type}{p:α→β→Bool}:∀ {a:List α} {b:List β},a.length≠b.length→eqP p a b=false
 |[],[],h=>absurd rfl h
 |[],_::_,_=>rfl
 |_::_,[],_=>rfl
 |x::a,y::b,h=>by
  show (p x y && eqP p a b)=_
  rw[eqP_len (a:=a) (b:=b) (fun e=>h (by simp[e])),Bool.and_false]
end Go.Proofs.YtajelkkiijdegaaGreat
namespace Go.Proofs.YtajelkkiijdegaaGreat
open Go.RowKit
attribute [local go_sem] GW.cell GW.frozen In.eq_true In.le_true In.ne In.ne' In.ne_add In.ne_add' In.lt_add Upto.le_true Upto.le_add Upto.lt_add
def ltP(mk:Int)(j:Jp):Bool:=decide (j.1<mk)
theorem bagLateP_c(kf:List Vl→List UInt8)(S:List Nat)(B mb n:Nat)(mk:Int)(T:List Fe)(q:List Vl)(j:Jp)(v:Value)(w:World)(h:Bg kf w S B mb n mk T)(hq:Rw w [] v q):Calls Tryz.prog 64 #[.pointer (some ⟨B,0,none⟩),em v j] w fun e w'=>e= .returned (.bool (ltP mk j))∧Ext w w':=bagLate_c kf S B mb n mk T q j v w h hq
theorem Bg.ext{kf:List Vl→List UInt8}{w w':World}{S:List Nat}{B mb n:Nat}{mk:Int}{T:List Fe}(h:Bg kf w S B mb n mk T)(k:Ext w w'):Bg kf w' S B mb n mk T:=⟨h.1.ext k,h.2.1.kept (ext_by k) (by simp),fun p hp=>⟨Sl.ext (h.2.2 p hp).1 k,Sl.ext (h.2.2 p hp).2 k⟩⟩
theorem indexLate_c(kf:List Vl→List UInt8)(S:List Nat)(B mb n:Nat)(mk:Int)(T:List Fe)(L:List Ve)(v:Value)(w:World)(hcb0:Bg kf w S B mb n mk T)(h:Ew w [] v L):Calls Tryz.prog 121 #[v, .func (.func 64) #[.pointer (some ⟨B,0,none⟩)] #[]] w fun e w'=>e= .returned (.int .i64 (idxP (fun x:Ve=> !ltP mk x.2.2) 0 L))∧Ext w w':=by
 obtain⟨A,cap,rfl,hl,hm,hat⟩:=ew_form h
 unfold maxLen at hm
 replace hat:=hide hat
 have hcb:=hide hcb0
 clear hcb0
 have hrows:=hide h.2
 clear h
 obtain⟨R,hR⟩:∃R,R=idxP (fun x:Ve=> !ltP mk x.2.2) 0 L:=⟨_,rfl⟩
 rw[←hR]
 replace hR:=hide hR
 go_enter Tryz.func121,Tryz.ntmps121
 go_wp2_with fail
 go_loopg [8] L.length (fun gh i wr=>∃(k:Nat),i= .int .i64 k∧k+gh=L.length∧Hid (R=idxP (fun x:Ve=> !ltP mk x.2.2) k (L.drop k))∧Ext w wr)
 case atStart=>exact⟨0,rfl,by omega,by simpa using hR,Ext.refl w⟩
 case round =>
  obtain⟨k,rfl,hk,hRk,hX⟩:=hrel
  clear hR
  by_cases hlt:k<L.length
  ·obtain⟨x,hx⟩:∃x,L[k]? = some x:=⟨_,List.getElem?_eq_getElem hlt⟩
   obtain⟨b,o,rfl, -,hb,c0,c1,c2⟩:=hat.out k x hx
   have k0:=cell_later hX c0
   have k1:=cell_later hX c1
   have k2:=cell_later hX c2
   have hbr:b<wr.heap.size:=block_lt_of_cell k0
   have hrw:=Sl.ext (hrows.out x (List.mem_of_getElem? hx)) hX
   have hR2:=hRk.out
   rw[drop_cons hx] at hR2
   obtain⟨xv,xq,xa,xn⟩:=x
   simp only at k0 k1 k2 hrw
   have hin:=hide (fun w' (hXw:Ext wr w')=>bagLateP_c kf S B mb n mk T xq (xa,xn) xv w' (hcb.out.ext (hX.trans hXw)) (Sl.ext hrw hXw))
   have hX00:=hide (Ext.refl wr)
   obtain⟨XA,xcap,rfl⟩:=rw_val hrw
   clear c0 c1 c2 hat hx hrows hrw
   cases hmx:ltP mk (xa,xn)
   ·rw[hmx] at hin
    rw[idxP_yes (p:=(fun x:Ve=> !ltP mk x.2.2)) (x:=(.slice XA xq.length xcap,xq,xa,xn)) (by simp only;rw[hmx];rfl)] at hR2
    replace hR2:=hide hR2
    replace hmx:=hide hmx
    go_wp2_with (go_at_call 64;(with_reducible refine seq_gw (hin.out _ hX00.out) ?_);intro g)
    go_roundg (L.length-(k+1))
    case measure=>omega
    case rel=>exact⟨k+1,by go_num,by omega,hR2,hX.trans g.grown⟩
   ·rw[hmx] at hin
    rw[idxP_no (p:=(fun x:Ve=> !ltP mk x.2.2)) (x:=(.slice XA xq.length xcap,xq,xa,xn)) (by simp only;rw[hmx];rfl)] at hR2
    replace hR2:=hide hR2
    replace hmx:=hide hmx
    go_wp2_with (go_at_call 64;(with_reducible refine seq_gw (hin.out _ hX00.out) ?_);intro g)
    go_returns
    exact⟨by rw[hR2.out];rfl,hX.trans g.grown⟩
  ·have hk':k=L.length:=by omega
   have hge:(L.length:Int)≤k:=by omega
   have hR2:=hRk.out
   rw[hk',List.drop_length] at hR2
   replace hR2:=hide hR2
   replace hk':=hide hk'
   go_wp2_with fail
   go_returns
   exact⟨by rw[hR2.out];rfl,hX⟩
theorem containsLate_c(kf:List Vl→List UInt8)(S:List Nat)(B mb n:Nat)(mk:Int)(T:List Fe)(L:List Ve)(v:Value)(w:World)(hcb0:Bg kf w S B mb n mk T)(h:Ew w [] v L):Calls Tryz.prog 63 #[v, .func (.func 64) #[.pointer (some ⟨B,0,none⟩)] #[]] w fun e w'=>e= .returned (.bool (!L.all (fun x:Ve=> !ltP mk x.2.2)))∧Ext w w':=by
 have hc:=hide (indexLate_c kf S B mb n mk T L v w hcb0 h)
 have e:=hide (idxP_ge (fun x:Ve=> !ltP mk x.2.2) 0 L)
 generalize idxP (fun x:Ve=> !ltP mk x.2.2) 0 L=z at *
 obtain⟨A,cap,rfl, -, -, -⟩:=ew_form h
 clear h
 go_enter Tryz.func63,Tryz.ntmps63
 go_wp2_with (go_at_call 121;(with_reducible refine seq_gw hc.out ?_);intro g)
 go_returns
 exact⟨by rw[←e.out];first|rfl|simp,g.grown⟩
end Go.Proofs.YtajelkkiijdegaaGreat
namespace Go.Proofs.YtajelkkiijdegaaGreat
open Go.RowKit
def acycB(ops:Array Oper):Bool:=(List.range ops.size).all fun i=>match ops[i]? with
 |some o=>o.after.all fun e=> !Region.binds .any e || decide (e.on<i)
 |none=>true
def dstsOf(ops:Array Oper):List Tmp:=ops.toList.filterMap (·.dst)
def dstsB(ops:Array Oper)(n:Nat):Bool:=(dstsOf ops).all (fun d=>decide (d<n)) && (List.range ops.size).all fun i=>(List.range ops.size).all fun j =>
 i == j || match ops[i]?,ops[j]? with
   |some o,some p=>(match o.dst,p.dst with|some d,some c=>d != c|_,_=>true)
   |_,_=>true
def depB(ops:Array Oper)(i j:Nat):Bool:=match ops[i]? with
 |some o=>o.after.any fun e=>Region.binds .any e && e.on == j
 |none=>false
def cntF:List Bool→Nat
 |[]=>0
 |b::r=>(if b then 0 else 1)+cntF r
theorem cntF_set:∀(l:List Bool) (i:Nat),l[i]? = some false→cntF (l.set i true)+1=cntF l
 |b::r,0,h=>by simp at h;subst h;simp[cntF];omega
 |b::r,i+1,h=>by have:=cntF_set r i (by simpa using h);simp only[List.set_cons_succ,cntF];omega
theorem cntF_rep(n:Nat):cntF (List.replicate n false)=n:=by induction n with
 |zero=>rfl
 |succ n ih=>simp[List.replicate_succ,cntF,ih];omega
theorem getD_some{l:Array Bool}{i:Nat}{d:Bool}(h:i<l.size):l[i]? = some (l.getD i d):=by
 simp[Array.getD,h]
section
variable {P:Program} {ops:Array Oper} {Φ:Nat→Value→World→Prop} {Q:Exit→Act→World→Prop} {a:Act} {W:World}
structure RInv (ops:Array Oper) (Φ:Nat→Value→World→Prop) (a:Act) (W:World) (listed:Array Bool) (b:Act) (w:World):Prop where
 ext:Ext W w
 defers:b.defers=a.defers
 size:b.tmps.size=a.tmps.size
 len:listed.size=ops.size
 else_:∀t,t∉dstsOf ops→b.tmps.getD t undef=a.tmps.getD t undef
 fact:∀j o d,ops[j]? = some o→listed.getD j false=true→o.dst=some d→Φ j (b.tmps.getD d undef) w
structure RAt (ops:Array Oper) (Φ:Nat→Value→World→Prop) (a:Act) (W:World) (i:Nat) (b:Act) (w:World):Prop where
 ext:Ext W w
 defers:b.defers=a.defers
 size:b.tmps.size=a.tmps.size
 else_:∀t,t∉dstsOf ops→b.tmps.getD t undef=a.tmps.getD t undef
 dep:∀j o d,depB ops i j=true→ops[j]? = some o→o.dst=some d→Φ j (b.tmps.getD d undef) w
def RGood(P:Program)(ops:Array Oper)(Φ:Nat→Value→World→Prop)(Q:Exit→Act→World→Prop)(i:Nat)(o:Oper)(b:Act)(w:World):Prop :=
 (Region.wanted o (yielded ops b.tmps)=true∧o.wp P b w (fun b' w'=>∃v,b'=b.put o.dst v∧Φ i v w'∧Ext w w') Q)∨(Region.wanted o (yielded ops b.tmps)=false∧Φ i undef w)
theorem all_listed(hB:acycB ops=true){listed:Array Bool}(hl:listed.size=ops.size)(hr:Region.ready .any ops listed=[]):∀j,j<ops.size→listed.getD j false=true:=by
 intro j
 induction j using Nat.strongRecOn with
 |ind j ih =>
  intro hj
  cases h:listed.getD j false with
  |true=>rfl
  |false =>
   exfalso
   have hjl:j<listed.size:=by omega
   have ho:ops[j]? = some ops[j]:=Array.getElem?_eq_getElem hj
   have hacy:=List.all_eq_true.1 hB j (List.mem_range.2 hj)
   rw[ho] at hacy
   have:j∈Region.ready .any ops listed:=mem_ready.2 ⟨by
    have e1:=getD_some (l:=listed) (d:=false) hjl
    have e2:=getD_some (l:=listed) (d:=true) hjl
    rw[e1] at e2;rw[←Option.some.inj e2];exact h,_,ho,fun e he hb=>by
    have h2:=Array.all_eq_true_iff_forall_mem.1 hacy e he
    simp[hb] at h2
    exact ih e.on h2 (by omega)⟩
   rw[hr] at this;cases this
theorem put_other{b:Act}{dst:Option Tmp}{v:Value}{t:Nat}(h:dst≠some t):(b.put dst v).tmps.getD t undef=b.tmps.getD t undef:=by
 cases dst with
 |none=>rfl
 |some d =>
  have:d≠t:=fun e=>h (by rw[e])
  simp[Act.put,Array.getD_eq_getD_getElem?,Array.getElem?_setIfInBounds,this]
theorem put_same{b:Act}{d:Nat}{v:Value}(h:d<b.tmps.size):(b.put (some d) v).tmps.getD d undef=v:=by
 simp[Act.put,Array.getD_eq_getD_getElem?,Array.getElem?_setIfInBounds,h]
theorem put_defers{b:Act}{dst:Option Tmp}{v:Value}:(b.put dst v).defers=b.defers:=by cases dst<;>rfl
theorem put_size{b:Act}{dst:Option Tmp}{v:Value}:(b.put dst v).tmps.size=b.tmps.size:=by cases dst<;>simp[Act.put]
theorem frame_puts{b a:Act}{D:List Tmp}(hd:b.defers=a.defers)(hz:b.tmps.size=a.tmps.size)(he:∀t,t∉D→b.tmps.getD t undef=a.tmps.getD t undef) :
 b=D.foldl (fun f d=>f.put (some d) (b.tmps.getD d undef)) a:=by
 have key:∀(D:List Tmp) (f:Act),f.defers=b.defers→f.tmps.size=b.tmps.size→(∀t,t∉D→b.tmps.getD t undef=f.tmps.getD t undef)→b=D.foldl (fun f d=>f.put (some d) (b.tmps.getD d undef)) f:=by
  intro D
  induction D with
  |nil =>
   intro f h1 h2 h3
   obtain⟨bt,bd⟩:=b
   obtain⟨ft,fd⟩:=f
   simp only at h1 h2 h3
   subst h1
   have:bt=ft:=by
    apply Array.ext
    ·exact h2.symm
    ·intro i hi hj
     have:=h3 i (by simp)
     rw[Array.getD_eq_getD_getElem?,Array.getD_eq_getD_getElem?,Array.getElem?_eq_getElem hi,Array.getElem?_eq_getElem hj] at this
     simpa using this
   rw[this];rfl
  |cons d D ih =>
   intro f h1 h2 h3
   refine ih _ (put_defers.trans h1) (put_size.trans h2) fun t ht=>?_
   by_cases htd:t=d
   ·subst htd
    by_cases hlt:t<f.tmps.size
    ·rw[put_same hlt]
    ·have e1:∀(c:Act),¬t<c.tmps.size→c.tmps.getD t undef=undef:=fun c h=>by simp[Array.getD,h]
     rw[e1 b (by rw[←h2];exact hlt),e1 _ (by rw[put_size];exact hlt)]
   ·rw[put_other (fun e=>htd (Option.some.inj e).symm)]
    exact h3 t (by simp[htd,ht])
 exact key D a hd.symm hz.symm he
def RSteps(S:Nat→Oper→Prop):Nat→List Oper→Prop
 |_,[]=>True
 |k,o::r=>S k o∧RSteps S (k+1) r
theorem RSteps.get{S:Nat→Oper→Prop}:∀(k:Nat) (l:List Oper),RSteps S k l→∀j o,l[j]? = some o→S (k+j) o
 |k,[],_,j,o,h=>by simp at h
 |k,p::r,⟨h0,h1⟩,0,o,h=>by simp at h;subst h;exact h0
 |k,p::r,⟨h0,h1⟩,j+1,o,h=>by
  have:=RSteps.get (k+1) r h1 j o (by simpa using h)
  rwa [show k+1+j=k+(j+1) by omega] at this
inductive Fact where
 |is (v:Value)
 |bytes (l:List UInt8)
 |st (p:Value→World→Prop) (h:∀v w w',p v w→Ext w w'→p v w')
 |any
def Fact.holds:Fact→Value→World→Prop
 | .is u,v,_=>v=u
 | .bytes l,v,w=>By w [] v l
 | .st p _,v,w=>p v w
 | .any,_,_=>True
theorem Fact.stays(f:Fact)(v:Value)(w w':World)(h:f.holds v w)(hx:Ext w w'):f.holds v w':=by
 cases f with
 |is u=>exact h
 |bytes l=>exact Sl.ext h hx
 |st p hp=>exact hp v w w' h hx
 |any=>trivial
def factsOf(L:List Fact)(i:Nat)(v:Value)(w:World):Prop:=(L.getD i .any).holds v w
section
variable {i:Nat} {o:Oper} {b:Act} {w:World}
theorem good_run{v:Value}(hg:Region.wanted o (yielded ops b.tmps)=true)(hr:(execOp b.eval o).run P w= .ok (.value v) w)(hΦ:Φ i v w):RGood P ops Φ Q i o b w :=
 .inl ⟨hg,by unfold Oper.wp;rw[hr];exact⟨v,rfl,hΦ,Ext.refl w⟩⟩
theorem good_move{x:Operand}(hg:Region.wanted o (yielded ops b.tmps)=true)(ho:o.op= .move x)(hΦ:Φ i (b.eval x) w):RGood P ops Φ Q i o b w :=
 good_run hg (by simp[execOp,ho,Sem.run_pure]) hΦ
theorem exec_binOp{ρ:Operand→Value}{op:BinOp}{t ty:TypeId}{x y:Operand}{u1 u2 v:Value}(ho:o.op= .binOp op t x y ty)(hx:ρ x=u1)(hy:ρ y=u2)
 (hg:(eqGuard op t x y u1 u2).run P w= .ok () w) (hr:(binOp op t u1 u2).run P w= .ok v w):(execOp ρ o).run P w= .ok (.value v) w:=by
 simp only[execOp,ho,hx,hy,Sem.run_bind,hg,hr,Sem.run_pure,Result.andThen_ok]
theorem good_bin{op:BinOp}{t ty:TypeId}{x y:Operand}{u1 u2 v:Value}(hg:Region.wanted o (yielded ops b.tmps)=true)(ho:o.op= .binOp op t x y ty)(hx:b.eval x=u1)(hy:b.eval y=u2)
 (he:(eqGuard op t x y u1 u2).run P w= .ok () w) (hr:(binOp op t u1 u2).run P w= .ok v w) (hΦ:Φ i v w):RGood P ops Φ Q i o b w :=
 good_run hg (exec_binOp ho hx hy he hr) hΦ
def boolOf:Value→Option Bool
 | .bool c=>some c
 |_=>none
theorem yields_of{k d:Nat}{v:Value}(hd:(ops[k]?).bind (·.dst)=some d)(h:b.tmps.getD d undef=v):yielded ops b.tmps k=boolOf v:=by
 unfold yielded
 rw[hd]
 simp only[Option.bind_some]
 rw[Array.getD_eq_getD_getElem?] at h
 cases e:b.tmps[d]? with
 |none=>rw[e] at h;subst h;rfl
 |some u=>rw[e] at h;simp only[Option.getD_some] at h;subst h;cases u<;>rfl
theorem wanted_yes{k d:Nat}{c:Bool}(hg:o.guard=some (k,c))(hd:(ops[k]?).bind (·.dst)=some d)(h:b.tmps.getD d undef= .bool c):Region.wanted o (yielded ops b.tmps)=true:=by
 unfold Region.wanted
 rw[hg]
 simp only[yields_of hd h,boolOf,beq_self_eq_true]
theorem wanted_none(hg:o.guard=none):Region.wanted o (yielded ops b.tmps)=true:=by unfold Region.wanted;rw[hg]
theorem enters{f:FuncId}{fn:Func}{c:Code}(hf:P.funcs[f]? = some fn)(hname:(fn.name == "runtime.NumGoroutine")=false)(hb:fn.body=some c):∀args w,(callFunc f args).run P w= .ok (.enter f args) w:=by
 intro args w
 have h1:fn.name≠ "runtime.NumGoroutine" := by simpa using hname
 simp[callFunc,hf,h1,hb,mark]
theorem exec_nilCheck{ρ:Operand→Value}{x:Operand}{ad:Addr}(ho:o.op= .nilCheck x)(hx:ρ x= .pointer (some ad)):(execOp ρ o).run P w= .ok (.value (.pointer (some ad))) w:=by simp[execOp,ho,hx,go_sem]
theorem good_nilCheck{x:Operand}{ad:Addr}(hg:Region.wanted o (yielded ops b.tmps)=true)(ho:o.op= .nilCheck x)(hx:b.eval x= .pointer (some ad))(hΦ:Φ i (.pointer (some ad)) w):RGood P ops Φ Q i o b w :=
 good_run hg (exec_nilCheck ho hx) hΦ
theorem exec_field{ρ:Operand→Value}{t:TypeId}{x:Operand}{k:Nat}{u v:Value}(ho:o.op= .fieldAddr t x k)(hx:ρ x=u)(hr:(Instr.fieldAt t u k).run P w= .ok v w):(execOp ρ o).run P w= .ok (.value v) w:=by
 simp only[execOp,ho,hx,Sem.run_bind,hr,Sem.run_pure,Result.andThen_ok]
theorem good_field{t:TypeId}{x:Operand}{k:Nat}{u v:Value}(hg:Region.wanted o (yielded ops b.tmps)=true)(ho:o.op= .fieldAddr t x k)(hx:b.eval x=u)(hr:(Instr.fieldAt t u k).run P w= .ok v w)(hΦ:Φ i v w):RGood P ops Φ Q i o b w :=
 good_run hg (exec_field ho hx hr) hΦ
theorem exec_index{ρ:Operand→Value}{t:TypeId}{x y:Operand}{u u' v:Value}(ho:o.op= .indexAddr t x y)(hx:ρ x=u)(hy:ρ y=u')(hr:(Instr.indexAt t u u').run P w= .ok v w):(execOp ρ o).run P w= .ok (.value v) w:=by
 simp only[execOp,ho,hx,hy,Sem.run_bind,hr,Sem.run_pure,Result.andThen_ok]
theorem good_index{t:TypeId}{x y:Operand}{u u' v:Value}(hg:Region.wanted o (yielded ops b.tmps)=true)(ho:o.op= .indexAddr t x y)(hx:b.eval x=u)(hy:b.eval y=u')(hr:(Instr.indexAt t u u').run P w= .ok v w)(hΦ:Φ i v w):RGood P ops Φ Q i o b w :=
 good_run hg (exec_index ho hx hy hr) hΦ
theorem exec_load{ρ:Operand→Value}{t:TypeId}{x:Operand}{u v:Value}(ho:o.op= .load t x)(hx:ρ x=u)(hr:(Instr.loadAt t u).run P w= .ok v w):(execOp ρ o).run P w= .ok (.value v) w:=by
 simp only[execOp,ho,hx,Sem.run_bind,hr,Sem.run_pure,Result.andThen_ok]
theorem good_load{t:TypeId}{x:Operand}{u v:Value}(hg:Region.wanted o (yielded ops b.tmps)=true)(ho:o.op= .load t x)(hx:b.eval x=u)(hr:(Instr.loadAt t u).run P w= .ok v w)(hΦ:Φ i v w):RGood P ops Φ Q i o b w :=
 good_run hg (exec_load ho hx hr) hΦ
theorem exec_len{ρ:Operand→Value}{t ty:TypeId}{x:Operand}{A:Option Addr}{n c:Nat}{e:TypeId}(ho:o.op= .call { callee:= .builtin .len,args:= #[x],argTypes:= #[t]})(ht:P.underlying t=some (.slice e))(hx:ρ x= .slice A n c):(execOp ρ o).run P w= .ok (.value (.int .i64 n)) w:=by
 simp[execOp,ho,resolve,invoke,builtin,hx,go_sem,ht,Builtin.len_,run_underlying ht,goInt]
theorem good_len{t:TypeId}{x:Operand}{A:Option Addr}{n c:Nat}{e:TypeId}(hg:Region.wanted o (yielded ops b.tmps)=true)(ho:o.op= .call { callee:= .builtin .len,args:= #[x],argTypes:= #[t]})(ht:P.underlying t=some (.slice e))(hx:b.eval x= .slice A n c)(hΦ:Φ i (.int .i64 n) w):RGood P ops Φ Q i o b w :=
 good_run hg (exec_len (ty:=0) ho ht hx) hΦ
theorem good_call{f:FuncId}{xs:Array Operand}{ats:Array TypeId}(hg:Region.wanted o (yielded ops b.tmps)=true)(ho:o.op= .call { callee:= .value (.func f),args:=xs,argTypes:=ats})
 (he:∀args w,(callFunc f args).run P w= .ok (.enter f args) w) (hc:Calls P f (xs.map b.eval) w fun e w'=>∃v,e= .returned v∧Φ i v w'∧Ext w w'):RGood P ops Φ Q i o b w:=by
 refine .inl ⟨hg,?_⟩
 unfold Oper.wp
 have:(execOp b.eval o).run P w= .ok (.enter f (xs.map b.eval)) w:=by
  simp[execOp,ho,resolve,Act.eval,Deferred.ofValue,invoke,he,go_sem]
 rw[this]
 exact hc.mono fun e w' ⟨v,he,h1,h2⟩=>by subst he;exact⟨v,rfl,h1,h2⟩
end
end
end Go.Proofs.YtajelkkiijdegaaGreat
