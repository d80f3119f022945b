/-
  A helper of ours: no claim of its own. Layer 12 (bag): how many edges a bag has with others in place, by the code.
-/
import Derived.Maps.RangeWalk
import Derived.Maps.OwnSet
import Derived.Test.YtajelkkiijdegaaGreatEdgA
import Derived.BigQuiet
set_option linter.unusedVariables false
set_option linter.unusedSimpArgs false
set_option linter.unusedSectionVars false
set_option maxHeartbeats 64000000
set_option maxRecDepth 100000
namespace Go.Proofs.YtajelkkiijdegaaGreat
open Go.Maps (Keyed)
def anyE(v:Value):Option (DataW Value×List MemPlace):=some (.held v,[])
def entE{α:Type}(f:α→Lit×Value)(q:α):Lit×DataW Value:=((f q).1, .held (f q).2)
def Mv{α:Type}(w:World)(P:Program)(k:TypeId)(f:α→Lit×Value)(b n:Nat)(M:List α):Prop:=∃es,w.ownsMap P k anyE b n (.map es)∧es.Perm (M.map (entE f))
def getM{α:Type}(f:α→Lit×Value)(M:List α)(kl:Lit):Option α:=M.find? fun q=>(f q).1.sameKey kl
def delM{α:Type}(f:α→Lit×Value)(M:List α)(kl:Lit):List α:=M.filter fun q=> !(f q).1.sameKey kl
def putM{α:Type}(f:α→Lit×Value)(M:List α)(x:α):List α:=x::delM f M (f x).1
section
variable {α:Type} {f:α→Lit×Value} {P:Program} {k:TypeId} {w w':World} {b n:Nat} {M:List α}
theorem Mv.made{α:Type}(f:α→Lit×Value)(w:World)(P:Program)(k:TypeId):Mv (w.alloc (.map #[] 0)) P k f w.heap.size 0 []:=⟨[],World.ownsMap_made w P k anyE,List.Perm.refl _⟩
theorem Mv.lt(h:Mv w P k f b n M):b<w.heap.size:=by obtain⟨es,h,_⟩:=h;exact h.lt
theorem Mv.kept{row:Option Nat}(h:Mv w P k f b n M)(hg:w.grownBy w' row)(hne:some b≠row):Mv w' P k f b n M:=by obtain⟨es,h,p⟩:=h;exact⟨es,h.kept hg hne,p⟩
theorem Mv.alloc(h:Mv w P k f b n M)(o:Obj):Mv (w.alloc o) P k f b n M:=by obtain⟨es,h,p⟩:=h;exact⟨es,h.alloc o,p⟩
theorem Mv.perm(h:Mv w P k f b n M){M':List α}(hp:M.Perm M'):Mv w P k f b n M':=by obtain⟨es,h,p⟩:=h;exact⟨es,h,p.trans (hp.map _)⟩
theorem Mv.apart(h:Mv w P k f b n M)(K:Keyed P k):M.Pairwise (fun p q=>(f p).1≠(f q).1)∧∀q∈M,WideAt.IsKeyLit (f q).1:=by
 obtain⟨es,h,p⟩:=h
 obtain⟨es',e,h1,h2⟩:=h.entries K
 injection e with e
 subst e
 have h3:(M.map (entE f)).Pairwise (fun p q=>p.1≠q.1):=(p.pairwise_iff (fun {a b} hab=>Ne.symm hab)).1 h1
 rw[List.pairwise_map] at h3
 exact⟨h3,fun q hq=>h2 (entE f q) (p.mem_iff.2 (List.mem_map.2 ⟨q,hq,rfl⟩))⟩
theorem find_perm{kl:Lit}{l l':List (Lit×DataW Value)}(p:l.Perm l')(hd:l.Pairwise (fun p q=>p.1≠q.1)):l.find? (fun p=>p.1.sameKey kl)=l'.find? (fun p=>p.1.sameKey kl):=by
 induction p with
 |nil=>rfl
 |cons x _ ih =>
  rw[List.find?_cons,List.find?_cons,ih (List.pairwise_cons.1 hd).2]
 |swap x y l =>
  have hxy:y.1≠x.1:=(List.pairwise_cons.1 hd).1 x (by simp)
  rw[List.find?_cons,List.find?_cons,List.find?_cons,List.find?_cons]
  cases h1:y.1.sameKey kl<;>cases h2:x.1.sameKey kl<;>simp_all
  exact absurd ((WideAt.sameKey_eq h1).trans (WideAt.sameKey_eq h2).symm) hxy
 |trans p1 _ ih1 ih2 =>
  rw[ih1 hd]
  exact ih2 ((p1.pairwise_iff (fun {a b} hab=>Ne.symm hab)).1 hd)
theorem any_permM{α:Type}{l m:List α}(p:l.Perm m)(f:α→Bool):l.any f=m.any f:=by
 rw[Bool.eq_iff_iff,List.any_eq_true,List.any_eq_true]
 exact⟨fun ⟨x,hx,e⟩=>⟨x,p.mem_iff.1 hx,e⟩,fun ⟨x,hx,e⟩=>⟨x,p.mem_iff.2 hx,e⟩⟩
theorem insert_perm(x:Lit×DataW Value):∀l:List (Lit×DataW Value),(DataW.insert x l).Perm (x::l)
 |[]=>List.Perm.refl _
 |y::r=>by
  unfold DataW.insert
  split
  ·exact List.Perm.refl _
  ·exact ((insert_perm x r).cons y).trans (List.Perm.swap x y r)
theorem find_ents(f:α→Lit×Value)(kl:Lit):∀M:List α,(M.map (entE f)).find? (fun p=>p.1.sameKey kl)=(M.find? fun q=>(f q).1.sameKey kl).map (entE f)
 |[]=>rfl
 |q::M=>by
  rw[List.map_cons,List.find?_cons,List.find?_cons,find_ents f kl M]
  show (match (f q).1.sameKey kl with|true=>_|false=>_)=_
  cases (f q).1.sameKey kl<;>rfl
theorem filter_ents(f:α→Lit×Value)(kl:Lit)(M:List α):(M.map (entE f)).filter (fun p=> !p.1.sameKey kl)=(delM f M kl).map (entE f):=by
 unfold delM
 rw[List.filter_map];rfl
theorem Mv.at(h:Mv w P k f b n M)(K:Keyed P k)(kl:Lit)(z:Value):∃es,w.ownsMap P k anyE b n (.map es)∧(DataW.map es).atKey kl (.held z)= .held (((getM f M kl).map fun q=>(f q).2).getD z):=by
 obtain⟨es,h,p⟩:=h
 refine⟨es,h,?_⟩
 obtain⟨es',e,h1, -⟩:=h.entries K
 injection e with e
 subst e
 unfold DataW.atKey getM
 simp only
 rw[find_perm p h1,find_ents]
 cases M.find? fun q=>(f q).1.sameKey kl<;>rfl
theorem Mv.lookup{t e:TypeId}(h:Mv w P k f b n M)(K:Keyed P k)(ht:P.underlying t=some (.map k e)){z:Value}(hz:(zeroValue e).run P w= .ok z w){key:Value}{kl:Lit}(hkey:keyOf P k key=some kl):(Instr.lookup t (.map (some b)) key false).run P w= .ok (((getM f M kl).map fun q=>(f q).2).getD z) w:=by
 obtain⟨es,h1,h2⟩:=h.at K kl z
 obtain⟨v,ps,hrun,hv⟩:=h1.lookup K ht hz (zd:= .held z) (zp:=[]) rfl hkey
 rw[h2] at hv
 unfold anyE at hv
 simp only[Option.some.injEq,Prod.mk.injEq,DataW.held.injEq] at hv
 rw[hrun,hv.1]
theorem Mv.store{t e:TypeId}(h:Mv w P k f b n M)(K:Keyed P k)(ht:P.underlying t=some (.map k e))(hn:n<maxLen){key:Value}(x:α)(hkey:keyOf P k key=some (f x).1):∃w',(Instr.mapUpdate t (.map (some b)) key (f x).2).run P w= .ok () w'∧Mv w' P k f b (n+1) (putM f M x)∧w.grownBy w' (some b):=by
 obtain⟨es,h,p⟩:=h
 obtain⟨w',hrun,h1,h2⟩:=h.store K ht hn hkey (val:=(f x).2) (d:= .held (f x).2) (ps:=[]) rfl
 refine⟨w',hrun,⟨_,h1,?_⟩,h2.grown⟩
 refine (insert_perm _ _).trans ?_
 unfold putM
 rw[List.map_cons,←filter_ents]
 exact (p.filter _).cons _
theorem Mv.drop{t e:TypeId}(h:Mv w P k f b n M)(K:Keyed P k)(ht:P.underlying t=some (.map k e)){key:Value}{kl:Lit}(hkey:keyOf P k key=some kl)(ty:TypeId):∃w',(Builtin.delete_ #[t,k] ty #[.map (some b),key]).run P w= .ok (.tuple #[]) w'∧Mv w' P k f b n (delM f M kl)∧w.grownBy w' (some b):=by
 obtain⟨es,h,p⟩:=h
 obtain⟨w',hrun,h1,h2⟩:=h.drop K ht hkey ty
 refine⟨w',hrun,⟨_,h1,?_⟩,h2.grown⟩
 rw[←filter_ents]
 exact p.filter _
theorem Mv.len{t e:TypeId}(h:Mv w P k f b n M)(ht:P.underlying t=some (.map k e))(ty:TypeId):(Builtin.len_ #[t] ty #[.map (some b)]).run P w= .ok (.int .i64 M.length) w:=by
 obtain⟨es,h,p⟩:=h
 have e1:es.length=M.length:=by rw[p.length_eq,List.length_map]
 rw[h.len ht ty,Go.Maps.size_eq,e1]
def Rgv{α:Type}(w:World)(P:Program)(k:TypeId)(f:α→Lit×Value)(b r n:Nat)(M rest:List α):Prop :=
 ∃es left cnt,w.ranges P k anyE b r n (.map es) left cnt∧es.Perm (M.map (entE f))∧(∀kl,left kl=rest.any fun q=>(f q).1.sameKey kl)∧rest.Sublist M
theorem Rgv.owns{r:Nat}{rest:List α}(h:Rgv w P k f b r n M rest):Mv w P k f b n M:=by
 obtain⟨es,left,cnt,h1,h2, -⟩:=h
 exact⟨es,h1.owns,h2⟩
theorem Rgv.kept{r:Nat}{rest:List α}{row:Option Nat}(h:Rgv w P k f b r n M rest)(hg:w.grownBy w' row)(hb:some b≠row)(hr:some r≠row):Rgv w' P k f b r n M rest:=by
 obtain⟨es,left,cnt,h1,h2⟩:=h
 exact⟨es,left,cnt,h1.kept hg hb hr,h2⟩
theorem Mv.range{t e:TypeId}(h:Mv w P k f b n M)(K:Keyed P k)(ht:P.underlying t=some (.map k e)):∃w',(Instr.range t (.map (some b))).run P w= .ok (.pointer (some ⟨w.heap.size,0,none⟩)) w'∧Rgv w' P k f b w.heap.size n M M∧w.grownBy w' none∧w'.heap.size=w.heap.size+1:=by
 obtain⟨es,h,p⟩:=h
 obtain⟨w',hrun,h1,h2,h3⟩:=h.range K ht
 refine⟨w',hrun,⟨es,_,_,h1,p,fun kl=>?_,List.Sublist.refl _⟩,h2,h3⟩
 rw[Go.Maps.has_eq,any_permM p,List.any_map]
 rfl
theorem Rgv.next{r:Nat}{rest:List α}(h:Rgv w P k f b r n M rest)(K:Keyed P k)(ty:TypeId) :
 (rest=[]∧(Instr.next (.pointer (some ⟨r,0,none⟩)) false ty).run P w= .ok (.tuple #[.bool false]) w) ∨
 ∃key q rest' w',keyOf P k key=some (f q).1∧q∈M∧rest.Perm (q::rest')∧(Instr.next (.pointer (some ⟨r,0,none⟩)) false ty).run P w= .ok (.tuple #[.bool true,key,(f q).2]) w'∧Rgv w' P k f b r n M rest'∧w.grownBy w' (some r)∧w'.heap.size=w.heap.size∧(Instr.entry (.pointer (some ⟨r,0,none⟩))).run P w'= .ok (.tuple #[key,(f q).2]) w':=by
 have hap:=h.owns.apart K
 have hMv:=h.owns
 obtain⟨es,left,cnt,h1,p,hl,hs⟩:=h
 have hself:∀q∈M,(f q).1.sameKey (f q).1=true:=fun q hq=>WideAt.sameKey_self (hap.2 q hq)
 rcases h1.next K ty with ⟨-,h0,hrun⟩|⟨key,v,kl,y,w',cnt',hkey,hlk,hRv,hat,hrun,hr, -,hg,hsz,hen⟩
 ·left
  refine⟨List.eq_nil_iff_forall_not_mem.2 fun q hq=>?_,hrun⟩
  have:=hl (f q).1
  rw[h0] at this
  have h2:=List.any_eq_false.1 this.symm q hq
  exact h2 (hself q (hs.subset hq))
 ·right
  rw[hl] at hlk
  obtain⟨q,hq,hqk⟩:=List.any_eq_true.1 hlk
  have e1:=WideAt.sameKey_eq hqk
  subst e1
  have hqM:=hs.subset hq
  have hv:v=(f q).2:=by
   unfold anyE at hRv
   simp only[Option.some.injEq] at hRv
   obtain⟨es2,h3,h4⟩:=hMv.at K (f q).1 v
   have h5:=hat (.held v)
   obtain⟨es',e,h6, -⟩:=h1.owns.entries K
   injection e with e
   subst e
   have h7:(DataW.map es).atKey (f q).1 (.held v)= .held (f q).2:=by
    unfold DataW.atKey
    simp only
    rw[find_perm p h6,find_ents]
    have h8:M.find? (fun x=>(f x).1.sameKey (f q).1)=some q:=by
     rw[List.find?_eq_some_iff_append]
     refine⟨hqk,?_⟩
     obtain⟨l1,l2,e2⟩:=List.append_of_mem hqM
     refine⟨l1,l2,e2,fun x hx=>?_⟩
     cases hx2:(f x).1.sameKey (f q).1
     ·rfl
     ·exfalso
      have h9:=hap.1
      rw[e2,List.pairwise_append] at h9
      exact h9.2.2 x hx q (by simp) (WideAt.sameKey_eq hx2)
    rw[h8];rfl
   rw[h7,←hRv] at h5
   injection h5 with h5
   exact h5.symm
  subst hv
  refine⟨key,q,rest.filter (fun x=> !(f x).1.sameKey (f q).1),w',hkey,hqM,?_,hrun,⟨es,_,_,hr,p,fun kl=>?_,(List.filter_sublist ..).trans hs⟩,hg,hsz,hen⟩
  ·obtain⟨l1,l2,e2⟩:=List.append_of_mem hq
   have h9:rest.Pairwise (fun p q=>(f p).1≠(f q).1):=hap.1.sublist hs
   rw[e2,List.pairwise_append,List.pairwise_cons] at h9
   have f1:∀x∈l1,(!(f x).1.sameKey (f q).1)=true:=fun x hx=>by
    cases hx2:(f x).1.sameKey (f q).1
    ·rfl
    ·exact absurd (WideAt.sameKey_eq hx2) (h9.2.2 x hx q (by simp))
   have f2:∀x∈l2,(!(f x).1.sameKey (f q).1)=true:=fun x hx=>by
    cases hx2:(f x).1.sameKey (f q).1
    ·rfl
    ·exact absurd (WideAt.sameKey_eq hx2).symm (h9.2.1.1 x hx)
   rw[e2,List.filter_append,List.filter_cons,hqk,if_neg (by decide),List.filter_eq_self.2 f1,List.filter_eq_self.2 f2]
   exact List.perm_middle
  ·show (left kl && !kl.sameKey (f q).1)=_
   rw[hl,List.any_filter]
   cases hk:kl.sameKey (f q).1
   ·rw[Bool.not_false,Bool.and_true]
    refine List.any_congr rfl fun x=>?_
    cases hx:(f x).1.sameKey kl
    ·simp
    ·rw[WideAt.sameKey_eq hx,hk];rfl
   ·rw[Bool.not_true,Bool.and_false]
    symm
    refine List.any_eq_false.2 fun x hx h2=>?_
    rw[Bool.and_eq_true] at h2
    rw[WideAt.sameKey_eq h2.2,hk] at h2
    exact absurd h2.1 (by decide)
end
section
variable {α:Type} {f:α→Lit×Value} {P:Program} {k:TypeId} {w:World} {b n:Nat} {M:List α} {ops:Array Oper} {rest:List Oper} {o:Oper} {a:Act} {Q:Exit→Act→World→Prop}
theorem wpl_range{t e:TypeId}(hg:o.guard=none)(m:Operand)(hop:o.op=Op.range t m)(hm:a.eval m= .map (some b))(K:Keyed P k)(ht:P.underlying t=some (.map k e))(h:Mv w P k f b n M)
 (hK:∀w',Rgv w' P k f b w.heap.size n M M→w.grownBy w' none→w'.heap.size=w.heap.size+1→wpList P ops Q rest (a.put o.dst (.pointer (some ⟨w.heap.size,0,none⟩))) w'):wpList P ops Q (o::rest) a w:=by
 refine wpList_plain hg fun K' hK'=>?_
 obtain⟨w',hrun,r1,r2,r3⟩:=h.range K ht
 unfold Oper.wp
 simp[execOp,hop,hm,hrun,Result.andThen]
 exact hK' _ _ (hK w' r1 r2 r3)
theorem wpl_next{r:Nat}{left:List α}(hg:o.guard=none)(it:Operand)(hop:o.op=Op.next it false)(hit:a.eval it= .pointer (some ⟨r,0,none⟩))(K:Keyed P k)(h:Rgv w P k f b r n M left)
 (hDone:left=[]→wpList P ops Q rest (a.put o.dst (.tuple #[.bool false])) w)
 (hMore:∀key q left' w',keyOf P k key=some (f q).1→q∈M→left.Perm (q::left')→Rgv w' P k f b r n M left'→w.grownBy w' (some r)→w'.heap.size=w.heap.size→(Instr.entry (.pointer (some ⟨r,0,none⟩))).run P w'= .ok (.tuple #[key,(f q).2]) w'→wpList P ops Q rest (a.put o.dst (.tuple #[.bool true,key,(f q).2])) w'):wpList P ops Q (o::rest) a w:=by
 refine wpList_plain hg fun K' hK'=>?_
 unfold Oper.wp
 rcases h.next K o.type with ⟨h0,hrun⟩|⟨key,q,left',w',hkey,hq,hp,hrun,hr,hgr,hsz,hen⟩
 ·simp[execOp,hop,hit,hrun,Result.andThen]
  exact hK' _ _ (hDone h0)
 ·simp[execOp,hop,hit,hrun,Result.andThen]
  exact hK' _ _ (hMore key q left' w' hkey hq hp hr hgr hsz hen)
theorem wpl_mstore{t e:TypeId}(hg:o.guard=none)(m x v:Operand)(hop:o.op=Op.mapUpdate t m x v){key:Value}(y:α)(hm:a.eval m= .map (some b))(hx:a.eval x=key)(hv:a.eval v=(f y).2)(K:Keyed P k)(ht:P.underlying t=some (.map k e))(hn:n<maxLen)(h:Mv w P k f b n M)(hkey:keyOf P k key=some (f y).1)
 (hK:∀w',Mv w' P k f b (n+1) (putM f M y)→w.grownBy w' (some b)→wpList P ops Q rest (a.put o.dst undef) w'):wpList P ops Q (o::rest) a w:=by
 refine wpList_plain hg fun K' hK'=>?_
 obtain⟨w',hrun,r1,r2⟩:=h.store K ht hn y hkey
 unfold Oper.wp
 simp[execOp,hop,hm,hx,hv,hrun,Result.andThen]
 exact hK' _ _ (hK w' r1 r2)
theorem wpl_mdel{t e:TypeId}(hg:o.guard=none)(m x:Operand)(hop:o.op=Op.call { callee:=Callee.builtin Builtin.delete,args:= #[m,x],argTypes:= #[t,k]}){key:Value}{kl:Lit}(hm:a.eval m= .map (some b))(hx:a.eval x=key)(K:Keyed P k)(ht:P.underlying t=some (.map k e))(h:Mv w P k f b n M)(hkey:keyOf P k key=some kl)
 (hK:∀w',Mv w' P k f b n (delM f M kl)→w.grownBy w' (some b)→wpList P ops Q rest (a.put o.dst (.tuple #[])) w'):wpList P ops Q (o::rest) a w:=by
 refine wpList_plain hg fun K' hK'=>?_
 obtain⟨w',hrun,r1,r2⟩:=h.drop K ht hkey o.type
 unfold Oper.wp
 simp[execOp,hop,resolve,invoke,builtin,hm,hx,hrun,Result.andThen]
 exact hK' _ _ (hK w' r1 r2)
end
end Go.Proofs.YtajelkkiijdegaaGreat
namespace Go.Proofs.YtajelkkiijdegaaGreat
open Go.RowKit
attribute [local go_sem] GW.cell GW.frozen In.eq_true In.le_true In.ne In.ne' In.ne_add In.ne_add' In.lt_add Upto.le_true Upto.le_add Upto.lt_add
abbrev Fe:=Value×Value×Gp
def fent(kf:List Vl→List UInt8)(p:Fe):Lit×Value:=(.string (kf p.2.2.1), .agg #[p.1,p.2.1])
theorem fnKey:Go.Maps.Keyed Tryz.prog 9:=Go.Maps.string_keyed Tryz.underlying9
def Fm(kf:List Vl→List UInt8)(w:World)(S:List Nat)(b n:Nat)(T:List Fe):Prop:=Mv w Tryz.prog 9 (fent kf) b n T∧∀p∈T,Rw w S p.1 p.2.2.1∧Jw w S p.2.1 p.2.2.2
def Bg(kf:List Vl→List UInt8)(w:World)(S:List Nat)(B mb n:Nat)(mk:Int)(T:List Fe):Prop:=Ob w B 118 [.int .i64 mk, .map (some mb)]∧Fm kf w S mb n T
theorem bagNew_c(kf:List Vl→List UInt8)(w:World):Calls Tryz.prog 26 #[] w fun e w'=>∃B mb,e= .returned (.pointer (some ⟨B,0,none⟩))∧(w.heap.size≤B∧w.heap.size≤mb∧B≠mb∧Bg kf w' [] B mb 0 (-1) [])∧Ext w w':=by
 have h1:=hide (Mv.made (fent kf) w Tryz.prog 9)
 have h2:=hide (Ob.new (w.alloc (.map #[] 0)) 118 [.int .i64 (-1), .map (some w.heap.size)])
 have hmk:∀w,(Instr.makeMap 116 none).run Tryz.prog w= .ok (.map (some w.heap.size)) (w.alloc (.map #[] 0)):=fun _=>by kernel_rfl
 go_enter Tryz.func26,Tryz.ntmps26
 go_wp2_with fail
 go_returns
 refine⟨_,_,rfl,⟨?_,Nat.le_refl _,?_,by first|exact h2.out|simpa using h2.out,h1.out.alloc _,by simp⟩,((Ext.refl w).alloc _).alloc _⟩
 ·first|omega|simp
 ·first|omega|simp
theorem ext_by{w w':World}(h:Ext w w'):w.grownBy w' none:=⟨h.os,h.tape,h.output,h.size,fun k hk _=>h.block k hk⟩
def lenT(T:List Fe):Int:=(T.map fun p=>(p.2.2.2.length:Int)).sum
theorem lenT_pos:∀T:List Fe,0≤lenT T
 |[]=>Int.le_refl _
 |p::T=>by have:=lenT_pos T;unfold lenT at *;rw[List.map_cons,List.sum_cons];omega
theorem sumT_perm(h:Fe→Int){T T':List Fe}(p:T.Perm T'):(T.map h).sum=(T'.map h).sum:=by
 induction p with
 |nil=>rfl
 |cons x _ ih=>rw[List.map_cons,List.map_cons,List.sum_cons,List.sum_cons,ih]
 |swap x y l=>simp only[List.map_cons,List.sum_cons];omega
 |trans _ _ h1 h2=>exact h1.trans h2
def lenAt(kf:List Vl→List UInt8)(T:List Fe)(p:Fe):Nat:=match getM (fent kf) T (fent kf p).1 with
 |some q=>q.2.2.2.length
 |none=>0
def szW(kf:List Vl→List UInt8)(T U:List Fe):Int:=lenT T+(U.map fun p=>(p.2.2.2.length:Int)-lenAt kf T p).sum
theorem bagSize_c(kf:List Vl→List UInt8)(S:List Nat)(B mb n ob n2:Nat)(mk:Int)(T U:List Fe)(hT6:lenT T≤1000000)(hU6:lenT U≤1000000000)(hAt:∀p∈U,lenAt kf T p≤1000000)(hUl:U.length≤1000000)(w:World)(h:Bg kf w S B mb n mk T)(hU:Fm kf w S ob n2 U):Calls Tryz.prog 66 #[.pointer (some ⟨B,0,none⟩), .map (some ob)] w fun e w'=>e= .returned (.int .i64 (szW kf T U))∧Ext w w':=by
 have c0:=h.1.cell 1 rfl
 have hc0:=hide c0
 have hlt:=h.1.lt
 haveI:In B w:=⟨hlt⟩
 have hM:=hide h.2.1
 have hT:=hide h.2.2
 have hTm:=hide (fun q (hq:q∈T)=>(h.2.2 q hq).2)
 have hMU:=hide hU.1
 have hTU:=hide hU.2
 clear h hU
 obtain⟨R,hR⟩:∃R,R=szW kf T U:=⟨_,rfl⟩
 rw[←hR]
 replace hR:=hide hR
 replace hAt:=hide hAt
 go_enter Tryz.func66,Tryz.ntmps66
 go_wp2_with (at_range;refine wpl_range rfl (.tmp 13) rfl rfl fnKey Tryz.underlying116 hM.out ?_;intro w1 hr1 hg1 hs1)
 go_frame
 have hX1:=hide (ext_grown (Ext.refl w) hg1 (by simp))
 obtain⟨r,hrr⟩:∃r,r=w.heap.size:=⟨_,rfl⟩
 rw[←hrr] at hr1 ⊢
 have hrle:w.heap.size≤r:=by omega
 replace hr1:=hide hr1
 clear hg1 hs1 c0
 replace hrr:=hide hrr
 go_loopg [5] T.length (fun gh z wr=>∃(y:Int) (L:List Fe),z= .int .i64 y∧L.length=gh∧0≤y∧Hid (y+lenT L=lenT T)∧Hid (Rgv wr Tryz.prog 9 (fent kf) mb r n T L)∧Hid (Ext w wr))
 case atStart=>exact⟨0,T,rfl,rfl,Int.le_refl _,(by show _=_;omega),hr1,hX1⟩
 case round =>
  clear hr1 hX1
  obtain⟨y,L,rfl,hL,hy0,hy,hRv,hX⟩:=hrel
  go_wp2_with (at_next;refine wpl_next rfl (.tmp 14) rfl rfl fnKey hRv.out ?_ ?_)
  ·intro hl0
   subst hl0
   have hyT:Hid (y=lenT T):=by show _=_;rw[←hy.out];simp[lenT]
   have hy9:y≤1000000:=by rw[hyT.out];exact hT6
   have hMU2:=hide (hMU.out.kept (ext_by hX.out) (by simp))
   clear hy hRv hT
   obtain⟨wq,hwq⟩:∃wq,wq=wr:=⟨_,rfl⟩
   subst hwq
   go_wp2_with (at_range;refine wpl_range rfl (.tmp 24) rfl rfl fnKey Tryz.underlying116 hMU2.out ?_;intro w3 hr3 hg3 hs3)
   go_frame
   have hX3:=hide (ext_grown hX.out hg3 (by simp))
   obtain⟨r2,hrr2⟩:∃r2,r2=wq.heap.size:=⟨_,rfl⟩
   rw[←hrr2] at hr3 ⊢
   have hzz:=hX.out.size
   have hrle2:w.heap.size≤r2:=by omega
   replace hr3:=hide hr3
   clear hg3 hs3
   replace hrr2:=hide hrr2
   go_loopg [5] U.length (fun gh z wr=>∃(x:Int) (L:List Fe),z= .int .i64 x∧L.length=gh∧Hid (x+(L.map fun p=>(p.2.2.2.length:Int)-lenAt kf T p).sum=R)∧(x+1000000000*(L.length:Int)≤1000000+1000000000*(U.length:Int)∧ -x+1000000000*(L.length:Int)≤1000000+1000000000*(U.length:Int))∧Hid (Rgv wr Tryz.prog 9 (fent kf) ob r2 n2 U L)∧Hid (Ext w wr))
   case atStart=>exact⟨y,U,rfl,rfl,(by show _=_;rw[hR.out,hyT.out];rfl),by omega,hr3,hX3⟩
   case round =>
    clear hr3 hX3
    obtain⟨x,L,rfl,hL,hx,hxb,hRv,hX⟩:=hrel
    go_wp2_with (at_next;refine wpl_next rfl (.tmp 25) rfl rfl fnKey hRv.out ?_ ?_)
    ·intro hl0
     subst hl0
     have hRx:Hid (R=x):=by show _=_;rw[←hx.out];simp
     clear hx hRv hTU hMU hAt
     go_wp2_with fail
     go_returns
     rw[hRx.out]
     exact⟨rfl,hX.out⟩
    ·intro key vr vj q f L' w4 hkey hq hp hR4 hg4 hs4 hen
     have hE:(fent kf (vr,vj,q,f)).2= .agg #[vr,vj]:=rfl
     rw[hE] at hen ⊢
     have hAp:=hAt.out _ hq
     obtain⟨hrw,hjw⟩:=hTU.out _ hq
     simp only at hrw hjw
     have hX4:=hide (ext_grown hX.out hg4 (fun z hz=>by obtain rfl:=Option.some.inj hz;exact hrle2))
     have hx2:=hx.out
     rw[sumT_perm _ hp,List.map_cons,List.sum_cons] at hx2
     simp only at hx2
     have hlen:L'.length+1=L.length:=by rw[hp.length_eq];rfl
     have hfU:(f.length:Int)≤1000000000:=by
      refine Int.le_trans ?_ hU6
      obtain⟨l1,l2,e2⟩:=List.append_of_mem hq
      have p1:=lenT_pos l1
      have p2:=lenT_pos l2
      unfold lenT at *
      rw[e2,List.map_append,List.sum_append,List.map_cons,List.sum_cons]
      simp only
      omega
     obtain⟨VA,vcap,rfl⟩:=(show ∃A cap,vr= .slice A q.length cap by obtain⟨A,cap,e,_⟩:=hrw;exact⟨A,cap,e⟩)
     obtain⟨JA,jcap,rfl,hjl,hjm, -⟩:=jw_form hjw
     have cB:=cell_later hX4.out hc0.out
     have cBl:=block_lt_of_cell cB
     haveI:In B w4:=⟨cBl⟩
     obtain⟨wa,hwa⟩:∃wa,wa=w4.alloc (.cells #[.slice VA q.length vcap, .slice JA f.length jcap] 124):=⟨_,rfl⟩
     have hXa:Ext w wa:=by rw[hwa];exact hX4.out.alloc _
     obtain⟨N,hN⟩:∃N,N=lenAt kf T (.slice VA q.length vcap, .slice JA f.length jcap,q,f):=⟨_,rfl⟩
     rw[←hN] at hAp hx2
     obtain⟨v1,JB,jc,hlk0⟩:∃v1 JB jc,∀g:GW wa,(Instr.lookup 116 (.map (some mb)) key false).run Tryz.prog g.val= .ok (.agg #[v1, .slice JB N jc]) g.val:=by
      have hz:∀w',(zeroValue 124).run Tryz.prog w'= .ok (.agg #[.slice none 0 0, .slice none 0 0]) w':=fun _=>by kernel_rfl
      have key1:∀g:GW wa,(Instr.lookup 116 (.map (some mb)) key false).run Tryz.prog g.val= .ok (((getM (fent kf) T (fent kf (.slice VA q.length vcap, .slice JA f.length jcap,q,f)).1).map fun q=>(fent kf q).2).getD (.agg #[.slice none 0 0, .slice none 0 0])) g.val:=fun g=>(hM.out.kept (ext_by (hXa.trans g.grown)) (by simp)).lookup fnKey Tryz.underlying116 (hz _) hkey
      unfold lenAt at hN
      cases hgm:getM (fent kf) T (fent kf (.slice VA q.length vcap, .slice JA f.length jcap,q,f)).1 with
      |none =>
       rw[hgm] at hN key1
       exact⟨.slice none 0 0,none,0,fun g=>by rw[hN];exact key1 g⟩
      |some q2 =>
       rw[hgm] at hN key1
       have hmem:=List.mem_of_find?_eq_some hgm
       obtain⟨J2,c2,e2, -⟩:=jw_form (hTm.out q2 hmem)
       exact⟨q2.1,J2,c2,fun g=>by rw[hN,←e2];exact key1 g⟩
     have hfd:∀w':World,(Instr.field 124 (.agg #[v1, .slice JB N jc]) 1).run Tryz.prog w'= .ok (.slice JB N jc) w':=fun _=>by first|kernel_rfl|simp[go_sem]
     have hRn:=hide (show Rgv wa Tryz.prog 9 (fent kf) ob r2 n2 U L' by rw[hwa];exact hR4.kept (World.grownBy_alloc w4 _ none) (by simp) (by simp))
     have hlk:=hlk0
     rw[hwa] at hlk
     have hxn:=hide (show x+((f.length:Int)-N)+(L'.map fun p=>(p.2.2.2.length:Int)-lenAt kf T p).sum=R by omega)
     replace hXa:=hide hXa
     replace hwa:=hide hwa
     clear hlk0 hs4 hkey hq hp hR4 hg4 hrw hjw hx hRv hTU hE hx2 hN hAt
     have hxb1:x≤1000001000000*1000000∧ -(1000001000000*1000000)≤x:=by omega
     go_wp2_with fail
     refine wp_region_gw (by kernel_rfl) (by kernel_rfl) ?_
     repeat (go_big_quiet_step (fail))
     refine wpQuiet_nil ?_
     intro g
     go_wp2_with fail
     go_roundg L'.length
     case measure=>omega
     case rel=>exact⟨x+((f.length:Int)-N),L',by go_num,rfl,hxn,by omega,(by have:=hRn.out;rw[hwa.out] at this;exact this.kept (ext_by g.grown) (by simp) (by simp)),(by have:=hXa.out;rw[hwa.out] at this;exact this.trans g.grown)⟩
  ·intro key vr vj q f L' w1 hkey hq hp hR1 hg1 hs1 hen
   have hE:(fent kf (vr,vj,q,f)).2= .agg #[vr,vj]:=rfl
   rw[hE] at hen ⊢
   obtain⟨hrw,hjw⟩:=hT.out _ hq
   simp only at hrw hjw
   have hX1:=hide (ext_grown hX.out hg1 (fun z hz=>by obtain rfl:=Option.some.inj hz;exact hrle))
   have hbL:lenT L=f.length+lenT L':=by unfold lenT;rw[sumT_perm _ hp];simp
   have hy2:=hy.out
   rw[hbL] at hy2
   have hpos:=lenT_pos L'
   have hlen:L'.length+1=L.length:=by rw[hp.length_eq];rfl
   obtain⟨VA,vcap,rfl⟩:=(show ∃A cap,vr= .slice A q.length cap by obtain⟨A,cap,e,_⟩:=hrw;exact⟨A,cap,e⟩)
   obtain⟨JA,jcap,rfl,hjl,hjm, -⟩:=jw_form hjw
   have hyf:y+f.length≤1000000:=by omega
   have hR2:=hide (hR1.kept (World.grownBy_alloc w1 (.cells #[.slice VA q.length vcap, .slice JA f.length jcap] 124) none) (by simp) (by simp))
   have hyn:=hide (show y+f.length+lenT L'=lenT T by omega)
   clear hkey hq hp hR1 hg1 hbL hrw hjw hy hRv hT hE hy2
   go_wp2_with fail
   go_roundg L'.length
   case measure=>omega
   case rel=>exact⟨y+f.length,L',by go_num,rfl,by omega,hyn,hR2,hX1.out.alloc _⟩
end Go.Proofs.YtajelkkiijdegaaGreat
