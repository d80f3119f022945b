/-
  A helper of ours: no claim of its own. XRowD again, of Compare alone, over the worlds of XDrGw.
-/
import Derived.Test.YtajelkkiijdegaaGreatEdgA
set_option linter.unusedVariables false
set_option linter.unusedSimpArgs false
set_option linter.unusedSectionVars false
set_option maxHeartbeats 64000000
set_option maxRecDepth 100000
namespace Go.Proofs.YtajelkkiijdegaaGreat.Dr
open Go.RowKit
structure Ext (W w:World):Prop where
 ext:Go.Proofs.YtajelkkiijdegaaGreat.Ext W w
 drawn:W.drawn≤w.drawn
instance {W w:World}:Coe (Ext W w) (Go.Proofs.YtajelkkiijdegaaGreat.Ext W w):=⟨Ext.ext⟩
theorem Ext.refl(W:World):Ext W W:=⟨Go.Proofs.YtajelkkiijdegaaGreat.Ext.refl W,Nat.le_refl _⟩
theorem Ext.trans{a b c:World}(h:Ext a b)(k:Ext b c):Ext a c:=⟨h.ext.trans k.ext,Nat.le_trans h.drawn k.drawn⟩
theorem Ext.alloc{W w:World}(h:Ext W w)(o:Obj):Ext W (w.alloc o):=⟨h.ext.alloc o,h.drawn⟩
theorem Ext.drew{W w:World}(h:Ext W w):Ext W w.drew:=⟨h.ext.drew,Nat.le_succ_of_le h.drawn⟩
theorem Ext.drewN{W w:World}(h:Ext W w)(n:Nat):Ext W (w.drewN n):=⟨h.ext.drewN n,Nat.le_trans h.drawn (Nat.le_add_right _ _)⟩
theorem Ext.setCell{W w:World}(h:Ext W w){p:Addr}(hp:W.heap.size≤p.block)(u:Value):Ext W (w.setCell p u):=⟨h.ext.setCell hp u,by rw[World.drawn_setCell];exact h.drawn⟩
structure GW (W:World) where
 val:World
 grown:Ext W val
instance GW.some (W:World):Nonempty (GW W):=⟨⟨W,Ext.refl W⟩⟩
section
variable {W w:World} {n:Nat}
instance In.gw (g:GW W) [h:In n W]:In n g.val:=⟨Nat.lt_of_lt_of_le h.lt (Below.size g.grown.ext)⟩
instance Upto.gw (g:GW W) [h:Upto n W]:Upto n g.val:=⟨Nat.le_trans h.le (Below.size g.grown.ext)⟩
variable (g:GW W)
theorem GW.cell{b o:Nat}[h:In b W]:g.val.cell? ⟨b,o,none⟩=W.cell? ⟨b,o,none⟩:=Below.cell (p:=⟨b,o,none⟩) g.grown.ext h.lt
theorem GW.frozen{b o:Nat}[h:In b W]:g.val.frozen? ⟨b,o,none⟩=W.frozen? ⟨b,o,none⟩:=Below.frozen (p:=⟨b,o,none⟩) g.grown.ext h.lt
theorem GW.size:W.heap.size≤g.val.heap.size:=Below.size g.grown.ext
end
theorem cell_later{w wr:World}(h:Ext w wr){b o:Nat}{u:Value}(hc:w.cell? ⟨b,o,none⟩=some u):wr.cell? ⟨b,o,none⟩=some u:=Go.Proofs.YtajelkkiijdegaaGreat.cell_later h.ext hc
theorem quiet_gw{P:Program}{f:FuncId}{args:Array Value}{W:World}{g:GW W}{v:Value}(h:Calls P f args g.val fun e w'=>e= .returned v∧Ext g.val w') :
 Calls P f args g.val fun e w''=>e= .returned v∧∃k:GW W,w''=k.val :=
 h.mono fun _ _ ⟨he,hm⟩=>⟨he,⟨_,g.grown.trans hm⟩,rfl⟩
theorem seq_gw{P:Program}{f:FuncId}{args:Array Value}{w:World}{v:Value}{R:Ending→World→Prop}(h:Calls P f args w fun e w'=>e= .returned v∧Ext w w')
 (hr:∀g:GW w,R (.returned v) g.val):Calls P f args w R :=
 h.mono fun _ w' ⟨he,hm⟩=>by subst he;exact hr ⟨w',hm⟩
theorem seq_gw'{P:Program}{f:FuncId}{args:Array Value}{W:World}{g:GW W}{v:Value}{R:Ending→World→Prop}(h:Calls P f args g.val fun e w'=>e= .returned v∧Ext g.val w')
 (hr:∀k:GW W,R (.returned v) k.val):Calls P f args g.val R :=
 h.mono fun _ w' ⟨he,hm⟩=>by subst he;exact hr ⟨w',g.grown.trans hm⟩
section
variable {P:Program} {ops:Array Oper} {md:Region.Mode} {C:World→Prop}
theorem wp_region_gw_tail{id:Nat}{Q:Exit→Act→World→Prop}{a:Act}{w:World}{l:List Oper}(n:Nat)(hm:P.follows .mixedOrders=true)(hB:Region.lexTailB .any l.toArray n=true)
 (h:wpQuiet P l.toArray (fun w'=>∃g:GW w,w'=g.val) (fun a'=>∀g:GW w,wpList P l.toArray Q (l.drop n) a' g.val) (l.take n) a):(Code.region id l.toArray true).wp P Q a w:=by
 simp only[Region.lexTailB,Bool.and_eq_true,decide_eq_true_eq] at hB
 obtain⟨⟨⟨⟨hsel,hn⟩,hs⟩,hc⟩,hlex⟩:=hB
 have hn':n<l.length:=by simpa using hn
 have htl:(l.take n).length=n:=by simp;omega
 have hdl:(l.drop n).length=l.toArray.size-n:=by simp
 have inv0:HeadInv .any l.toArray n (Array.replicate l.toArray.size false) :=
  ⟨by simp,fun j oj _ hl=>(by rw[getD_replicate_false] at hl;cases hl),fun t _ ht=>getD_in (by simpa using ht) (getD_replicate_false _ _)⟩
 have H:=wpAnyG_lex (md:= .any) (g:=l.toArray.size-n) hsel hs hc hn (l.take n) 0 _ a (fun j hj=>by
  have hj':j<n:=by rw[htl] at hj;exact hj
  simp[hj']) (by simpa using htl) inv0 (by rw[htl];exact hlex) h
 refine wp_region_any hm ?_
 have:=wpAny_of_headG (Q':=Q) (g:=l.toArray.size-n) (fun listed a' w' hw' hL=>by
  obtain⟨g,rfl⟩:=hw'
  have:=wpAny_of_seq (md:= .any) (Q':=Q) (l.drop n) n listed a' g.val (fun j=>by simp[List.getElem?_drop]) (by rw[hdl];exact hL.1) (hL.2 g)
  rwa [hdl] at this) _ _ _ { w with drawn:=w.drawn+1} ⟨⟨_,(Ext.refl w).drew⟩,rfl⟩ H
 rw[htl,show n+(l.toArray.size-n)=l.toArray.size by omega] at this
 exact this
theorem wp_region_gw{id:Nat}{Q:Exit→Act→World→Prop}{a:Act}{w:World}{l:List Oper}(hm:P.follows .mixedOrders=true)(hB:Region.lexB .any l.toArray=true)
 (h:wpQuiet P l.toArray (fun w'=>∃g:GW w,w'=g.val) (fun a'=>∀g:GW w,Q .normal a' g.val) l a):(Code.region id l.toArray true).wp P Q a w:=by
 refine wp_region_quiet (C:=fun w'=>∃g:GW w,w'=g.val) hm hB ⟨⟨_,(Ext.refl w).drew⟩,rfl⟩ ?_
 have e:(fun a'=>∀g:GW w,Q .normal a' g.val)=fun a'=>∀w',(∃g:GW w,w'=g.val)→Q .normal a' w':=by
  funext a';exact propext ⟨fun h w' ⟨g,hg⟩=>hg ▸ h g,fun h g=>h _ ⟨g,rfl⟩⟩
 rw[e] at h
 simpa using h
end
end Go.Proofs.YtajelkkiijdegaaGreat.Dr
namespace Go.Proofs.YtajelkkiijdegaaGreat.Dr
open Go.RowKit
attribute [local go_sem] GW.cell GW.frozen In.eq_true In.le_true In.ne In.ne' In.ne_add In.ne_add' In.lt_add Upto.le_true Upto.le_add Upto.lt_add
theorem inner_num(n:Int)(s:ByteArray)(hs:s.size=0)(w:World):Calls Tryz.prog 216 #[val 1 n s] w fun e w'=>e= .returned (.tuple #[.iface 291 (.int .i64 n), .bool true])∧Ext w w':=by
 have he:=empty_yes hs
 go_enter Tryz.func216,Tryz.ntmps216
 go_wp2_with fail
 go_returns
 exact⟨rfl,(Ext.refl w).alloc _⟩
theorem inner_text(s:ByteArray)(hs:s.size≤64)(w:World):Calls Tryz.prog 216 #[val 2 0 s] w fun e w'=>e= .returned (.tuple #[.iface 292 (.string s), .bool true])∧Ext w w':=by
 have hi:(s.size:Int)≤64:=by omega
 go_enter Tryz.func216,Tryz.ntmps216
 go_wp2_with fail
 go_returns
 exact⟨rfl,(Ext.refl w).alloc _⟩
theorem inner_none(k n:Int)(s:ByteArray)(h:(k=1∧s.size≠0)∨(k≠1∧k≠2)∨(k=2∧n≠0)∨(k=2∧n=0∧64<s.size))(w:World):Calls Tryz.prog 216 #[val k n s] w fun e w'=>e= .returned (.tuple #[.nilIface, .bool false])∧Ext w w':=by
 rcases h with ⟨rfl,h⟩|⟨h1,h2⟩|⟨rfl,h⟩|⟨rfl,rfl,h⟩
 ·have he:=empty_no h
  go_enter Tryz.func216,Tryz.ntmps216
  go_wp2_with fail
  go_returns
  exact⟨rfl,(Ext.refl w).alloc _⟩
 ·have e1:(k == 1)=false:=by simpa using h1
  have e2:(k == 2)=false:=by simpa using h2
  go_enter Tryz.func216,Tryz.ntmps216
  go_wp2_with fail
  go_returns
  exact⟨rfl,(Ext.refl w).alloc _⟩
 ·have e1:(n == 0)=false:=by simpa using h
  go_enter Tryz.func216,Tryz.ntmps216
  go_wp2_with fail
  go_returns
  exact⟨rfl,(Ext.refl w).alloc _⟩
 ·have hi:(64:Int)<(s.size:Int):=by omega
  go_enter Tryz.func216,Tryz.ntmps216
  go_wp2_with fail
  go_returns
  exact⟨rfl,(Ext.refl w).alloc _⟩
theorem may_c(k n:Int)(s:ByteArray)(w:World):Calls Tryz.prog 160 #[val k n s] w fun e w'=>e= .returned (.bool (mayB k n s))∧Ext w w':=by
 rcases may_cases (k:=k) (n:=n) (s:=s) with ⟨rfl,h⟩|⟨rfl,rfl,h⟩|⟨hm,h⟩
 ·rw[may_num h]
  have hi:=hide (fun w=>inner_num n s h w)
  clear h
  go_enter Tryz.func160,Tryz.ntmps160
  go_wp2_with (go_at_call 216;refine seq_gw (hi.out _) ?_;intro g)
  go_returns
  exact⟨rfl,((Ext.refl w).alloc _).trans g.grown⟩
 ·rw[may_text h]
  have hi:=hide (fun w=>inner_text s h w)
  clear h
  go_enter Tryz.func160,Tryz.ntmps160
  go_wp2_with (go_at_call 216;refine seq_gw (hi.out _) ?_;intro g)
  go_returns
  exact⟨rfl,((Ext.refl w).alloc _).trans g.grown⟩
 ·rw[hm]
  have hi:=hide (fun w=>inner_none k n s h w)
  clear h hm
  go_enter Tryz.func160,Tryz.ntmps160
  go_wp2_with (go_at_call 216;refine seq_gw (hi.out _) ?_;intro g)
  go_returns
  exact⟨rfl,((Ext.refl w).alloc _).trans g.grown⟩
theorem nanN_c(n:Int)(w:World):Calls Tryz.prog 292 #[.int .i64 n] w fun e w'=>e= .returned (.bool false)∧Ext w w':=by
 go_enter Tryz.func292,Tryz.ntmps292
 go_wp2_with fail
 go_returns
 exact⟨rfl,Ext.refl w⟩
theorem nanT_c(s:ByteArray)(w:World):Calls Tryz.prog 299 #[.string s] w fun e w'=>e= .returned (.bool false)∧Ext w w':=by
 go_enter Tryz.func299,Tryz.ntmps299
 go_wp2_with fail
 go_returns
 exact⟨rfl,Ext.refl w⟩
theorem cmpNum_c(n m:Int)(w:World):Calls Tryz.prog 289 #[.int .i64 n, .int .i64 m] w fun e w'=>e= .returned (.int .i64 (cmpN n m))∧Ext w w':=by
 obtain⟨r,hr⟩:∃r,r=cmpN n m:=⟨_,rfl⟩
 rw[←hr]
 unfold cmpN at hr
 by_cases h1:n<m
 ·rw[if_pos h1] at hr
  subst hr
  go_enter Tryz.func289,Tryz.ntmps289
  go_wp2_with (go_at_call 292;(first|(with_reducible refine seq_gw' (nanN_c _ _) ?_)|(with_reducible refine seq_gw (nanN_c _ _) ?_));intro g)
  go_returns
  exact⟨rfl,g.grown⟩
 ·by_cases h2:m<n
  ·rw[if_neg h1,if_pos h2] at hr
   subst hr
   go_enter Tryz.func289,Tryz.ntmps289
   go_wp2_with (go_at_call 292;(first|(with_reducible refine seq_gw' (nanN_c _ _) ?_)|(with_reducible refine seq_gw (nanN_c _ _) ?_));intro g)
   go_returns
   exact⟨rfl,g.grown⟩
  ·rw[if_neg h1,if_neg h2] at hr
   subst hr
   have e:n=m:=by omega
   subst e
   go_enter Tryz.func289,Tryz.ntmps289
   go_wp2_with (go_at_call 292;(first|(with_reducible refine seq_gw' (nanN_c _ _) ?_)|(with_reducible refine seq_gw (nanN_c _ _) ?_));intro g)
   go_returns
   exact⟨rfl,g.grown⟩
theorem cmpText_c(s t:ByteArray)(w:World):Calls Tryz.prog 297 #[.string s, .string t] w fun e w'=>e= .returned (.int .i64 (cmpL s.data.toList t.data.toList))∧Ext w w':=by
 have key:∀r,cmpL s.data.toList t.data.toList=r→Calls Tryz.prog 297 #[.string s, .string t] w fun e w'=>e= .returned (.int .i64 r)∧Ext w w':=by
  intro r hr
  have hlt:=less_iff s.data.toList t.data.toList
  rw[hr,←Lib.toList_data,←Lib.toList_data] at hlt
  have heq:(s.toList == t.toList)=decide (r=0):=by
   have:=cmpL_zero s.data.toList t.data.toList
   rw[hr] at this
   rw[Lib.toList_data,Lib.toList_data]
   by_cases h:r=0
   ·simp[h,this.1 h]
   ·simp[h];intro e;exact h (this.2 (by rw[e]))
  rcases cmpL_range s.data.toList t.data.toList with e|e|e<;>rw[hr] at e<;>subst e<;>clear hr
  ·replace hlt:Op.bytesLess s.toList t.toList=true:=hlt
   clear heq
   go_enter Tryz.func297,Tryz.ntmps297
   go_wp2_with (go_at_call 299;(first|(with_reducible refine seq_gw' (nanT_c _ _) ?_)|(with_reducible refine seq_gw (nanT_c _ _) ?_));intro g)
   go_returns
   exact⟨rfl,g.grown⟩
  ·replace hlt:Op.bytesLess s.toList t.toList=false:=hlt
   replace heq:(s.toList == t.toList)=true:=heq
   have hgt:∀w,(binOp .gtr 292 (.string s) (.string t)).run Tryz.prog w= .ok (.bool false) w:=fun w=>by simp[binOp,Op.stringOp,hlt,heq]
   go_enter Tryz.func297,Tryz.ntmps297
   go_wp2_with (go_at_call 299;(first|(with_reducible refine seq_gw' (nanT_c _ _) ?_)|(with_reducible refine seq_gw (nanT_c _ _) ?_));intro g)
   go_returns
   exact⟨rfl,g.grown⟩
  ·replace hlt:Op.bytesLess s.toList t.toList=false:=hlt
   replace heq:(s.toList == t.toList)=false:=heq
   have hgt:∀w,(binOp .gtr 292 (.string s) (.string t)).run Tryz.prog w= .ok (.bool true) w:=fun w=>by simp[binOp,Op.stringOp,hlt,heq]
   go_enter Tryz.func297,Tryz.ntmps297
   go_wp2_with (go_at_call 299;(first|(with_reducible refine seq_gw' (nanT_c _ _) ?_)|(with_reducible refine seq_gw (nanT_c _ _) ?_));intro g)
   go_returns
   exact⟨rfl,g.grown⟩
 exact key _ rfl
theorem numNum_c(n m:Int)(w:World):Calls Tryz.prog 286 #[.int .i64 n, .iface 291 (.int .i64 m)] w fun e w'=>e= .returned (.int .i64 (cmpN n m))∧Ext w w':=by
 have hc:=hide (fun w=>cmpNum_c n m w)
 generalize cmpN n m=r at hc
 have t1:=as_nn m
 have t2:=as_n m
 go_enter Tryz.func286,Tryz.ntmps286
 go_wp2_with (go_at_call 289;refine seq_gw (hc.out _) ?_;intro g)
 go_returns
 exact⟨rfl,g.grown⟩
theorem numText_c(n:Int)(t:ByteArray)(w:World):Calls Tryz.prog 286 #[.int .i64 n, .iface 292 (.string t)] w fun e w'=>e= .returned (.int .i64 (-1))∧Ext w w':=by
 have t1:=as_nt t
 go_enter Tryz.func286,Tryz.ntmps286
 go_wp2_with fail
 go_returns
 exact⟨rfl,Ext.refl w⟩
theorem textText_c(s t:ByteArray)(w:World):Calls Tryz.prog 294 #[.string s, .iface 292 (.string t)] w fun e w'=>e= .returned (.int .i64 (cmpL s.data.toList t.data.toList))∧Ext w w':=by
 have hc:=hide (fun w=>cmpText_c s t w)
 generalize cmpL s.data.toList t.data.toList=r at hc
 have t1:=as_tt t
 have t2:=as_t t
 go_enter Tryz.func294,Tryz.ntmps294
 go_wp2_with (go_at_call 297;refine seq_gw (hc.out _) ?_;intro g)
 go_returns
 exact⟨rfl,g.grown⟩
theorem textNum_c(s:ByteArray)(m:Int)(w:World):Calls Tryz.prog 294 #[.string s, .iface 291 (.int .i64 m)] w fun e w'=>e= .returned (.int .i64 1)∧Ext w w':=by
 have t1:=as_tn m
 go_enter Tryz.func294,Tryz.ntmps294
 go_wp2_with fail
 go_returns
 exact⟨rfl,Ext.refl w⟩
theorem cmpNN_c(n m:Int)(s t:ByteArray)(hs:s.size=0)(ht:t.size=0)(w:World):Calls Tryz.prog 190 #[val 1 n s,val 1 m t] w fun e w'=>e= .returned (.int .i64 (cmpN n m))∧Ext w w':=by
 have h1:=hide (fun w=>inner_num n s hs w)
 have h2:=hide (fun w=>inner_num m t ht w)
 have hc:=hide (fun w=>numNum_c n m w)
 obtain⟨r,hr⟩:∃r,r=cmpN n m:=⟨_,rfl⟩
 rw[←hr] at hc ⊢
 clear hr
 clear hs ht
 go_enter Tryz.func190,Tryz.ntmps190
 go_wp2_with (first|(go_at_call 216;(first|(with_reducible refine seq_gw' (h2.out _) ?_)|(with_reducible refine seq_gw (h1.out _) ?_));intro g)|(go_at_call 286;with_reducible refine seq_gw' (hc.out _) ?_;intro g))
 go_returns
 exact⟨rfl,(((Ext.refl w).alloc _).alloc _).trans g.grown⟩
theorem cmpNT_c(n:Int)(s t:ByteArray)(hs:s.size=0)(ht:t.size≤64)(w:World):Calls Tryz.prog 190 #[val 1 n s,val 2 0 t] w fun e w'=>e= .returned (.int .i64 (-1))∧Ext w w':=by
 have h1:=hide (fun w=>inner_num n s hs w)
 have h2:=hide (fun w=>inner_text t ht w)
 have hc:=hide (fun w=>numText_c n t w)
 clear hs ht
 go_enter Tryz.func190,Tryz.ntmps190
 go_wp2_with (first|(go_at_call 216;(first|(with_reducible refine seq_gw' (h2.out _) ?_)|(with_reducible refine seq_gw (h1.out _) ?_));intro g)|(go_at_call 286;with_reducible refine seq_gw' (hc.out _) ?_;intro g))
 go_returns
 exact⟨rfl,(((Ext.refl w).alloc _).alloc _).trans g.grown⟩
theorem cmpTN_c(m:Int)(s t:ByteArray)(hs:s.size≤64)(ht:t.size=0)(w:World):Calls Tryz.prog 190 #[val 2 0 s,val 1 m t] w fun e w'=>e= .returned (.int .i64 (1))∧Ext w w':=by
 have h1:=hide (fun w=>inner_text s hs w)
 have h2:=hide (fun w=>inner_num m t ht w)
 have hc:=hide (fun w=>textNum_c s m w)
 clear hs ht
 go_enter Tryz.func190,Tryz.ntmps190
 go_wp2_with (first|(go_at_call 216;(first|(with_reducible refine seq_gw' (h2.out _) ?_)|(with_reducible refine seq_gw (h1.out _) ?_));intro g)|(go_at_call 294;with_reducible refine seq_gw' (hc.out _) ?_;intro g))
 go_returns
 exact⟨rfl,(((Ext.refl w).alloc _).alloc _).trans g.grown⟩
theorem cmpTT_c(s t:ByteArray)(hs:s.size≤64)(ht:t.size≤64)(w:World):Calls Tryz.prog 190 #[val 2 0 s,val 2 0 t] w fun e w'=>e= .returned (.int .i64 (cmpL s.data.toList t.data.toList))∧Ext w w':=by
 have h1:=hide (fun w=>inner_text s hs w)
 have h2:=hide (fun w=>inner_text t ht w)
 have hc:=hide (fun w=>textText_c s t w)
 obtain⟨r,hr⟩:∃r,r=cmpL s.data.toList t.data.toList:=⟨_,rfl⟩
 rw[←hr] at hc ⊢
 clear hr hs ht
 go_enter Tryz.func190,Tryz.ntmps190
 go_wp2_with (first|(go_at_call 216;(first|(with_reducible refine seq_gw' (h2.out _) ?_)|(with_reducible refine seq_gw (h1.out _) ?_));intro g)|(go_at_call 294;with_reducible refine seq_gw' (hc.out _) ?_;intro g))
 go_returns
 exact⟨rfl,(((Ext.refl w).alloc _).alloc _).trans g.grown⟩
theorem inner_some{k n:Int}{s:ByteArray}(h:mayB k n s=true):∃v,∀w,Calls Tryz.prog 216 #[val k n s] w fun e w'=>e= .returned (.tuple #[v, .bool true])∧Ext w w':=by
 rcases may_cases (k:=k) (n:=n) (s:=s) with ⟨rfl,h'⟩|⟨rfl,rfl,h'⟩|⟨hm,_⟩
 ·exact⟨_,fun w=>inner_num n s h' w⟩
 ·exact⟨_,fun w=>inner_text s h' w⟩
 ·rw[h] at hm;cases hm
theorem inner_no{k n:Int}{s:ByteArray}(h:mayB k n s=false)(w:World):Calls Tryz.prog 216 #[val k n s] w fun e w'=>e= .returned (.tuple #[.nilIface, .bool false])∧Ext w w':=by
 rcases may_cases (k:=k) (n:=n) (s:=s) with ⟨rfl,h'⟩|⟨rfl,rfl,h'⟩|⟨_,h'⟩
 ·rw[may_num h'] at h;cases h
 ·rw[may_text h'] at h;cases h
 ·exact inner_none k n s h' w
theorem cmpNo1_c(k n k' m:Int)(s t:ByteArray)(h:mayB k n s=false)(w:World):Calls Tryz.prog 190 #[val k n s,val k' m t] w fun e w'=>e= .returned (.int .i64 0)∧Ext w w':=by
 have h1:=hide (fun w=>inner_no h w)
 clear h
 go_enter Tryz.func190,Tryz.ntmps190
 go_wp2_with (first|(go_at_call 216;with_reducible refine seq_gw (h1.out _) ?_;intro g))
 go_returns
 exact⟨rfl,(((Ext.refl w).alloc _).alloc _).trans g.grown⟩
theorem cmpNo2_c(k n k' m:Int)(s t:ByteArray)(h:mayB k n s=true)(h':mayB k' m t=false)(w:World):Calls Tryz.prog 190 #[val k n s,val k' m t] w fun e w'=>e= .returned (.int .i64 0)∧Ext w w':=by
 obtain⟨v,h1⟩:=inner_some h
 replace h1:=hide h1
 have h2:=hide (fun w=>inner_no h' w)
 clear h h'
 go_enter Tryz.func190,Tryz.ntmps190
 go_wp2_with (first|(go_at_call 216;(first|(with_reducible refine seq_gw' (h2.out _) ?_)|(with_reducible refine seq_gw (h1.out _) ?_));intro g))
 go_returns
 exact⟨rfl,(((Ext.refl w).alloc _).alloc _).trans g.grown⟩
theorem compare_c(k n k' m:Int)(s t:ByteArray)(w:World):Calls Tryz.prog 190 #[val k n s,val k' m t] w fun e w'=>e= .returned (.int .i64 (cmpV (k,n,s) (k',m,t)))∧Ext w w':=by
 unfold cmpV may
 simp only
 rcases may_cases (k:=k) (n:=n) (s:=s) with ⟨rfl,h⟩|⟨rfl,rfl,h⟩|⟨hm,h⟩<;>rcases may_cases (k:=k') (n:=m) (s:=t) with ⟨rfl,h'⟩|⟨rfl,rfl,h'⟩|⟨hm',h'⟩
 ·rw[may_num h,may_num h'];exact cmpNN_c n m s t h h' w
 ·rw[may_num h,may_text h'];exact cmpNT_c n s t h h' w
 ·rw[may_num h,hm'];exact cmpNo2_c _ _ _ _ _ _ (may_num h) hm' w
 ·rw[may_text h,may_num h'];exact cmpTN_c m s t h h' w
 ·rw[may_text h,may_text h'];exact cmpTT_c s t h h' w
 ·rw[may_text h,hm'];exact cmpNo2_c _ _ _ _ _ _ (may_text h) hm' w
 ·rw[hm];exact cmpNo1_c _ _ _ _ _ _ hm w
 ·rw[hm];exact cmpNo1_c _ _ _ _ _ _ hm w
 ·rw[hm];exact cmpNo1_c _ _ _ _ _ _ hm w
theorem isNone_c(x:Vl)(w:World):Calls Tryz.prog 105 #[val x.1 x.2.1 x.2.2] w fun e w'=>e= .returned (.bool (!may x))∧Ext w w':=by
 have hm:=hide (fun w=>may_c x.1 x.2.1 x.2.2 w)
 have e:mayB x.1 x.2.1 x.2.2=may x:=rfl
 rw[e] at hm
 generalize may x=m at *
 obtain⟨k,n,s⟩:=x
 clear e
 go_enter Tryz.func105,Tryz.ntmps105
 go_wp2_with (go_at_call 160;with_reducible refine seq_gw (hm.out _) ?_;intro g)
 go_returns
 exact⟨rfl,((Ext.refl w).alloc _).trans g.grown⟩
theorem indexFunc_c(l:List Vl)(v:Value)(w:World)(h:Rw w [] v l):Calls Tryz.prog 159 #[v, .func (.func 105) #[] #[]] w fun e w'=>e= .returned (.int .i64 (idxF 0 l))∧Ext w w':=by
 obtain⟨A,cap,rfl,hl,hm,hat⟩:=rw_form h
 unfold maxLen at hm
 replace hat:=hide hat
 clear h
 obtain⟨R,hR⟩:∃R,R=idxF 0 l:=⟨_,rfl⟩
 rw[←hR]
 replace hR:=hide hR
 go_enter Tryz.func159,Tryz.ntmps159
 go_wp2_with fail
 go_loopg [8] l.length (fun gh i wr=>∃(k:Nat),i= .int .i64 k∧k+gh=l.length∧Hid (R=idxF k (l.drop k))∧Ext w wr)
 case atStart=>exact⟨0,rfl,by omega,by simpa using hR,Ext.refl w⟩
 case round =>
  obtain⟨k,rfl,hk,hRk,hX⟩:=hrel
  clear hR
  by_cases hlt:k<l.length
  ·obtain⟨x,hx⟩:∃x,l[k]? = some x:=⟨_,List.getElem?_eq_getElem hlt⟩
   obtain⟨b,o,rfl, -,hb,c0,c1,c2⟩:=hat.out k x hx
   have k0:=cell_later hX c0
   have k1:=cell_later hX c1
   have k2:=cell_later hX c2
   have hbr:b<wr.heap.size:=block_lt_of_cell k0
   have hin:=hide (fun w=>isNone_c x w)
   have hR2:=hRk.out
   rw[drop_cons hx] at hR2
   simp only[idxF] at hR2
   replace hR2:=hide hR2
   obtain⟨xk,xn,xs⟩:=x
   clear c0 c1 c2 hat hx
   cases hmx:may (xk,xn,xs)
   ·rw[hmx] at hin hR2
    replace hmx:=hide hmx
    go_wp2_with (go_at_call 105;(with_reducible refine seq_gw (hin.out _) ?_);intro g)
    go_returns
    exact⟨by rw[hR2.out];rfl,hX.trans g.grown⟩
   ·rw[hmx] at hin hR2
    replace hmx:=hide hmx
    go_wp2_with (go_at_call 105;(with_reducible refine seq_gw (hin.out _) ?_);intro g)
    go_roundg (l.length-(k+1))
    case measure=>omega
    case rel=>exact⟨k+1,by go_num,by omega,hR2,hX.trans g.grown⟩
  ·have hk':k=l.length:=by omega
   have hge:(l.length:Int)≤k:=by omega
   have hR2:=hRk.out
   rw[hk',List.drop_length] at hR2
   replace hR2:=hide hR2
   replace hk':=hide hk'
   go_wp2_with fail
   go_returns
   exact⟨by rw[hR2.out];rfl,hX⟩
theorem containsFunc_c(l:List Vl)(v:Value)(w:World)(h:Rw w [] v l):Calls Tryz.prog 104 #[v, .func (.func 105) #[] #[]] w fun e w'=>e= .returned (.bool (!l.all may))∧Ext w w':=by
 have hc:=hide (indexFunc_c l v w h)
 have e:=hide (idxF_ge 0 l)
 generalize idxF 0 l=z at *
 generalize l.all may=m at *
 clear h
 go_enter Tryz.func104,Tryz.ntmps104
 go_wp2_with (go_at_call 159;(with_reducible refine seq_gw hc.out ?_);intro g)
 go_returns
 exact⟨by rw[←e.out];rfl,g.grown⟩
theorem rowMay_c(l:List Vl)(v:Value)(w:World)(h:Rw w [] v l):Calls Tryz.prog 55 #[v] w fun e w'=>e= .returned (.bool (mayR l))∧Ext w w':=by
 have hc:=hide (containsFunc_c l v w h)
 obtain⟨A,cap,rfl,hl,hm, -⟩:=rw_form h
 clear h
 by_cases h8:l.length≤8
 ·have e:mayR l=l.all may:=by unfold mayR;rw[decide_eq_true h8,Bool.true_and]
  rw[e]
  generalize l.all may=m at *
  have h8':(l.length:Int)≤8:=by omega
  clear e
  go_enter Tryz.func55,Tryz.ntmps55
  go_wp2_with (go_at_call 104;(with_reducible refine seq_gw hc.out ?_);intro g)
  go_returns
  exact⟨by simp,g.grown⟩
 ·have e:mayR l=false:=by unfold mayR;rw[decide_eq_false h8,Bool.false_and]
  rw[e]
  have h8':decide ((l.length:Int)≤8)=false:=by rw[decide_eq_false_iff_not];omega
  clear e h8
  go_enter Tryz.func55,Tryz.ntmps55
  go_wp2_with fail
  go_returns
  exact⟨rfl,Ext.refl w⟩
theorem nanI_c(n:Int)(w:World):Calls Tryz.prog 158 #[.int .i64 n] w fun e w'=>e= .returned (.bool false)∧Ext w w':=by
 go_enter Tryz.func158,Tryz.ntmps158
 go_wp2_with fail
 go_returns
 exact⟨rfl,Ext.refl w⟩
theorem cmpInt_c(n m:Int)(w:World):Calls Tryz.prog 102 #[.int .i64 n, .int .i64 m] w fun e w'=>e= .returned (.int .i64 (cmpN n m))∧Ext w w':=by
 obtain⟨r,hr⟩:∃r,r=cmpN n m:=⟨_,rfl⟩
 rw[←hr]
 unfold cmpN at hr
 by_cases h1:n<m
 ·rw[if_pos h1] at hr
  subst hr
  go_enter Tryz.func102,Tryz.ntmps102
  go_wp2_with (go_at_call 158;(first|(with_reducible refine seq_gw' (nanI_c _ _) ?_)|(with_reducible refine seq_gw (nanI_c _ _) ?_));intro g)
  go_returns
  exact⟨rfl,g.grown⟩
 ·by_cases h2:m<n
  ·rw[if_neg h1,if_pos h2] at hr
   subst hr
   go_enter Tryz.func102,Tryz.ntmps102
   go_wp2_with (go_at_call 158;(first|(with_reducible refine seq_gw' (nanI_c _ _) ?_)|(with_reducible refine seq_gw (nanI_c _ _) ?_));intro g)
   go_returns
   exact⟨rfl,g.grown⟩
  ·rw[if_neg h1,if_neg h2] at hr
   subst hr
   have e:n=m:=by omega
   subst e
   go_enter Tryz.func102,Tryz.ntmps102
   go_wp2_with (go_at_call 158;(first|(with_reducible refine seq_gw' (nanI_c _ _) ?_)|(with_reducible refine seq_gw (nanI_c _ _) ?_));intro g)
   go_returns
   exact⟨rfl,g.grown⟩
section
variable {l m:List Vl} {v u:Value} {w:World}
theorem differ_c{ba bb:Nat}(hl:Rw w [] v l)(hm:Rw w [] u m)(oa:Ob w ba 35 [v])(ob:Ob w bb 35 [u])(k:Nat)(x y:Vl)(hx:l[k]? = some x)(hy:m[k]? = some y) :
 Calls Tryz.prog 189 #[.int .i64 k, .pointer (some ⟨ba,0,none⟩), .pointer (some ⟨bb,0,none⟩)] w fun e w'=>e= .returned (.bool (!decide (x=y)))∧Ext w w':=by
 obtain⟨A,cap,rfl,hlc,hlm,hat⟩:=rw_form hl
 obtain⟨B,cap2,rfl,hmc,hmm,hbt⟩:=rw_form hm
 unfold maxLen at hlm hmm
 obtain⟨b,o,rfl, -,hb,k0,k1,k2⟩:=hat k x hx
 obtain⟨b',o',rfl, -,hb',j0,j1,j2⟩:=hbt k y hy
 have hkl:k<l.length:=(List.getElem?_eq_some_iff.1 hx).1
 have hkm:k<m.length:=(List.getElem?_eq_some_iff.1 hy).1
 have q0:=oa.cell 0 rfl
 have q1:=ob.cell 0 rfl
 have hba:=oa.lt
 have hbb:=ob.lt
 obtain⟨xk,xn,xs⟩:=x
 obtain⟨yk,yn,ys⟩:=y
 clear hl hm hat hbt hx hy oa ob
 by_cases hxy:(xk,xn,xs)=(yk,yn,ys)
 ·cases hxy
  rw[decide_eq_true rfl]
  have hns:=neq_same xk xn xs
  go_enter Tryz.func189,Tryz.ntmps189
  go_wp2_with fail
  go_quiet (fail)
  go_wp2_with fail
  go_returns
  exact⟨rfl,(Ext.refl w).drewN _⟩
 ·rw[decide_eq_false hxy]
  have hns:=neq_other hxy
  replace hxy:=hide hxy
  go_enter Tryz.func189,Tryz.ntmps189
  go_wp2_with fail
  go_quiet (fail)
  go_wp2_with fail
  go_returns
  exact⟨rfl,(Ext.refl w).drewN _⟩
theorem first_c{ba bb:Nat}(hl:Rw w [] v l)(hm:Rw w [] u m)(oa:Ob w ba 35 [v])(ob:Ob w bb 35 [u])(n:Nat)(hn:n=min l.length m.length) :
 Calls Tryz.prog 188 #[.int .i64 n, .func (.func 189) #[] #[.pointer (some ⟨ba,0,none⟩), .pointer (some ⟨bb,0,none⟩)]] w fun e w'=>e= .returned (.int .i64 (pre l m:Nat))∧Ext w w':=by
 have hmx:n≤9223372036854775807:=by have:=hl.le;unfold maxLen at this;omega
 have hd:Hid (∀wr,Ext w wr→∀(k:Nat) (x y:Vl),l[k]? = some x→m[k]? = some y→Calls Tryz.prog 189 #[.int .i64 k, .pointer (some ⟨ba,0,none⟩), .pointer (some ⟨bb,0,none⟩)] wr fun e w'=>e= .returned (.bool (!decide (x=y)))∧Ext wr w') :=
  fun wr hX k x y hx hy=>differ_c (Sl.ext hl hX) (Sl.ext hm hX) (oa.ext hX) (ob.ext hX) k x y hx hy
 obtain⟨R,hR⟩:∃R,R=pre l m:=⟨_,rfl⟩
 rw[←hR]
 replace hR:=hide hR
 replace hn:=hide hn
 clear hl hm oa ob
 go_enter Tryz.func188,Tryz.ntmps188
 go_wp2_with fail
 go_loopg [7] n (fun gh i wr=>∃(k:Nat),i= .int .i64 k∧k+gh=n∧Hid (R=k+pre (l.drop k) (m.drop k))∧Ext w wr)
 case atStart=>exact⟨0,rfl,by omega,(by show R=0+pre (l.drop 0) (m.drop 0);rw[hR.out];simp),Ext.refl w⟩
 case round =>
  obtain⟨k,rfl,hk,hRk,hX⟩:=hrel
  clear hR
  by_cases hlt:k<n
  ·obtain⟨x,hx⟩:∃x,l[k]? = some x:=⟨_,List.getElem?_eq_getElem (by have:=hn.out;omega)⟩
   obtain⟨y,hy⟩:∃y,m[k]? = some y:=⟨_,List.getElem?_eq_getElem (by have:=hn.out;omega)⟩
   have hR2:=hRk.out
   rw[drop_cons hx,drop_cons hy] at hR2
   simp only[pre] at hR2
   have hc:=hide (hd.out wr hX k x y hx hy)
   clear hx hy hd hRk
   by_cases hxy:x=y
   ·rw[if_pos hxy] at hR2
    rw[decide_eq_true hxy] at hc
    replace hxy:=hide hxy
    replace hR2:=hide (show R=(k+1)+pre (l.drop (k+1)) (m.drop (k+1)) by omega)
    go_wp2_with (go_at_call 189;(with_reducible refine seq_gw hc.out ?_);intro g)
    go_roundg (n-(k+1))
    case measure=>omega
    case rel=>exact⟨k+1,by go_num,by omega,hR2,hX.trans g.grown⟩
   ·rw[if_neg hxy] at hR2
    rw[decide_eq_false hxy] at hc
    replace hxy:=hide hxy
    replace hR2:=hide hR2
    go_wp2_with (go_at_call 189;(with_reducible refine seq_gw hc.out ?_);intro g)
    go_returns
    exact⟨by rw[hR2.out];rfl,hX.trans g.grown⟩
  ·have hge:(n:Int)≤k:=by omega
   have hR2:=hRk.out
   have hp:pre (l.drop k) (m.drop k)=0:=by
    have h1:=pre_le (l.drop k) (m.drop k)
    rw[List.length_drop,List.length_drop] at h1
    have:=hn.out
    omega
   have hkn:k=n:=by omega
   rw[hp,hkn] at hR2
   replace hR2:=hide hR2
   replace hkn:=hide hkn
   clear hp
   go_wp2_with fail
   go_returns
   exact⟨by rw[hR2.out];rfl,hX⟩
end
section
variable {l m:List Vl} {v u:Value} {w:World}
theorem rowCompareNo_c(hl:Rw w [] v l)(hm:Rw w [] u m)(h:(mayR l && mayR m)=false):Calls Tryz.prog 137 #[v,u] w fun e w'=>e= .returned (.int .i64 0)∧Ext w w':=by
 have h1:=hide (fun w' (hX:Ext w w')=>rowMay_c l v w' (Sl.ext hl hX))
 have h2:=hide (fun w' (hX:Ext w w')=>rowMay_c m u w' (Sl.ext hm hX))
 obtain⟨A,cap,rfl, -, -, -⟩:=rw_form hl
 obtain⟨B,cap2,rfl, -, -, -⟩:=rw_form hm
 have hX0:=hide (((Ext.refl w).alloc (bxR (.slice A l.length cap))).alloc (bxR (.slice B m.length cap2)))
 clear hl hm
 cases ha:mayR l
 ·rw[ha] at h1
  clear h ha
  go_enter Tryz.func137,Tryz.ntmps137
  go_wp2_with (go_at_call 55;(with_reducible refine seq_gw (h1.out _ hX0.out) ?_);intro g)
  go_returns
  exact⟨rfl,hX0.out.trans g.grown⟩
 ·rw[ha,Bool.true_and] at h
  rw[ha] at h1
  rw[h] at h2
  clear h ha
  go_enter Tryz.func137,Tryz.ntmps137
  go_wp2_with (first|(go_at_call 55;(with_reducible refine seq_gw (h1.out _ hX0.out) ?_);intro g)|(go_at_call 55;(with_reducible refine seq_gw' (h2.out _ (hX0.out.trans g.grown)) ?_);intro g2))
  go_returns
  exact⟨rfl,hX0.out.trans g2.grown⟩
theorem rowCompareYes_c(hl:Rw w [] v l)(hm:Rw w [] u m)(ha:mayR l=true)(hb:mayR m=true):Calls Tryz.prog 137 #[v,u] w fun e w'=>e= .returned (.int .i64 (cmpT l m))∧Ext w w':=by
 have h1:=hide (fun w' (hX:Ext w w')=>rowMay_c l v w' (Sl.ext hl hX))
 have h2:=hide (fun w' (hX:Ext w w')=>rowMay_c m u w' (Sl.ext hm hX))
 rw[ha] at h1
 rw[hb] at h2
 obtain⟨A,cap,rfl,hlc,hlm,hat⟩:=rw_form hl
 obtain⟨B,cap2,rfl,hmc,hmm,hbt⟩:=rw_form hm
 unfold maxLen at hlm hmm
 have l8:=(mayR_iff.1 ha).1
 have m8:=(mayR_iff.1 hb).1
 replace hat:=hide hat
 replace hbt:=hide hbt
 have hX0:=hide (((Ext.refl w).alloc (bxR (.slice A l.length cap))).alloc (bxR (.slice B m.length cap2)))
 have oa:=(Ob.new w 35 [.slice A l.length cap]).alloc (bxR (.slice B m.length cap2))
 have ob:Ob ((w.alloc (bxR (.slice A l.length cap))).alloc (bxR (.slice B m.length cap2))) (w.heap.size+1) 35 [.slice B m.length cap2]:=by
  have:=Ob.new (w.alloc (bxR (.slice A l.length cap))) 35 [.slice B m.length cap2]
  simpa using this
 replace oa:=hide oa
 replace ob:=hide ob
 have hf:Hid (∀w',Ext ((w.alloc (bxR (.slice A l.length cap))).alloc (bxR (.slice B m.length cap2))) w'→Calls Tryz.prog 188 #[.int .i64 (min l.length m.length:Nat), .func (.func 189) #[] #[.pointer (some ⟨w.heap.size,0,none⟩), .pointer (some ⟨w.heap.size+1,0,none⟩)]] w' fun e w''=>e= .returned (.int .i64 (pre l m:Nat))∧Ext w' w'') :=
  fun w' hX=>first_c (Sl.ext hl (hX0.out.trans hX)) (Sl.ext hm (hX0.out.trans hX)) (oa.out.ext hX) (ob.out.ext hX) _ rfl
 have hpl:=pre_le l m
 by_cases hlt:m.length<l.length
 ·have e0:min l.length m.length=m.length:=by omega
  rw[e0] at hf
  have hI:(m.length:Int)<l.length:=by omega
  by_cases hp:pre l m=m.length
  ·have hce:=cmpT_end l m (by rw[e0];exact hp)
   rw[hce]
   rw[hp] at hf
   have hc:=hide (fun w=>cmpInt_c l.length m.length w)
   clear hce hp e0 hlt hat hbt hpl ha hb oa ob hl hm
   go_enter Tryz.func137,Tryz.ntmps137
   go_wp2_with (first|(go_at_call 55;(with_reducible refine seq_gw (h1.out _ hX0.out) ?_);intro g)|(go_at_call 55;(with_reducible refine seq_gw' (h2.out _ (hX0.out.trans g.grown)) ?_);intro g2)|(go_at_call 188;(with_reducible refine seq_gw' (hf.out _ g2.grown) ?_);intro g3)|(go_at_call 102;(with_reducible refine seq_gw' (hc.out _) ?_);intro g4))
   go_returns
   exact⟨rfl,hX0.out.trans g4.grown⟩
  ·obtain⟨x,hx⟩:∃x,l[pre l m]? = some x:=⟨_,List.getElem?_eq_getElem (by omega)⟩
   obtain⟨y,hy⟩:∃y,m[pre l m]? = some y:=⟨_,List.getElem?_eq_getElem (by omega)⟩
   have hcd:=cmpT_diff l m x y hx hy
   rw[hcd]
   obtain⟨b,o,rfl, -,hb1,c0,c1,c2⟩:=hat.out _ x hx
   obtain⟨b',o',rfl, -,hb2,d0,d1,d2⟩:=hbt.out _ y hy
   obtain⟨xk,xn,xs⟩:=x
   obtain⟨yk,yn,ys⟩:=y
   have hc:=hide (fun w=>compare_c xk xn yk yn xs ys w)
   have hpb:(((pre l m:Nat):Int) == m.length)=false:=by rw[beq_eq_false_iff_ne];omega
   have hp1:pre l m<l.length:=by omega
   have hp2:pre l m<m.length:=by omega
   haveI:In b w:=⟨hb1⟩
   haveI:In b' w:=⟨hb2⟩
   generalize pre l m=q at *
   clear hcd hp e0 hlt hat hbt hx hy hpl ha hb oa ob hl hm
   go_enter Tryz.func137,Tryz.ntmps137
   go_wp2_with (first|(go_at_call 55;(with_reducible refine seq_gw (h1.out _ hX0.out) ?_);intro g)|(go_at_call 55;(with_reducible refine seq_gw' (h2.out _ (hX0.out.trans g.grown)) ?_);intro g2)|(go_at_call 188;(with_reducible refine seq_gw' (hf.out _ g2.grown) ?_);intro g3))
   refine wp_region_gw (by kernel_rfl) (by kernel_rfl) ?_
   repeat (go_big_quiet_step ((go_at_call 190;with_reducible exact quiet_gw (hc.out _))))
   refine wpQuiet_nil ?_
   intro g4
   go_wp2_with fail
   go_returns
   exact⟨rfl,hX0.out.trans (g3.grown.trans g4.grown)⟩
 ·have e0:min l.length m.length=l.length:=by omega
  rw[e0] at hf
  have hI:¬(m.length:Int)<l.length:=by omega
  by_cases hp:pre l m=l.length
  ·have hce:=cmpT_end l m (by rw[e0];exact hp)
   rw[hce]
   rw[hp] at hf
   have hc:=hide (fun w=>cmpInt_c l.length m.length w)
   clear hce hp e0 hlt hat hbt hpl ha hb oa ob hl hm
   go_enter Tryz.func137,Tryz.ntmps137
   go_wp2_with (first|(go_at_call 55;(with_reducible refine seq_gw (h1.out _ hX0.out) ?_);intro g)|(go_at_call 55;(with_reducible refine seq_gw' (h2.out _ (hX0.out.trans g.grown)) ?_);intro g2)|(go_at_call 188;(with_reducible refine seq_gw' (hf.out _ g2.grown) ?_);intro g3)|(go_at_call 102;(with_reducible refine seq_gw' (hc.out _) ?_);intro g4))
   go_returns
   exact⟨rfl,hX0.out.trans g4.grown⟩
  ·obtain⟨x,hx⟩:∃x,l[pre l m]? = some x:=⟨_,List.getElem?_eq_getElem (by omega)⟩
   obtain⟨y,hy⟩:∃y,m[pre l m]? = some y:=⟨_,List.getElem?_eq_getElem (by omega)⟩
   have hcd:=cmpT_diff l m x y hx hy
   rw[hcd]
   obtain⟨b,o,rfl, -,hb1,c0,c1,c2⟩:=hat.out _ x hx
   obtain⟨b',o',rfl, -,hb2,d0,d1,d2⟩:=hbt.out _ y hy
   obtain⟨xk,xn,xs⟩:=x
   obtain⟨yk,yn,ys⟩:=y
   have hc:=hide (fun w=>compare_c xk xn yk yn xs ys w)
   have hpb:(((pre l m:Nat):Int) == l.length)=false:=by rw[beq_eq_false_iff_ne];omega
   have hp1:pre l m<l.length:=by omega
   have hp2:pre l m<m.length:=by omega
   haveI:In b w:=⟨hb1⟩
   haveI:In b' w:=⟨hb2⟩
   generalize pre l m=q at *
   clear hcd hp e0 hlt hat hbt hx hy hpl ha hb oa ob hl hm
   go_enter Tryz.func137,Tryz.ntmps137
   go_wp2_with (first|(go_at_call 55;(with_reducible refine seq_gw (h1.out _ hX0.out) ?_);intro g)|(go_at_call 55;(with_reducible refine seq_gw' (h2.out _ (hX0.out.trans g.grown)) ?_);intro g2)|(go_at_call 188;(with_reducible refine seq_gw' (hf.out _ g2.grown) ?_);intro g3))
   refine wp_region_gw (by kernel_rfl) (by kernel_rfl) ?_
   repeat (go_big_quiet_step ((go_at_call 190;with_reducible exact quiet_gw (hc.out _))))
   refine wpQuiet_nil ?_
   intro g4
   go_wp2_with fail
   go_returns
   exact⟨rfl,hX0.out.trans (g3.grown.trans g4.grown)⟩
theorem rowCompare_c(hl:Rw w [] v l)(hm:Rw w [] u m):Calls Tryz.prog 137 #[v,u] w fun e w'=>e= .returned (.int .i64 (cmpR l m))∧Ext w w':=by
 cases h:(mayR l && mayR m)
 ·rw[show cmpR l m=0 by unfold cmpR;rw[h];rfl]
  exact rowCompareNo_c hl hm h
 ·rw[show cmpR l m=cmpT l m by unfold cmpR;rw[h];rfl]
  rw[Bool.and_eq_true] at h
  exact rowCompareYes_c hl hm h.1 h.2
end
end Go.Proofs.YtajelkkiijdegaaGreat.Dr
