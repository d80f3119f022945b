/-
  A helper of ours: no claim of its own. Layer 13 (fold): all messages, one after another, by the code; what is reported is told to Answers.
-/
import Derived.Test.YtajelkkiijdegaaGreatFolB
import Derived.Test.YtajelkkiijdegaaGreatEdgEa
set_option linter.unusedVariables false
set_option linter.unusedSimpArgs false
set_option linter.unusedSectionVars false
set_option maxHeartbeats 64000000
set_option maxRecDepth 100000
namespace Go.Proofs.YtajelkkiijdegaaGreat
open Go.RowKit
attribute [local go_sem] GW.cell GW.frozen In.eq_true In.le_true In.ne In.ne' In.ne_add In.ne_add' In.lt_add Upto.le_true Upto.le_add Upto.lt_add
theorem kn_fr{w W:World}{mb n:Nat}{S:List Nat}{T:List Ke}(h:Kn w mb n T)(hF:Fr S w W)(hmb:mb∉S):Kn W mb n T:=by
 have hml:=h.lt
 obtain⟨es,⟨es',c,g1,rst⟩,h2⟩:=h
 exact⟨es,⟨es',c,(hF.block mb hml hmb).trans g1,rst⟩,h2⟩
theorem top3{w w0:World}(hz:w0.heap.size=w.heap.size)(o1 o2:Obj)(T:TypeId)(vs:List Value):Ob (((w0.alloc o1).alloc o2).alloc (.cells vs.toArray T)) (w.heap.size+1+1) T vs:=by
 have:=Ob.new ((w0.alloc o1).alloc o2) T vs
 rw[World.size_alloc,World.size_alloc,hz] at this
 exact this
theorem top2{w w0:World}(hz:w0.heap.size=w.heap.size)(o1 o3:Obj)(T:TypeId)(vs:List Value):Ob (((w0.alloc o1).alloc (.cells vs.toArray T)).alloc o3) (w.heap.size+1) T vs:=by
 have:=Ob.new (w0.alloc o1) T vs
 rw[World.size_alloc,hz] at this
 exact this.alloc o3
abbrev zCl:List Value:=[.int .i64 0, .slice none 0 0, .int .i64 0, .int .i64 0, .int .i64 0, .int .i64 0]
theorem acceptC_c(s mb n:Nat)(c ser:Int)(T:List Ke)(i f t:Int)(l:List Vl)(v:Value)(w:World)(h:Fs w s mb n c ser T)(hv:Rw w [] v l)(hms:s≠mb):Calls Tryz.prog 151 #[.pointer (some ⟨s,0,none⟩),mg 3 i f t v] w fun e w'=>e= .returned zChV∧Fs w' s mb n f ser T∧Fr [s,mb] w w':=by
 have c0:=h.1.cell 0 rfl
 have f0:=h.1.free 0
 have hlt:=h.1.lt
 haveI:In s w:=⟨hlt⟩
 obtain⟨VA,vc,rfl⟩:=rw_val hv
 generalize l.length=vl at *
 have hh:=hide h
 clear h hv
 go_enter Tryz.func151,Tryz.ntmps151
 go_wp2_with fail
 go_returns
 refine⟨rfl,⟨(((hh.out.1.set 0 (.int .i64 f)).alloc _).alloc _).alloc _,kn_fr (S:=[s]) hh.out.2 (by repeat (first|exact Fr.refl _ _|refine Fr.alloc ?_ _|refine Fr.drew ?_|refine Fr.drewN ?_ _|refine Fr.setCell ?_ _ _ (by first|(left;simp;done)|(right;simp;done)|(right;simp;omega)))) (by simpa using Ne.symm hms)⟩,Fr.more (S:=[s]) (by repeat (first|exact Fr.refl _ _|refine Fr.alloc ?_ _|refine Fr.drew ?_|refine Fr.drewN ?_ _|refine Fr.setCell ?_ _ _ (by first|(left;simp;done)|(right;simp;done)|(right;simp;omega)))) (by simp +contextual)⟩
theorem acceptI_c(s mb n N:Nat)(c:Int)(T:List Ke)(i f t:Int)(l:List Vl)(v:Value)(hi:inI i)(hN:N≤1000000000)(hn:n≤1000000000)(w:World)(h:Fs w s mb n c N T)(hv:Rw w [] v l)(hms:s≠mb):Calls Tryz.prog 151 #[.pointer (some ⟨s,0,none⟩),mg 1 i f t v] w fun e w'=>e= .returned (chV v (N+1,l,(0,0),(f,t)))∧Fs w' s mb (n+1) c (N+1:Nat) (putM kent T (v,i,(N+1,l,(0,0),(f,t))))∧Fr [s,mb] w w':=by
 have c1:=h.1.cell 1 rfl
 have f1:=h.1.free 1
 have hlt:=h.1.lt
 haveI:In s w:=⟨hlt⟩
 have hml:=h.2.lt
 obtain⟨VA,vc,rfl⟩:=rw_val hv
 have hh:=hide h
 have c2:=h.1.cell 2 rfl
 clear h hv
 go_enter Tryz.func151,Tryz.ntmps151
 go_wp2_with fail
 go_region
 go_wp2_with fail
 haveI i0:∀(a:Addr) (u:Value) (o:Obj),In w.heap.size ((w.setCell a u).alloc o):=fun _ _ _=>⟨by simp⟩
 haveI i1:∀(a:Addr) (u:Value) (o o':Obj),In (w.heap.size+1) (((w.setCell a u).alloc o).alloc o'):=fun _ _ _ _=>⟨by simp⟩
 haveI i2:∀(a:Addr) (u:Value) (o o' o'':Obj),In (w.heap.size+1+1) ((((w.setCell a u).alloc o).alloc o').alloc o''):=fun _ _ _ _ _=>⟨by simp⟩
 refine wp_region_gw_tail 7 (by kernel_rfl) (by kernel_rfl) ?_
 simp only[List.take_succ_cons,List.take_zero,List.drop_succ_cons,List.drop_zero]
 repeat (go_big_quiet_step (fail))
 refine wpQuiet_nil ?_
 intro g
 have hOs:Ob g.val s 212 [.int .i64 c,(.int .i64 (N+1)), .map (some mb)]:=Ob.ext ((((hh.out.1.set 1 (.int .i64 (N+1))).alloc _).alloc _).alloc _).drew g.grown
 have hOr:Ob g.val (w.heap.size+1) 39 zCl:=Ob.ext (top2 (w:=w) (w0:=w.setCell ⟨s,1,none⟩ (.int .i64 (N+1))) (by simp) _ _ _ zCl).drew g.grown
 have hOc:Ob g.val (w.heap.size+1+1) 39 [.int .i64 (N+1), .slice VA l.length vc, .int .i64 0, .int .i64 0, .int .i64 f, .int .i64 t]:=Ob.ext (top3 (w:=w) (w0:=w.setCell ⟨s,1,none⟩ (.int .i64 (N+1))) (by simp) _ _ _ [.int .i64 (N+1), .slice VA l.length vc, .int .i64 0, .int .i64 0, .int .i64 f, .int .i64 t]).drew g.grown
 have hFg:Fr [s] w g.val:=Fr.then (S':=[]) (by repeat (first|exact Fr.refl _ _|refine Fr.alloc ?_ _|refine Fr.drew ?_|refine Fr.drewN ?_ _|refine Fr.setCell ?_ _ _ (by first|(left;simp;done)|(right;simp;done)|(right;simp;omega)))) (Fr.of_ext g.grown) (by simp)
 have hKg:=hide (kn_fr hh.out.2 hFg (by simpa using Ne.symm hms))
 have hOs':=hide hOs
 have hOr':=hide hOr
 have hOc':=hide hOc
 have hFg':=hide hFg
 clear hOs hOr hOc hFg
 go_wp2_with (at_mapUpdate;refine wpl_mstore rfl (.tmp 61) (.tmp 63) (.tmp 64) rfl (.slice VA l.length vc,i,(N+1,l,(0,0),(f,t))) rfl rfl rfl kKey Tryz.underlying210 (by unfold maxLen;omega) hKg.out (key_of hi) ?_;intro w5 hM5 hg5;have O5r:=hOr'.out.grown hg5 (by simp;omega);have O5c:=hOc'.out.grown hg5 (by simp;omega);have r0:=O5r.cell 0 rfl;have r1:=O5r.cell 1 rfl;have r2:=O5r.cell 2 rfl;have r3:=O5r.cell 3 rfl;have r4:=O5r.cell 4 rfl;have r5:=O5r.cell 5 rfl;have z0:=O5r.free 0;have z1:=O5r.free 1;have z2:=O5r.free 2;have z3:=O5r.free 3;have z4:=O5r.free 4;have z5:=O5r.free 5;have q0:=O5c.cell 0 rfl;have q1:=O5c.cell 1 rfl;have q2:=O5c.cell 2 rfl;have q3:=O5c.cell 3 rfl;have q4:=O5c.cell 4 rfl;have q5:=O5c.cell 5 rfl;have ql:=O5c.lt;have rl:=O5r.lt;haveI:In (w.heap.size+1) w5:=⟨rl⟩;haveI:In (w.heap.size+1+1) w5:=⟨ql⟩;have O5s:=hide (hOs'.out.grown hg5 (by simpa using hms));have hF5:=hide (Fr.grown (S:=[s,mb]) (hFg'.out.more (by simp +contextual)) hg5 (fun z hz=>by obtain rfl:=Option.some.inj hz;exact .inl (by simp)));have hM5':=hide hM5;clear hM5 hg5 O5r O5c)
 first|go_frame|skip
 go_wp2_with fail
 refine bodyPost_ret (by simp[results,Tryz.results151,go_sem,r0,r1,r2,r3,r4,r5];try rfl) rfl ?_
 have hF:=(((((((Fr.refl [w.heap.size+1] w5).setCell ⟨w.heap.size+1,0,none⟩ (.int .i64 (↑N+1)) (.inl (by simp))).setCell ⟨w.heap.size+1,1,none⟩ (.slice VA l.length vc) (.inl (by simp))).setCell ⟨w.heap.size+1,2,none⟩ (.int .i64 0) (.inl (by simp))).setCell ⟨w.heap.size+1,3,none⟩ (.int .i64 0) (.inl (by simp))).setCell ⟨w.heap.size+1,4,none⟩ (.int .i64 f) (.inl (by simp))).setCell ⟨w.heap.size+1,5,none⟩ (.int .i64 t) (.inl (by simp)))
 exact⟨rfl,⟨O5s.out.fr hF (by simp;omega),kn_fr hM5'.out hF (by simp;omega)⟩,hF5.out.then hF (by simp)⟩
theorem acceptR_c(s mb n N:Nat)(c:Int)(T:List Ke)(i f t:Int)(l:List Vl)(v:Value)(p:Ke)(hi:inI i)(hp:atK T i=some p)(hs:p.2.2.1≤1000000000)(h1:0≤p.2.2.2.2.2.1)(h2:p.2.2.2.2.2.1<p.2.2.2.2.2.2)(h3:p.2.2.2.2.2.2≤1125899906842624)(h4:p.2.2.2.2.2.1≤t)(h5:t<p.2.2.2.2.2.2)(hn:n≤1000000000)(w:World)(hpR:Rw w [] p.1 p.2.2.2.1)(h:Fs w s mb n c N T)(hv:Rw w [] v l)(hms:s≠mb):Calls Tryz.prog 151 #[.pointer (some ⟨s,0,none⟩),mg 2 i f t v] w fun e w'=>e= .returned (chV p.1 (p.2.2.1,p.2.2.2.1,p.2.2.2.2.2,cut p.2.2.2.2.2 t))∧Fs w' s mb (n+1) c N (putM kent T (p.1,i,(p.2.2.1,p.2.2.2.1,p.2.2.2.2.2,cut p.2.2.2.2.2 t)))∧Fr [s,mb] w w':=by
 have hlt:=h.1.lt
 haveI:In s w:=⟨hlt⟩
 have hml:=h.2.lt
 have hl:=look_1 h.2 hi
 rw[hp] at hl
 obtain⟨VA,vc,rfl⟩:=rw_val hv
 obtain⟨PA,pc,epv⟩:=rw_val hpR
 obtain⟨pv,pid,ps,pr,⟨po1,po2⟩,pn1,pn2⟩:=p
 simp only at epv h1 h2 h3 h4 h5 hs
 subst epv
 replace hl:∀w' [Gn w w'],(Instr.lookup 210 (.map (some mb)) (.int .i64 i) false).run Tryz.prog w'= .ok (.agg #[.int .i64 ps, .slice PA pr.length pc, .int .i64 po1, .int .i64 po2, .int .i64 pn1, .int .i64 pn2]) w':=hl
 obtain⟨x1,x2,b,hah,hcut⟩:∃x1 x2 b,Hid (∀w',Calls Tryz.prog 201 #[.agg #[.int .i64 pn1, .int .i64 pn2], .int .i64 t] w' fun e w''=>e= .returned (.tuple #[.agg #[.int .i64 x1, .int .i64 x2], .bool b])∧Ext w' w'')∧cut (pn1,pn2) t=(x1,x2):=by
  have hsm:smayB pn1 pn2=true:=by
   unfold smayB isTickB
   simp only[Bool.and_eq_true,decide_eq_true_iff]
   omega
  unfold cut
  by_cases e:t=pn1
  ·refine⟨0,0,false,fun w'=>?_,by rw[if_pos e]⟩
   have hb:aheadB pn1 pn2 t=false:=by unfold aheadB;rw[hsm,e];simp
   have:=ahead_c pn1 pn2 t w'
   rw[hb] at this
   exact this
  ·refine⟨pn1,t,true,fun w'=>?_,by rw[if_neg e]⟩
   have hb:aheadB pn1 pn2 t=true:=by unfold aheadB;rw[hsm];simp;omega
   have:=ahead_c pn1 pn2 t w'
   rw[hb,Int.min_eq_right (by omega)] at this
   exact this
 simp only[hcut]
 have hh:=hide h
 have c2:=h.1.cell 2 rfl
 clear h hv h1 h2 h3 h4 h5 hcut hpR
 replace hp:=hide hp
 haveI i0:∀(o:Obj),In w.heap.size (w.alloc o):=fun _=>⟨by simp⟩
 haveI i1:∀(o o':Obj),In (w.heap.size+1) ((w.alloc o).alloc o'):=fun _ _=>⟨by simp⟩
 haveI i2:∀(o o' o'':Obj),In (w.heap.size+1+1) (((w.alloc o).alloc o').alloc o''):=fun _ _ _=>⟨by simp⟩
 go_enter Tryz.func151,Tryz.ntmps151
 go_wp2_with fail
 go_region
 go_wp2_with (go_at_call 201;first|((with_reducible refine seq_gw' (hah.out _) ?_);intro g1;have hzz:=g1.grown.size;simp only[World.size_alloc,World.size_drew] at hzz;have O1s:=hide (Ob.ext ((((hh.out.1.alloc _).alloc _).alloc _).drew) g1.grown:Ob g1.val s 212 [.int .i64 c, .int .i64 N, .map (some mb)]);have O1r:=hide (Ob.ext ((top2 (w:=w) (w0:=w) rfl _ _ _ zCl).drew) g1.grown:Ob g1.val (w.heap.size+1) 39 zCl);have O1c:=hide (Ob.ext ((top3 (w:=w) (w0:=w) rfl _ _ _ [.int .i64 ps, .slice PA pr.length pc, .int .i64 pn1, .int .i64 pn2, .int .i64 pn1, .int .i64 pn2]).drew) g1.grown:Ob g1.val (w.heap.size+1+1) 39 [.int .i64 ps, .slice PA pr.length pc, .int .i64 pn1, .int .i64 pn2, .int .i64 pn1, .int .i64 pn2]))|((with_reducible refine seq_gw (hah.out _) ?_);intro g1;have hzz:=g1.grown.size;simp only[World.size_alloc,World.size_drew] at hzz;have O1s:=hide (Ob.ext ((((hh.out.1.alloc _).alloc _).alloc _).drew) g1.grown:Ob g1.val s 212 [.int .i64 c, .int .i64 N, .map (some mb)]);have O1r:=hide (Ob.ext ((top2 (w:=w) (w0:=w) rfl _ _ _ zCl).drew) g1.grown:Ob g1.val (w.heap.size+1) 39 zCl);have O1c:=hide (Ob.ext ((top3 (w:=w) (w0:=w) rfl _ _ _ [.int .i64 ps, .slice PA pr.length pc, .int .i64 pn1, .int .i64 pn2, .int .i64 pn1, .int .i64 pn2]).drew) g1.grown:Ob g1.val (w.heap.size+1+1) 39 [.int .i64 ps, .slice PA pr.length pc, .int .i64 pn1, .int .i64 pn2, .int .i64 pn1, .int .i64 pn2])))
 refine wp_region_gw_tail 7 (by kernel_rfl) (by kernel_rfl) ?_
 simp only[List.take_succ_cons,List.take_zero,List.drop_succ_cons,List.drop_zero]
 repeat (go_big_quiet_step (fail))
 refine wpQuiet_nil ?_
 intro g
 have hOs:Ob g.val s 212 [.int .i64 c, .int .i64 N, .map (some mb)]:=Ob.ext ((O1s.out.far _ _ (by simp;omega)).far _ _ (by simp;omega)) g.grown
 have hOr:Ob g.val (w.heap.size+1) 39 zCl:=Ob.ext ((O1r.out.far _ _ (by simp)).far _ _ (by simp)) g.grown
 have hOc:Ob g.val (w.heap.size+1+1) 39 [.int .i64 ps, .slice PA pr.length pc, .int .i64 pn1, .int .i64 pn2, .int .i64 x1, .int .i64 x2]:=Ob.ext ((O1c.out.set 4 (.int .i64 x1)).set 5 (.int .i64 x2)) g.grown
 have hFg:Fr [s] w g.val:=Fr.then (S':=[]) (by repeat (first|exact Fr.refl _ _|refine Fr.then (S':=[]) ?_ (Fr.of_ext g1.grown) (by simp)|refine Fr.alloc ?_ _|refine Fr.drew ?_|refine Fr.drewN ?_ _|refine Fr.setCell ?_ _ _ (by first|(left;simp;done)|(right;simp;done)|(right;simp;omega)))) (Fr.of_ext g.grown) (by simp)
 have hKg:=hide (kn_fr hh.out.2 hFg (by simpa using Ne.symm hms))
 have hOs':=hide hOs
 have hOr':=hide hOr
 have hOc':=hide hOc
 have hFg':=hide hFg
 clear hOs hOr hOc hFg
 go_wp2_with (at_mapUpdate;refine wpl_mstore rfl (.tmp 61) (.tmp 63) (.tmp 64) rfl (.slice PA pr.length pc,i,(ps,pr,(pn1,pn2),(x1,x2))) rfl rfl rfl kKey Tryz.underlying210 (by unfold maxLen;omega) hKg.out (key_of hi) ?_;intro w5 hM5 hg5;have O5r:=hOr'.out.grown hg5 (by simp;omega);have O5c:=hOc'.out.grown hg5 (by simp;omega);have r0:=O5r.cell 0 rfl;have r1:=O5r.cell 1 rfl;have r2:=O5r.cell 2 rfl;have r3:=O5r.cell 3 rfl;have r4:=O5r.cell 4 rfl;have r5:=O5r.cell 5 rfl;have z0:=O5r.free 0;have z1:=O5r.free 1;have z2:=O5r.free 2;have z3:=O5r.free 3;have z4:=O5r.free 4;have z5:=O5r.free 5;have q0:=O5c.cell 0 rfl;have q1:=O5c.cell 1 rfl;have q2:=O5c.cell 2 rfl;have q3:=O5c.cell 3 rfl;have q4:=O5c.cell 4 rfl;have q5:=O5c.cell 5 rfl;have ql:=O5c.lt;have rl:=O5r.lt;haveI:In (w.heap.size+1) w5:=⟨rl⟩;haveI:In (w.heap.size+1+1) w5:=⟨ql⟩;have O5s:=hide (hOs'.out.grown hg5 (by simpa using hms));have hF5:=hide (Fr.grown (S:=[s,mb]) (hFg'.out.more (by simp +contextual)) hg5 (fun z hz=>by obtain rfl:=Option.some.inj hz;exact .inl (by simp)));have hM5':=hide hM5;clear hM5 hg5 O5r O5c)
 first|go_frame|skip
 go_wp2_with fail
 refine bodyPost_ret (by simp[results,Tryz.results151,go_sem,r0,r1,r2,r3,r4,r5];try rfl) rfl ?_
 have hF:=(((((((Fr.refl [w.heap.size+1] w5).setCell ⟨w.heap.size+1,0,none⟩ (.int .i64 ↑ps) (.inl (by simp))).setCell ⟨w.heap.size+1,1,none⟩ (.slice PA pr.length pc) (.inl (by simp))).setCell ⟨w.heap.size+1,2,none⟩ (.int .i64 pn1) (.inl (by simp))).setCell ⟨w.heap.size+1,3,none⟩ (.int .i64 pn2) (.inl (by simp))).setCell ⟨w.heap.size+1,4,none⟩ (.int .i64 x1) (.inl (by simp))).setCell ⟨w.heap.size+1,5,none⟩ (.int .i64 x2) (.inl (by simp)))
 exact⟨rfl,⟨O5s.out.fr hF (by simp;omega),kn_fr hM5'.out hF (by simp;omega)⟩,hF5.out.then hF (by simp)⟩
end Go.Proofs.YtajelkkiijdegaaGreat
namespace Go.Proofs.YtajelkkiijdegaaGreat
open Go.RowKit
theorem Fs.more{w:World}{s mb n n':Nat}{c ser:Int}{T:List Ke}(h:Fs w s mb n c ser T)(hn:n≤n'):Fs w s mb n' c ser T:=by
 obtain⟨h1,es,h2,h3⟩:=h
 exact⟨h1,es,h2.mono hn,h3⟩
def rowsK(w:World)(T:List Ke):Prop:=∀p∈T,Rw w [] p.1 p.2.2.2.1
theorem rows_free{w:World}{T:List Ke}(h:rowsK w T)(c id:Int):rowsK w (freeK T c id):=by
 unfold freeK
 split
 ·split
  ·exact fun p hp=>h p (mem_delK.1 hp).1
  ·exact h
 ·exact h
theorem rows_put{w:World}{T:List Ke}(h:rowsK w T){x:Ke}(hx:Rw w [] x.1 x.2.2.2.1):rowsK w (putM kent T x):=fun p hp=>by
 rcases List.mem_cons.1 hp with rfl|hp
 ·exact hx
 ·exact h p (mem_delK.1 (show p∈delK T x.2.1 from hp)).1
theorem accept_c(s mb n:Nat)(S:StD)(T:List Ke)(m:PM)(v:Value)(hI:InvF T S)(h0:chkD S m=0)(hin:inI m.1.2.1)(hN:S.2.length≤900000000)(hn:n≤900000000)(wA w:World)(hX:Ext wA w)(hT:rowsK wA T)(hv:Rw wA [] v m.2)(h:Fs w s mb n S.1 S.2.length (freeK T S.1 m.1.2.1))(hms:s≠mb) :
 Calls Tryz.prog 151 #[.pointer (some ⟨s,0,none⟩),mg m.1.1 m.1.2.1 m.1.2.2.1 m.1.2.2.2 v] w fun e w'=>∃u,e= .returned (chV u (tk S m).2)∧Rw wA [] u (tk S m).2.2.1∧Fs w' s mb (n+1) (tk S m).1.1 (tk S m).1.2.length (accK (freeK T S.1 m.1.2.1) S.2.length v m)∧rowsK wA (accK (freeK T S.1 m.1.2.1) S.2.length v m)∧Fr [s,mb] w w':=by
 have hch:=hI.change m h0
 have hkn:=hI.kn_free m.1.2.1
 obtain⟨hI1,hI2⟩:=hI.free m.1.2.1
 have hTf:=rows_free hT S.1 m.1.2.1
 have hz:=h0
 rw[hI.chk] at hz
 obtain⟨z1,z2,z3,z4⟩:=chkO_zero hz
 unfold mkM at z1
 rw[hch]
 clear hch
 obtain⟨⟨k,i,f,t⟩,l⟩:=m
 simp only at *
 generalize freeK T S.1 i=T1 at *
 rcases mchk_kind z1 with rfl|rfl|rfl
 ·refine (acceptI_c s mb n S.2.length S.1 T1 i f t l v hin (by omega) (by omega) w h (Sl.ext hv hX) hms).mono ?_
  rintro e w' ⟨rfl,hF,hfr⟩
  unfold accK tk
  simp only[show ((1:Int)=3)=False by simp,if_false,if_true]
  refine⟨v,rfl,hv,?_,rows_put hTf hv,hfr⟩
  rw[List.length_append,List.length_singleton]
  exact hF
 ·obtain⟨e,he,u1,u2,u3⟩:=z2 rfl
  have hp:∃p,atK T1 i=some p∧e=(p.2.2.2.1,p.2.2.2.2.2):=by
   unfold knK at he
   cases hq:atK T1 i with
   |none=>rw[hq] at he;cases he
   |some p=>rw[hq] at he;exact⟨p,rfl,(Option.some.inj he).symm⟩
  obtain⟨p,hp,rfl⟩:=hp
  obtain⟨g1,g2⟩:=hI1.known p (atK_some hp).1 (hI2 p hp)
  have gev:=hI1.evs _ (List.mem_of_getElem? g2)
  have gp:=hI1.good p (atK_some hp).1
  have hpr:=hTf p (atK_some hp).1
  simp only at gev u1 u2 u3
  refine (acceptR_c s mb n S.2.length S.1 T1 i f t l v p hin hp (by omega) gev.1 gev.2.1 gev.2.2.1 u2 u1 (by omega) w (Sl.ext hpr hX) h (Sl.ext hv hX) hms).mono ?_
  rintro e w' ⟨rfl,hF,hfr⟩
  rw[hp,Option.map_some] at hkn
  unfold accK tk
  simp only[show ((2:Int)=3)=False by simp,show ((2:Int)=1)=False by simp,if_false,hp,hkn]
  refine⟨p.1,rfl,hpr,?_,rows_put hTf hpr,hfr⟩
  rw[List.length_set]
  exact hF
 ·refine (acceptC_c s mb n S.1 S.2.length T1 i f t l v w h (Sl.ext hv hX) hms).mono ?_
  rintro e w' ⟨rfl,hF,hfr⟩
  unfold accK tk
  simp only[if_true]
  exact⟨.slice none 0 0,rfl,Sl.nil _ _ _,hF.more (by omega),hTf,hfr⟩
def StOk(w:World)(s mb:Nat):Prop:=(∃vs,Ob w s 212 vs)∧∃es c,w.heap[mb]? = some (.map es c)
theorem Fs.ok{w:World}{s mb n:Nat}{c ser:Int}{T:List Ke}(h:Fs w s mb n c ser T):StOk w s mb:=by
 obtain⟨h1,es,⟨es',c',g1, -⟩, -⟩:=h
 exact⟨⟨_,h1⟩,_,_,g1⟩
theorem Fs.same{w w':World}{s mb n:Nat}{c ser:Int}{T:List Ke}(h:Fs w s mb n c ser T)(h1:w'.heap[s]? = w.heap[s]?)(h2:w'.heap[mb]? = w.heap[mb]?):Fs w' s mb n c ser T:=by
 obtain⟨k1,es,⟨es',c',g1,r⟩,k2⟩:=h
 exact⟨h1.trans k1,es,⟨es',c',h2.trans g1,r⟩,k2⟩
theorem tk_len(s:StD)(m:PM):(tk s m).1.2.length≤s.2.length+1:=by
 unfold tk
 split
 ·exact Nat.le_succ _
 ·split
  ·rw[List.length_append,List.length_singleton];exact Nat.le_refl _
  ·split
   ·exact Nat.le_succ _
   ·rw[List.length_set];exact Nat.le_succ _
theorem stp_len(s:StD)(m:PM):(stp s m).2.length≤s.2.length+1:=by
 unfold stp
 split
 ·exact tk_len s m
 ·exact Nat.le_succ _
theorem runS_len:∀(l:List PM) (s:StD),(runS s l).2.length≤s.2.length+l.length
 |[],s=>Nat.le_refl _
 |m::r,s=>by
  have h1:=runS_len r (stp s m)
  have h2:=stp_len s m
  show (runS (stp s m) r).2.length≤_
  rw[List.length_cons];omega
theorem chg_ser{T:List Ke}{S:StD}(hI:InvF T S)(m:PM):isC S m=decide (0<(chg S m).1):=by
 unfold isC chg
 by_cases h0:chkD S m=0
 ·rw[if_pos h0,hI.change m h0]
  by_cases h3:m.1.1=3
  ·rw[if_pos h3]
   simp[h0,h3,zCh]
  ·rw[if_neg h3]
   have hz:=h0
   rw[hI.chk] at hz
   obtain⟨z1,z2,z3,z4⟩:=chkO_zero hz
   have hk:=mchk_kind z1
   by_cases h1:m.1.1=1
   ·rw[if_pos h1]
    simp[h0,h3]
   ·rw[if_neg h1]
    have h2:m.1.1=2:=by rcases hk with hk|hk|hk;exact absurd hk h1;exact hk;exact absurd hk h3
    obtain⟨e,he, -⟩:=z2 h2
    unfold knK at he
    cases hp:atK (freeK T S.1 m.1.2.1) m.1.2.1 with
    |none=>rw[hp] at he;cases he
    |some p =>
     obtain⟨h1',h2'⟩:=hI.free m.1.2.1
     obtain⟨g1, -⟩:=h1'.known p (atK_some hp).1 (h2' p hp)
     simp[h0,h3]
     omega
 ·rw[if_neg h0]
  simp[h0,zCh]
abbrev Ex:=(Int×List Vl)×Spn
def exE(e:Ev):Ex:=(e.1,if e.2.2 then (0,0) else e.2.1)
def exL(l:List Ev):List Ex:=l.map exE
theorem ex_none{T:List Ke}{S:StD}(hI:InvF T S)(m:PM)(h:isC S m=false):exL (stp S m).2=exL S.2:=by
 unfold isC at h
 simp only[decide_eq_false_iff_not,not_and,Decidable.not_not] at h
 unfold stp
 split
 ·rename_i h0
  unfold tk
  rw[if_pos (h h0)]
 ·rfl
theorem ex_ins{T:List Ke}{S:StD}(hI:InvF T S)(m:PM)(h:isC S m=true)(h1:m.1.1=1):exL (stp S m).2=exL S.2++[((m.1.2.1,(chg S m).2.1),(chg S m).2.2.2)]:=by
 unfold isC at h
 simp only[decide_eq_true_iff] at h
 unfold stp chg
 rw[if_pos h.1,if_pos h.1]
 unfold tk
 rw[if_neg h.2,if_pos h1]
 simp[exL,exE]
theorem ex_ret{T:List Ke}{S:StD}(hI:InvF T S)(m:PM)(h:isC S m=true)(h1:m.1.1≠1):∃x:Ex,1≤(chg S m).1∧(exL S.2)[(chg S m).1-1]? = some x∧exL (stp S m).2=(exL S.2).set ((chg S m).1-1) (x.1,(chg S m).2.2.2):=by
 unfold isC at h
 simp only[decide_eq_true_iff] at h
 have hz:=h.1
 rw[hI.chk] at hz
 obtain⟨z1,z2,z3,z4⟩:=chkO_zero hz
 have hk:=mchk_kind z1
 have h2:m.1.1=2:=by rcases hk with hk|hk|hk;exact absurd hk h1;exact hk;exact absurd hk h.2
 obtain⟨e,he, -⟩:=z2 h2
 unfold knK at he
 have hkn:=hI.kn_free m.1.2.1
 obtain⟨h1',h2'⟩:=hI.free m.1.2.1
 cases hp:atK (freeK T S.1 m.1.2.1) m.1.2.1 with
 |none=>rw[hp] at he;cases he
 |some p =>
  obtain⟨g1,g2⟩:=h1'.known p (atK_some hp).1 (h2' p hp)
  rw[hp,Option.map_some] at hkn
  have hpi:=(atK_some hp).2
  unfold stp chg
  rw[if_pos h.1,if_pos h.1]
  unfold tk
  rw[if_neg h.2,if_neg h1,hkn]
  simp only
  refine⟨((p.2.1,p.2.2.2.1),p.2.2.2.2.2),by omega,?_,?_⟩
  ·rw[Nat.add_sub_cancel]
   unfold exL
   rw[List.getElem?_map,g2]
   rfl
  ·rw[Nat.add_sub_cancel]
   unfold exL
   rw[List.map_set]
   congr 1
   unfold exE cut
   rw[hpi]
   split<;>simp
end Go.Proofs.YtajelkkiijdegaaGreat
namespace Go.Proofs.YtajelkkiijdegaaGreat
open Go.RowKit
attribute [local go_sem] GW.cell GW.frozen In.eq_true In.le_true In.ne In.ne' In.ne_add In.ne_add' In.lt_add Upto.le_true Upto.le_add Upto.lt_add
theorem processA_c(wA:World)(L:List Vm)(v:Value)(B:Nat)(I:Nat→World→Prop)(hL:Mw wA [] v L)(hin:∀p∈L,inM p.2)(hlen:L.length≤100000)(w:World)(hX:Ext wA w)(h0:I 0 w)
 (hI:∀k w w',I k w→Ext w w'→I k w') (hI2:∀k s mb w w',I k w→StOk w s mb→Fr [s,mb] w w'→I k w')
 (hcall:∀k p u w s mb,L[k]? = some p→Rw wA [] u (chg (runS (0,[]) ((pms L).take k)) p.2).2.1→I k w→Ext wA w→StOk w s mb→Calls Tryz.prog 144 #[mg p.2.1.1 p.2.1.2.1 p.2.1.2.2.1 p.2.1.2.2.2 p.1,chV u (chg (runS (0,[]) ((pms L).take k)) p.2), .int .i64 (chkD (runS (0,[]) ((pms L).take k)) p.2), .pointer (some ⟨B,0,none⟩)] w fun e w'=>e= .returned (.tuple #[])∧I (k+1) w'∧Ext wA w'∧w'.heap[s]? = w.heap[s]? ∧ w'.heap[mb]? = w.heap[mb]?) :
 Calls Tryz.prog 91 #[v, .func (.func 144) #[] #[.pointer (some ⟨B,0,none⟩)]] w fun e w'=>e= .returned (.tuple #[])∧I L.length w'∧Ext wA w':=by
 have hrw:=hide hL.2
 obtain⟨LA,lc,rfl,hlc,hlm,hat⟩:=mw_form hL
 unfold maxLen at hlm
 replace hat:=hide hat
 replace hI:=hide hI
 replace hI2:=hide hI2
 replace hcall:=hide hcall
 have hin':=hide hin
 have h0':=hide h0
 have hX':=hide hX
 clear hL h0 hX hin
 have hmk:∀w,(Instr.makeMap 210 none).run Tryz.prog w= .ok (.map (some w.heap.size)) (w.alloc (.map #[] 0)):=fun _=>by kernel_rfl
 go_enter Tryz.func91,Tryz.ntmps91
 go_wp2_with fail
 obtain⟨mb,hmb⟩:∃mb,mb=w.heap.size:=⟨_,rfl⟩
 obtain⟨s,hs⟩:∃s,s=w.heap.size+1:=⟨_,rfl⟩
 have hms:s≠mb:=by omega
 have hF0:Fs ((w.alloc (.map #[] 0)).alloc (.cells #[.int .i64 0, .int .i64 0, .map (some w.heap.size)] 212)) s mb 0 0 0 []:=by
  subst hs
  have hO:=Ob.new (w.alloc (.map #[] 0)) 212 [.int .i64 0, .int .i64 0, .map (some w.heap.size)]
  rw[World.size_alloc] at hO
  subst hmb
  exact⟨hO,(Mv.made kent w Tryz.prog 3).alloc _⟩
 have hF0':=hide hF0
 have hI0:=hide (hI.out 0 _ _ h0'.out (((Ext.refl w).alloc (.map #[] 0)).alloc (.cells #[.int .i64 0, .int .i64 0, .map (some w.heap.size)] 212)))
 have hX0:=hide ((hX'.out.alloc (.map #[] 0)).alloc (.cells #[.int .i64 0, .int .i64 0, .map (some w.heap.size)] 212))
 have hsA:wA.heap.size≤mb∧wA.heap.size≤s:=by have:=hX'.out.size;omega
 rw[←hs]
 try rw[←hmb]
 rw[←hmb] at hF0' hI0 hX0
 replace hs:=hide hs
 replace hmb:=hide hmb
 clear hF0 hmk h0' hX'
 go_loopg [14] L.length (fun gh iv wr=>∃(k n:Nat) (T:List Ke),iv= .int .i64 k∧k+gh=L.length∧n=k∧Hid (InvF T (runS (0,[]) ((pms L).take k)))∧Hid (Fs wr s mb n (runS (0,[]) ((pms L).take k)).1 (runS (0,[]) ((pms L).take k)).2.length T)∧Hid (rowsK wA T)∧Hid (I k wr)∧Hid (Ext wA wr))
 case atStart=>exact⟨0,0,[],rfl,by omega,rfl,(by show InvF [] (runS (0,[]) []);exact InvF.nil),hF0',(by show rowsK wA [];intro p hp;cases hp),hI0,hX0⟩
 case round =>
  clear hF0' hI0 hX0
  obtain⟨k,n,T,rfl,hk,hnk,hInv,hF,hT,hIk,hX⟩:=hrel
  by_cases hkl:k<L.length
  ·have hkI:(k:Int)<L.length:=by omega
   have dk:decide ((k:Int)<L.length)=true:=decide_eq_true hkI
   obtain⟨p,hp⟩:∃p,L[k]? = some p:=⟨_,List.getElem?_eq_getElem hkl⟩
   obtain⟨b,o,rfl, -,hbl,c0,c1,c2,c3,c4⟩:=hat.out k p hp
   have hpm:(pms L)[k]? = some p.2:=by unfold pms;rw[List.getElem?_map,hp];rfl
   have hpin:=hin'.out p (List.mem_of_getElem? hp)
   have hpr:=hide (hrw.out p (List.mem_of_getElem? hp))
   have hcl:=hide (fun u w s mb=>hcall.out k p u w s mb hp)
   have hnx:=hide (runS_take hpm (0,[]))
   have hSl:=hide (runS_len ((pms L).take k) (0,[]))
   have k0:=cell_later hX.out c0
   have k1:=cell_later hX.out c1
   have k2:=cell_later hX.out c2
   have k3:=cell_later hX.out c3
   have k4:=cell_later hX.out c4
   have hbr:b<wr.heap.size:=block_lt_of_cell k0
   haveI:In b wr:=⟨hbr⟩
   obtain⟨pv,⟨pk,pi,pf,pt⟩,pl⟩:=p
   obtain⟨PA,pc,epv⟩:=rw_val hpr.out
   simp only at epv k0 k1 k2 k3 k4 hpin
   subst epv
   obtain⟨S,hS⟩:∃S,S=runS (0,[]) ((pms L).take k):=⟨_,rfl⟩
   rw[←hS] at hcl hnx hInv hF hSl
   have hiI:inI pi:=hpin.1.2.1
   have hS5:S.2.length≤100000:=by
    have:=hSl.out
    simp only[List.length_nil,List.length_take,pms,List.length_map] at this
    omega
   clear c0 c1 c2 c3 c4 hat hp hpm hcall hin' hrw hpin
   replace hS:=hide hS
   have hch:=hide (hInv.out.chk ((pk,pi,pf,pt),pl))
   simp only at hcl
   have hFr:=hide hF
   by_cases hz:chkD S ((pk,pi,pf,pt),pl)=0
   ·obtain⟨CH,hCH⟩:∃c,c=(tk S ((pk,pi,pf,pt),pl)).2:=⟨_,rfl⟩
    have hcl2:=hcl
    have hchg:chg S ((pk,pi,pf,pt),pl)=CH:=by unfold chg;rw[if_pos hz,hCH]
    rw[hchg,hz] at hcl2
    have hstep:=hInv.out.step ((pk,pi,pf,pt),pl) (.slice PA pl.length pc)
    have hstp:stp S ((pk,pi,pf,pt),pl)=(tk S ((pk,pi,pf,pt),pl)).1:=by unfold stp;rw[if_pos hz]
    rw[if_pos hz] at hstep
    have hacc:=fun w' (hx:Ext wA w') hf=>accept_c s mb n S T ((pk,pi,pf,pt),pl) (.slice PA pl.length pc) hInv.out hz hiI (by omega) (by omega) wA w' hx hT.out hpr.out hf hms
    rw[←hCH] at hacc
    rw[hstp] at hstep hnx
    obtain⟨S',hS'⟩:∃S',S'=(tk S ((pk,pi,pf,pt),pl)).1:=⟨_,rfl⟩
    rw[←hS'] at hacc hstep hnx
    obtain⟨T',hT'⟩:∃T',T'=accK (freeK T S.1 pi) S.2.length (.slice PA pl.length pc) ((pk,pi,pf,pt),pl):=⟨_,rfl⟩
    simp only at hacc hstep
    rw[←hT'] at hacc hstep
    obtain⟨cs,cr,⟨o1,o2⟩,n1,n2⟩:=CH
    replace hacc:=hide hacc
    replace hcl2:=hide hcl2
    replace hstep:=hide hstep
    replace hCH:=hide hCH
    replace hS':=hide hS'
    replace hT':=hide hT'
    replace hz:=hide hz
    clear hcl hchg hstp
    go_wp2_with (first|(go_at_call 149;(refine (free_c s mb n S.1 S.2.length pi T hiI _ (hF.out.ext ((Ext.refl wr).alloc _)) (fun q hq=>Sl.ext (hT.out q hq) (hX.out.alloc _)) hms).mono ?_;rintro ee w2 ⟨rfl,hF2,hfr2⟩;have hml:=hF.out.2.lt;have hsl:=hF.out.1.lt;have hOm:=hide ((Ob.new wr 44 [.int .i64 pk, .int .i64 pi, .int .i64 pf, .int .i64 pt, .slice PA pl.length pc]).fr hfr2 (by simp only[List.mem_cons,List.not_mem_nil,or_false];omega));have m0:=hOm.out.cell 0 rfl;have m1:=hOm.out.cell 1 rfl;have m2:=hOm.out.cell 2 rfl;have m3:=hOm.out.cell 3 rfl;have m4:=hOm.out.cell 4 rfl;have ml:=hOm.out.lt;haveI:In wr.heap.size w2:=⟨ml⟩;have hX2:=hide (ext_fr (hX.out.alloc (mO pk pi pf pt (.slice PA pl.length pc))) hfr2 (by intro y hy;simp only[List.mem_singleton] at hy;omega));have hI2':=hide (hI2.out k s mb _ _ hIk.out hF.out.ok (((Fr.refl [s,mb] wr).alloc (mO pk pi pf pt (.slice PA pl.length pc))).trans (hfr2.more (by simp +contextual))));replace hF2:=hide hF2;clear hfr2))|(go_at_call 150;(have hrs:=result_c s mb n S.1 S.2.length (freeK T S.1 pi) pk pi pf pt pl (.slice PA pl.length pc) hiI w2 hF2.out (fun q hq=>Sl.ext (rows_free hT.out S.1 pi q hq) hX2.out) (Sl.ext hpr.out hX2.out);rw[show chkO S.1 (knK (atK (freeK T S.1 pi) pi)) ((pk,pi,pf,pt),pl)=_ from hch.out.symm] at hrs;rw[hz.out] at hrs;(refine hrs.mono ?_);clear hrs;rintro ee w3 ⟨rfl,hx3⟩;have hz3:=hx3.size;have hX3:=hide (hX2.out.trans hx3);have hF3:=hide (hF2.out.ext hx3);have hI3:=hide (hI.out k _ _ hI2'.out hx3);have hOm3:=hide (hOm.out.ext hx3);have n0:=hOm3.out.cell 0 rfl;have n1':=hOm3.out.cell 1 rfl;have n2':=hOm3.out.cell 2 rfl;have n3:=hOm3.out.cell 3 rfl;have n4:=hOm3.out.cell 4 rfl;have nl:=hOm3.out.lt;haveI:In wr.heap.size w3:=⟨nl⟩;clear hx3))|(go_at_call 151;(refine (hacc.out _ (hX3.out.alloc _) (hF3.out.ext ((Ext.refl w3).alloc _))).mono ?_;rintro ee w4 ⟨u,rfl,hu,hF4,hT4,hfr4⟩;replace hu:=hide hu;obtain⟨UA,uc,eu⟩:=rw_val hu.out;(try simp only at eu);subst eu;have hOc:=hide ((Ob.new w3 39 zCl).fr hfr4 (by simp only[List.mem_cons,List.not_mem_nil,or_false];omega));have y0:=hOc.out.cell 0 rfl;have y1:=hOc.out.cell 1 rfl;have y2:=hOc.out.cell 2 rfl;have y3:=hOc.out.cell 3 rfl;have y4:=hOc.out.cell 4 rfl;have y5:=hOc.out.cell 5 rfl;have e0:=hOc.out.free 0;have e1:=hOc.out.free 1;have e2:=hOc.out.free 2;have e3:=hOc.out.free 3;have e4:=hOc.out.free 4;have e5:=hOc.out.free 5;have yl:=hOc.out.lt;haveI:In w3.heap.size w4:=⟨yl⟩;have hOm4:=hide ((hOm3.out.alloc (.cells zCl.toArray 39)).fr hfr4 (by simp only[List.mem_cons,List.not_mem_nil,or_false];omega));have u0:=hOm4.out.cell 0 rfl;have u1:=hOm4.out.cell 1 rfl;have u2:=hOm4.out.cell 2 rfl;have u3:=hOm4.out.cell 3 rfl;have u4:=hOm4.out.cell 4 rfl;have ul:=hOm4.out.lt;haveI:In wr.heap.size w4:=⟨ul⟩;have hne:wr.heap.size≠w3.heap.size:=(by omega);have hF4':=hide hF4;replace hT4:=hide hT4;replace hfr4:=hide hfr4;clear hF4))|(go_at_call 144;(obtain ⟨w5,hw5⟩:∃w5,w5=(((((w4.setCell ⟨w3.heap.size,0,none⟩ (.int .i64 cs)).setCell ⟨w3.heap.size,1,none⟩ (.slice UA cr.length uc)).setCell ⟨w3.heap.size,2,none⟩ (.int .i64 o1)).setCell ⟨w3.heap.size,3,none⟩ (.int .i64 o2)).setCell ⟨w3.heap.size,4,none⟩ (.int .i64 n1)).setCell ⟨w3.heap.size,5,none⟩ (.int .i64 n2):=⟨_,rfl⟩;have hFc:Fr [w3.heap.size] w4 w5:=(by rw[hw5];repeat (first|exact Fr.refl _ _|refine Fr.setCell ?_ _ _ (.inl (by simp))));have hF35:Fr [s,mb] w3 w5:=(((Fr.refl [s,mb] w3).alloc (.cells zCl.toArray 39)).trans hfr4.out).then hFc (by simp);have hF5:=hide (hF4'.out.same (hFc.block s hF4'.out.1.lt (by simp only[List.mem_cons,List.not_mem_nil,or_false];omega)) (hFc.block mb hF4'.out.2.lt (by simp only[List.mem_cons,List.not_mem_nil,or_false];omega)));have hX5:=hide (ext_fr hX3.out hF35 (by simp only[List.mem_cons,List.not_mem_nil,or_false];omega));have hI5:=hide (hI2.out k s mb _ _ hI3.out hF3.out.ok hF35);rw[←hw5];clear hw5 hFc hF35;(refine (hcl2.out _ w5 s mb hu.out hI5.out hX5.out hF5.out.ok).mono ?_);rintro ee w6 ⟨rfl,hI6,hX6,hs6,hm6⟩;replace hI6:=hide hI6;replace hX6:=hide hX6;have hF6:=hide (hF5.out.same hs6 hm6);clear hs6 hm6)))
    go_roundg (L.length-(k+1))
    case measure=>omega
    case rel=>exact⟨k+1,n+1,T',by go_num,by omega,by omega,(by show InvF _ _;rw[hnx.out];exact hstep.out),(by show Fs _ _ _ _ _ _ _;rw[hnx.out];exact hF6.out),hT4,hI6,hX6⟩
   ·have hcl2:=hcl
    have hchg:chg S ((pk,pi,pf,pt),pl)=zCh:=by unfold chg;rw[if_neg hz]
    have hstp:stp S ((pk,pi,pf,pt),pl)=S:=by unfold stp;rw[if_neg hz]
    have hstep:=hInv.out.step ((pk,pi,pf,pt),pl) (.slice PA pl.length pc)
    rw[if_neg hz,hstp] at hstep
    rw[hstp] at hnx
    rw[hchg] at hcl2
    obtain⟨E,hE⟩:∃E,E=chkD S ((pk,pi,pf,pt),pl):=⟨_,rfl⟩
    rw[←hE] at hcl2 hz hch
    have hz2:(E == 0)=false:=by simp[hz]
    replace hcl2:=hide hcl2
    replace hstep:=hide hstep
    replace hz:=hide hz
    replace hE:=hide hE
    clear hcl hchg hstp
    go_wp2_with (first|(go_at_call 149;(refine (free_c s mb n S.1 S.2.length pi T hiI _ (hF.out.ext ((Ext.refl wr).alloc _)) (fun q hq=>Sl.ext (hT.out q hq) (hX.out.alloc _)) hms).mono ?_;rintro ee w2 ⟨rfl,hF2,hfr2⟩;have hml:=hF.out.2.lt;have hsl:=hF.out.1.lt;have hOm:=hide ((Ob.new wr 44 [.int .i64 pk, .int .i64 pi, .int .i64 pf, .int .i64 pt, .slice PA pl.length pc]).fr hfr2 (by simp only[List.mem_cons,List.not_mem_nil,or_false];omega));have m0:=hOm.out.cell 0 rfl;have m1:=hOm.out.cell 1 rfl;have m2:=hOm.out.cell 2 rfl;have m3:=hOm.out.cell 3 rfl;have m4:=hOm.out.cell 4 rfl;have ml:=hOm.out.lt;haveI:In wr.heap.size w2:=⟨ml⟩;have hX2:=hide (ext_fr (hX.out.alloc (mO pk pi pf pt (.slice PA pl.length pc))) hfr2 (by intro y hy;simp only[List.mem_singleton] at hy;omega));have hI2':=hide (hI2.out k s mb _ _ hIk.out hF.out.ok (((Fr.refl [s,mb] wr).alloc (mO pk pi pf pt (.slice PA pl.length pc))).trans (hfr2.more (by simp +contextual))));replace hF2:=hide hF2;clear hfr2))|(go_at_call 150;(have hrs:=result_c s mb n S.1 S.2.length (freeK T S.1 pi) pk pi pf pt pl (.slice PA pl.length pc) hiI w2 hF2.out (fun q hq=>Sl.ext (rows_free hT.out S.1 pi q hq) hX2.out) (Sl.ext hpr.out hX2.out);rw[show chkO S.1 (knK (atK (freeK T S.1 pi) pi)) ((pk,pi,pf,pt),pl)=_ from hch.out.symm] at hrs;(refine hrs.mono ?_);clear hrs;rintro ee w3 ⟨rfl,hx3⟩;have hz3:=hx3.size;have hX3:=hide (hX2.out.trans hx3);have hF3:=hide (hF2.out.ext hx3);have hI3:=hide (hI.out k _ _ hI2'.out hx3);have hOm3:=hide (hOm.out.ext hx3);have n0:=hOm3.out.cell 0 rfl;have n1':=hOm3.out.cell 1 rfl;have n2':=hOm3.out.cell 2 rfl;have n3:=hOm3.out.cell 3 rfl;have n4:=hOm3.out.cell 4 rfl;have nl:=hOm3.out.lt;haveI:In wr.heap.size w3:=⟨nl⟩;clear hx3))|(go_at_call 144;(have hF5:=hide (hF3.out.ext ((Ext.refl w3).alloc (.cells zCl.toArray 39)));have hX5:=hide (hX3.out.alloc (.cells zCl.toArray 39));have hI5:=hide (hI.out k _ _ hI3.out ((Ext.refl w3).alloc (.cells zCl.toArray 39)));(refine (hcl2.out (.slice none 0 0) _ s mb (Sl.nil _ _ _) hI5.out hX5.out hF5.out.ok).mono ?_);rintro ee w6 ⟨rfl,hI6,hX6,hs6,hm6⟩;replace hI6:=hide hI6;replace hX6:=hide hX6;have hF6:=hide ((hF5.out.same hs6 hm6).more (Nat.le_succ n));clear hs6 hm6)))
    go_roundg (L.length-(k+1))
    case measure=>omega
    case rel=>exact⟨k+1,n+1,freeK T S.1 pi,by go_num,by omega,by omega,(by show InvF _ _;rw[hnx.out];exact hstep.out),(by show Fs _ _ _ _ _ _ _;rw[hnx.out];exact hF6.out),hide (rows_free hT.out S.1 pi),hI6,hX6⟩
  ·have hke:k=L.length:=by omega
   subst hke
   have hge:¬((L.length:Int)<L.length):=by omega
   have dk:decide ((L.length:Int)<L.length)=false:=decide_eq_false hge
   clear hat hrw hin' hcall hI hI2
   go_wp2_with fail
   go_end0
   exact⟨rfl,hIk.out,hX.out⟩
end Go.Proofs.YtajelkkiijdegaaGreat
