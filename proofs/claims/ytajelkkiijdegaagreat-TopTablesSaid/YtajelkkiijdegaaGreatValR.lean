/-
  A helper of ours: no claim of its own. Layer 5 (value): the next value that a reader has.
-/
import Derived.Test.YtajelkkiijdegaaGreatStepE
import Derived.Laws.BitsAllLaws
import Derived.Laws.Bits64b
import Derived.Laws.BitsLemmas
import Derived.Test.YtajelkkiijdegaaGreatRows
import Derived.Test.YtajelkkiijdegaaGreatMem
import Derived.Handy
import Derived.WalkSmall
import Derived.Test.YtajelkkiijdegaaGreatValB
import Derived.WalkSpells
import Derived.Deep.LoopGhost
set_option linter.unusedVariables false
set_option linter.unusedSimpArgs false
set_option linter.unusedSectionVars false
set_option maxHeartbeats 64000000
set_option maxRecDepth 100000
namespace Go.Proofs.YtajelkkiijdegaaGreat
open Go.RowKit
attribute [local go_sem] GW.cell GW.frozen In.eq_true In.le_true In.ne In.ne' In.ne_add In.ne_add' In.lt_add Upto.le_true Upto.le_add Upto.lt_add
def restG(t:Int)(g:Gp):Gp:=(g.1,reR g.2 t)
theorem del_none{kf:List Vl→List UInt8}{V:List Fe}{kl:Lit}(h:∀x∈V,(fent kf x).1.sameKey kl=false):delM (fent kf) V kl=V:=by
 unfold delM
 rw[List.filter_eq_self]
 intro x hx
 rw[h x hx];rfl
theorem bagForget_c(kf:List Vl→List UInt8)(S:List Nat)(B mb n:Nat)(mk t:Int)(T:List Fe)(hn:n+T.length<1000000000)(w:World)(h:Bg kf w S B mb n mk T)(hB:B≠mb)(hS:∀b,b∈S→b<w.heap.size)(hBS:B∈S∧mb∈S):Calls Tryz.prog 28 #[.pointer (some ⟨B,0,none⟩), .int .i64 t] w fun e w' =>
 (t≤mk→e= .returned (.int .i64 0)∧Ext w w')∧(mk<t→(∃p∈T,reE p.2.2.2 t≠0∧e= .returned (.int .i64 (reE p.2.2.2 t))∧Ext w w') ∨
  ((∀p∈T,reE p.2.2.2 t=0)∧e= .returned (.int .i64 0)∧∃U:List Fe,(U.map (·.2.2)).Perm (T.map fun p=>restG t p.2.2)∧(∀p∈U,Rw w' S p.1 p.2.2.1∧Jw w' S p.2.1 p.2.2.2)∧Mv w' Tryz.prog 9 (fent kf) mb (n+U.length) (updT kf T U)∧Ob w' B 118 [.int .i64 t, .map (some mb)]∧Fr [B,mb] w w')):=by
 have c0:=h.1.cell 0 rfl
 have c1:=h.1.cell 1 rfl
 have hlt:=h.1.lt
 haveI:In B w:=⟨hlt⟩
 by_cases ht:t≤mk
 ·have d1:decide (t≤mk)=true:=decide_eq_true ht
  replace ht:=hide ht
  clear h
  go_enter Tryz.func28,Tryz.ntmps28
  go_wp2_with fail
  go_returns
  exact⟨fun _=>⟨rfl,Ext.refl _⟩,fun h2=>by have:=ht.out;omega⟩
 have d1:decide (t≤mk)=false:=decide_eq_false ht
 have hO:=hide h.1
 have hM:=hide h.2.1
 have hT:=hide h.2.2
 have hml:=h.2.1.lt
 have hap:=hide ((h.2.1.apart fnKey).1)
 have hSh:=hide hS
 replace ht:=hide ht
 have hMn:=hide (Mv.made (fent kf) w Tryz.prog 9)
 have hmk:∀w,(Instr.makeMap 116 none).run Tryz.prog w= .ok (.map (some w.heap.size)) (w.alloc (.map #[] 0)):=fun _=>by kernel_rfl
 have hMa:=hide (hM.out.alloc (.map #[] 0))
 clear h hS
 go_enter Tryz.func28,Tryz.ntmps28
 go_wp2_with (at_range;refine wpl_range rfl (.tmp 22) rfl rfl fnKey Tryz.underlying116 hMa.out ?_;intro w1 hr1 hg1 hs1)
 first|go_frame|skip
 simp only[World.size_alloc] at hr1 hs1
 obtain⟨ob,hob⟩:∃ob,ob=w.heap.size:=⟨_,rfl⟩
 obtain⟨r,hrr⟩:∃r,r=w.heap.size+1:=⟨_,rfl⟩
 have hMo:=hide (show Mv w1 Tryz.prog 9 (fent kf) ob 0 [] by rw[hob];exact hMn.out.kept hg1 (by simp))
 have hX1:=hide (show Ext w w1 from ext_grown ((Ext.refl w).alloc (.map #[] 0)) hg1 (by simp))
 rw[←hob,show ob+1=r by omega] at hr1 ⊢
 have hrle:w.heap.size≤r:=by omega
 have hole:w.heap.size≤ob:=by omega
 have hor:ob≠r:=by omega
 obtain⟨S2,hS2e⟩:∃S2,S2=r::ob::S:=⟨_,rfl⟩
 have hsub:=hide (show ∀b,b∈S→b∈S2 by rw[hS2e];intro b hb;simp[hb])
 have hS2n:=hide (show ∀b,b∈S2→b∈S∨w.heap.size≤b by rw[hS2e];intro b hb;simp only[List.mem_cons] at hb;rcases hb with rfl|rfl|hb<;>first|exact .inr hrle|exact .inr hole|exact .inl hb)
 have hS2m:=hide (show ∀b,b∈[r,ob]→b∈S2 by rw[hS2e];intro b hb;simp only[List.mem_cons,List.not_mem_nil,or_false] at hb;rcases hb with rfl|rfl<;>simp)
 have hS2l:=hide (show ∀b,b∈S2→b≤r by rw[hS2e];intro b hb;simp only[List.mem_cons] at hb;rcases hb with rfl|rfl|hb<;>first|omega|(have:=hSh.out b hb;omega))
 have hrl:=hide (show r<w1.heap.size by omega)
 clear hS2e
 replace hr1:=hide hr1
 clear hg1 hs1 hMa hMn
 replace hrr:=hide hrr
 replace hob:=hide hob
 go_loopg [6] T.length (fun gh u wr=>∃(D L V:List Fe),L.length=gh∧Hid (T.Perm (D++L))∧Hid ((V.map (·.2.2)).Perm (D.map fun p=>restG t p.2.2))∧Hid (∀p∈D,reE p.2.2.2 t=0)∧Hid (∀p∈V,Rw wr S2 p.1 p.2.2.1∧Jw wr S2 p.2.1 p.2.2.2)∧Hid (Mv wr Tryz.prog 9 (fent kf) ob V.length V)∧Hid (Rgv wr Tryz.prog 9 (fent kf) mb r n T L)∧Hid (Ext w wr∧r<wr.heap.size))
 case atStart=>exact⟨[],T,[],rfl,List.Perm.refl _,List.Perm.refl _,(by intro p hp;simp at hp),(by intro p hp;simp at hp),hMo,hr1,⟨hX1.out,hrl.out⟩⟩
 case round =>
  clear hr1 hMo hX1
  obtain⟨D,L,V,hL,hp0,hpV,hD0,hVf,hMv,hRv,hXr⟩:=hrel
  have hX:=hide hXr.out.1
  have hrw5:=hXr.out.2
  have cB:=cell_later hX.out c1
  have cBl:=block_lt_of_cell cB
  haveI:In B wr:=⟨cBl⟩
  have hVD:V.length=D.length:=by have:=hpV.out.length_eq;simpa using this
  have hDT:D.length+L.length=T.length:=by have:=hp0.out.length_eq;rw[List.length_append] at this;omega
  go_wp2_with (at_next;refine wpl_next rfl (.tmp 23) rfl rfl fnKey hRv.out ?_ ?_)
  ·intro hl0
   subst hl0
   have hBg:Bg kf wr S B mb n mk T:=⟨hO.out.ext hX.out,hM.out.kept (ext_by hX.out) (by simp),fun p hp=>⟨Sl.ext (hT.out p hp).1 hX.out,Sl.ext (hT.out p hp).2 hX.out⟩⟩
   have hput:=hide (bagPut_c kf S B mb n ob V.length mk T V (by simp at hDT;omega) (by omega) wr hBg hB ⟨hMv.out,fun p hp=>⟨Sl.less (hVf.out p hp).1 hsub.out,Sl.less (hVf.out p hp).2 hsub.out⟩⟩)
   clear hRv hT hBg
   go_wp2_with (go_at_call 59;(refine hput.out.mono ?_;rintro ee w5 ⟨rfl,hM5,hF5⟩;have O5:=(hO.out.ext hX.out).fr hF5 (by simp;exact hB);have q0:=O5.cell 0 rfl;have qf:=O5.free 0;have ql:=O5.lt;haveI:In B w5:=⟨ql⟩;replace O5:=hide O5;replace hM5:=hide hM5;replace hF5:=hide hF5))
   go_returns
   have hDp:D.Perm T:=by have:=hp0.out;rw[List.append_nil] at this;exact this.symm
   have hG:(w5.setCell ⟨B,0,none⟩ (.int .i64 t)).heap.size=w5.heap.size:=World.size_setCell ..
   have hFF:Fr [B,mb] w (w5.setCell ⟨B,0,none⟩ (.int .i64 t)):=((Fr.of_ext hX.out).then (S':=[mb]) hF5.out (by simp)).setCell ⟨B,0,none⟩ _ (.inl (by simp))
   have hFs:Fr [B,mb] wr (w5.setCell ⟨B,0,none⟩ (.int .i64 t)):=((Fr.refl [B,mb] wr).then (S':=[mb]) hF5.out (by simp)).setCell ⟨B,0,none⟩ _ (.inl (by simp))
   refine⟨fun h1=>by have:=ht.out;omega,fun _=> .inr ⟨fun p hp=>hD0.out p (hDp.mem_iff.2 hp),rfl,V,hpV.out.trans (hDp.map _),fun p hp=>?_,?_,?_,hFF⟩⟩
   ·have hm:∀b,b∈[B,mb]→b∈S:=by
     intro b hb
     simp only[List.mem_cons,List.not_mem_nil,or_false] at hb
     rcases hb with rfl|rfl
     ·exact hBS.1
     ·exact hBS.2
    exact⟨Sl.fr (Sl.less (hVf.out p hp).1 hsub.out) hFs hm,Sl.fr (Sl.less (hVf.out p hp).2 hsub.out) hFs hm⟩
   ·obtain⟨es,h1,h2⟩:=hM5.out
    exact⟨es,h1.setCell (Ne.symm hB) _,h2⟩
   ·exact O5.out.set 0 _
  ·intro key vr vj q f L' w4 hkey hq hp hR4 hg4 hs4 hen
   have hE:(fent kf (vr,vj,q,f)).2= .agg #[vr,vj]:=rfl
   rw[hE] at hen ⊢
   obtain⟨hrw,hjw⟩:=hT.out _ hq
   simp only at hrw hjw
   have hlen:L'.length+1=L.length:=by rw[hp.length_eq];rfl
   have hX4:=ext_grown hX.out hg4 (fun z hz=>by obtain rfl:=Option.some.inj hz;exact hrle)
   have hpD:=hp0.out.trans ((List.Perm.refl D).append hp)
   have hneD:∀x∈D,(fent kf x).1.sameKey (fent kf (vr,vj,q,f)).1=false:=fun x hx=>by
    cases hs:(fent kf x).1.sameKey (fent kf (vr,vj,q,f)).1
    ·rfl
    ·exfalso
     have h1:=(hpD.pairwise_iff (R:=fun p q:Fe=>(fent kf p).1≠(fent kf q).1) (fun {a b} hab=>Ne.symm hab)).1 hap.out
     rw[List.pairwise_append] at h1
     exact h1.2.2 x hx _ (by simp) (WideAt.sameKey_eq hs)
   have hneV:=hide (show ∀x∈V,(fent kf x).1.sameKey (fent kf (vr,vj,q,f)).1=false from fun x hx=>by
    have h1:x.2.2∈D.map fun p=>restG t p.2.2:=hpV.out.mem_iff.1 (List.mem_map.2 ⟨x,hx,rfl⟩)
    obtain⟨d,hd,e⟩:=List.mem_map.1 h1
    have h2:=hneD d hd
    have e2:x.2.2.1=d.2.2.1:=by rw[←e];rfl
    have e3:(fent kf x).1=(fent kf d).1:=by unfold fent;rw[e2]
    rw[e3];exact h2)
   have hpn:=hide (show T.Perm ((D++[(vr,vj,q,f)])++L') by rw[List.append_assoc];exact hpD)
   obtain⟨VA,vcap,rfl⟩:=(show ∃A cap,vr= .slice A q.length cap by obtain⟨A,cap,e,_⟩:=hrw;exact⟨A,cap,e⟩)
   have hre:=hide (fun w' (hx:Ext w w')=>stepRest_c f t vj w' ((Sl.less hjw (S':=[]) (by simp)).ext hx))
   obtain⟨JA,jcap,rfl,hjl,hjm, -⟩:=jw_form hjw
   have hA:=World.grownBy_alloc w4 (.cells #[.slice VA q.length vcap, .slice JA f.length jcap] 124) none
   have hMa:=hide ((hMv.out.kept hg4 (by simpa using hor)).kept hA (by simp))
   have hRa:=hide (hR4.kept hA (by simp) (by simp))
   have hXa:=hide (hX4.alloc (.cells #[.slice VA q.length vcap, .slice JA f.length jcap] 124))
   have hO7:=hide (Ob.new w4 124 [.slice VA q.length vcap, .slice JA f.length jcap])
   have hgr:=hide (show Fr [r] wr (w4.alloc (.cells #[.slice VA q.length vcap, .slice JA f.length jcap] 124)) from ((Fr.refl [r] wr).grown hg4 (fun k hk=>by obtain rfl:=Option.some.inj hk;exact .inl (by simp))).alloc _)
   have hnb:V.length<maxLen:=by unfold maxLen;omega
   have hkk:=hide (show keyOf Tryz.prog 9 key=some (fent kf (.slice VA q.length vcap, .slice JA f.length jcap,q,f)).1 from hkey)
   have hqm:=hide hq
   have hrwh:=hide (show Rw w S2 (.slice VA q.length vcap) q from Sl.new hrw hS2n.out)
   have hr4:=hide (show r<(w4.alloc (.cells #[.slice VA q.length vcap, .slice JA f.length jcap] 124)).heap.size by have:=hgr.out.size;omega)
   clear hkey hq hp hp0 hpD hR4 hg4 hs4 hrw hjw hRv hE hA hMv cB cBl hneD hX4
   by_cases he0:reE f t=0
   ·rw[he0] at hre
    go_wp2_with (first|(go_at_call 58;(refine (hre.out _ hXa.out).mono ?_;rintro ee w5 ⟨v5,rfl,ho5,hx5⟩;obtain⟨A5,c5,e5⟩:=own_form ho5;subst e5;have O7:=hO7.out.ext hx5;have p0:=O7.cell 0 rfl;have p1:=O7.cell 1 rfl;have pl:=O7.lt;haveI:In w4.heap.size w5:=⟨pl⟩;have hM5:=hide (hMa.out.kept (ext_by hx5) (by simp));have hx5h:=hide hx5;replace ho5:=hide ho5;clear hx5))|(at_mapUpdate;refine wpl_mstore rfl (.tmp 39) (.tmp 40) (.tmp 44) rfl ((.slice VA q.length vcap, .slice A5 (reR f t).length c5,(q,reR f t)):Fe) rfl rfl rfl fnKey Tryz.underlying116 hnb hM5.out hkk.out ?_;intro w6 hM6 hg6))
    first|go_frame|skip
    go_roundg L'.length
    case measure=>omega
    case rel =>
     have hFz:Fr [r,ob] wr w6:=((hgr.out.more (S':=[r,ob]) (fun k _ hk=>by simp at hk;simp[hk])).then (S':=[]) (Fr.of_ext hx5h.out) (by simp)).grown hg6 (fun k hk=>by obtain rfl:=Option.some.inj hk;exact .inl (by simp))
     have hFy:Fr [r,ob] w5 w6:=(Fr.refl _ _).grown hg6 (fun k hk=>by obtain rfl:=Option.some.inj hk;exact .inl (by simp))
     refine⟨D++[(.slice VA q.length vcap, .slice JA f.length jcap,q,f)],L',(.slice VA q.length vcap, .slice A5 (reR f t).length c5,(q,reR f t))::V,rfl,hpn,?_,?_,?_,?_,?_,?_⟩
     ·show List.Perm _ _
      rw[List.map_cons,List.map_append]
      exact (hpV.out.cons _).trans (List.perm_append_singleton _ _).symm
     ·intro p hp
      rcases List.mem_append.1 hp with hp|hp
      ·exact hD0.out p hp
      ·obtain rfl:=List.mem_singleton.1 hp;exact he0
     ·intro p hp
      rcases List.mem_cons.1 hp with rfl|hp
      ·refine⟨Sl.fr (Sl.ext hrwh.out (hXa.out.trans hx5h.out)) hFy hS2m.out,Sl.fr (Sl.own ho5.out fun b hb=>?_) hFy hS2m.out⟩
       have h1:=hS2l.out b hb
       have h2:=hr4.out
       omega
      ·exact⟨Sl.fr (hVf.out p hp).1 hFz hS2m.out,Sl.fr (hVf.out p hp).2 hFz hS2m.out⟩
     ·have hM7:=hM6
      unfold putM at hM7
      rw[del_none (kl:=(fent kf (.slice VA q.length vcap, .slice A5 (reR f t).length c5,q,reR f t)).1) hneV.out] at hM7
      exact hM7
     ·exact (hRa.out.kept (ext_by hx5h.out) (by simp) (by simp)).kept hg6 (by simp;omega) (by simpa using Ne.symm hor)
     ·exact⟨ext_grown (hXa.out.trans hx5h.out) hg6 (fun k hk=>by obtain rfl:=Option.some.inj hk;exact hole),Nat.lt_of_lt_of_le hr4.out (Nat.le_trans hx5h.out.size hg6.size)⟩
   ·have be:(reE f t != 0)=true:=by simp[he0]
    obtain⟨E,hEe⟩:∃E,E=reE f t:=⟨_,rfl⟩
    rw[←hEe] at hre be he0
    replace hEe:=hide hEe
    go_wp2_with (go_at_call 58;(refine (hre.out _ hXa.out).mono ?_;rintro ee w5 ⟨v5,rfl,ho5,hx5⟩;obtain⟨A5,c5,e5⟩:=own_form ho5;subst e5;replace hx5:=hide hx5))
    go_returns
    exact⟨fun h1=>by have:=ht.out;omega,fun _=> .inl ⟨_,hqm.out,by rw[←hEe.out];exact he0,by simp only;rw[←hEe.out];rfl,hXa.out.trans hx5.out⟩⟩
end Go.Proofs.YtajelkkiijdegaaGreat
namespace Go.Proofs.YtajelkkiijdegaaGreat
theorem or128_all:∀n:Fin 256,bits BinOp.or IntKind.u8 (n.val:Int) 128=((n.val % 128+128:Nat):Int):=by decide +kernel
theorem or128(x:Int)(h0:0≤x)(h1:x<256):bits BinOp.or IntKind.u8 x 128=x % 128+128:=by
 have:=or128_all ⟨x.toNat,by omega⟩
 rw[show ((⟨x.toNat,by omega⟩:Fin 256).val:Int)=x by simp;omega] at this
 rw[this];simp;omega
theorem ofInt_toNat(x:Int)(h0:0≤x)(h1:x≤18446744073709551615):(BitVec.ofInt 64 x).toNat=x.toNat:=by
 rw[BitVec.toNat_ofInt];omega
theorem xor_u64_zero(x:Int)(h0:0≤x)(h1:x≤18446744073709551615):bits .xor .u64 x 0=x:=by
 show IntKind.u64.wrap ((BitVec.ofInt 64 x ^^^ BitVec.ofInt 64 0).toNat:Int)=_
 rw[show BitVec.ofInt 64 0=0#64 by decide,BitVec.xor_zero,ofInt_toNat x h0 h1,IntKind.wrap_u64]
 omega
theorem xor_u64_ones(x:Int)(h0:0≤x)(h1:x≤18446744073709551615):bits .xor .u64 x 18446744073709551615=18446744073709551615-x:=by
 show IntKind.u64.wrap ((BitVec.ofInt 64 x ^^^ BitVec.ofInt 64 18446744073709551615).toNat:Int)=_
 rw[show BitVec.ofInt 64 18446744073709551615=BitVec.allOnes 64 by decide,BitVec.xor_allOnes,BitVec.toNat_not,ofInt_toNat x h0 h1,IntKind.wrap_u64]
 omega
end Go.Proofs.YtajelkkiijdegaaGreat
namespace Go.Proofs.YtajelkkiijdegaaGreat
open Go.RowKit
attribute [local go_sem] GW.cell GW.frozen In.eq_true In.le_true In.ne In.ne' In.ne_add In.ne_add' In.lt_add Upto.le_true Upto.le_add Upto.lt_add
theorem tBytes:ElemT Tryz.prog 229 5 (.int .u8 0) 1 1:=ElemT.mk' Tryz.underlying229 (by kernel_rfl) rfl (by omega)
def grb(n:Nat):List UInt8:=if h:n<128 then [UInt8.ofNat n] else UInt8.ofNat (n % 128+128)::grb (n / 128)
termination_by n
decreasing_by omega
theorem grb_small{n:Nat}(h:n<128):grb n=[UInt8.ofNat n]:=by rw[grb,dif_pos h]
theorem grb_great{n:Nat}(h:¬n<128):grb n=UInt8.ofNat (n % 128+128)::grb (n / 128):=by rw[grb,dif_neg h]
theorem grb_le:∀(k n:Nat),n<128 ^ (k+1)→(grb n).length≤k+1
 |0,n,h=>by rw[grb_small (by simpa using h)];simp
 |k+1,n,h=>by
  by_cases hn:n<128
  ·rw[grb_small hn];simp
  ·rw[grb_great hn]
   have:=grb_le k (n / 128) (by rw[Nat.div_lt_iff_lt_mul (by omega)];rw[Nat.pow_succ] at h;exact h)
   simp;omega
theorem grb_ten{n:Nat}(h:n<18446744073709551616):(grb n).length≤10:=grb_le 9 n (Nat.lt_of_lt_of_le h (by decide))
theorem u8_of(k:Nat)(h:k<256):((UInt8.ofNat k).toNat:Int)=k:=by simp;omega
theorem bs_u8(k:Nat)(x:Int)(h:k<256)(e:x=k):[Value.int .u8 x]=bs [UInt8.ofNat k]:=by simp only[bs,List.map_cons,List.map_nil,u8_of k h,e]
theorem varint_c(n:Int)(h0:0≤n)(hn:n≤18446744073709551615)(w:World):Calls Tryz.prog 290 #[.int .u64 n] w fun e w'=>∃v,e= .returned v∧OwnB w' w.heap.size v (grb n.toNat)∧Ext w w':=by
 have hten:=grb_ten (n:=n.toNat) (by omega)
 go_enter Tryz.func290,Tryz.ntmps290
 go_wp2_with fail
 go_loopw [0,3] (fun x v wr=>∃(m:Int) (l:List UInt8),x= .int .u64 m∧0≤m∧m≤18446744073709551615∧OwnB wr w.heap.size v l∧Hid (l++grb m.toNat=grb n.toNat)∧l.length≤10∧Ext w wr)
  (fun x _ _=>(intOf x).toNat)
 case atStart=>exact⟨n,[],rfl,h0,hn,World.ownsRow_nil _ _ _ _,rfl,by simp,Ext.refl _⟩
 case round =>
  obtain⟨m,l,rfl,hm0,hm1,hown,hl,hlen,hext⟩:=hrel
  by_cases h:m<128
  ·have hs:=Hid.out hl
   rw[grb_small (by omega)] at hs
   have hs:=hide hs
   have hsz:=hext.size
   go_wp2_with (at_builtin;refine wpl_app tBytes rfl (.tmp 14) (.tmp 17) rfl rfl (hown.alloc _) rfl (src_one Tryz.underlying229 _ _ _ rfl) (by unfold maxLen;omega) (by omega) (by simp;omega) ?_;intro v' w1 hown1 hgr1 _)
   go_returns
   refine⟨_,rfl,?_,?_⟩
   ·rw[bs_u8 m.toNat _ (by omega) (by omega),←bs_append,hs.out] at hown1
    have:=congrArg List.length hs.out
    simp at this
    unfold OwnB
    rw[←this]
    exact hown1
   ·exact ext_grown (hext.alloc _) hgr1 (fun k hk=>(hown.lt k hk).1)
  ·have hs:=Hid.out hl
   rw[grb_great (by omega)] at hs
   have hs:=hide hs
   have hsz:=hext.size
   have hb:=or128 (m % 256) (by omega) (by omega)
   go_wp2_with (at_builtin;refine wpl_app tBytes rfl (.tmp 6) (.tmp 10) rfl rfl (hown.alloc _) rfl (src_one Tryz.underlying229 _ _ _ rfl) (by unfold maxLen;omega) (by omega) (by simp;omega) ?_;intro v' w1 hown1 hgr1 _)
   go_roundw
   case rel =>
    rw[bs_u8 (m.toNat % 128+128) _ (by omega) (by omega),←bs_append] at hown1
    have hlen':=congrArg List.length hs.out
    simp at hlen'
    refine⟨m / 128,l++[UInt8.ofNat (m.toNat % 128+128)],rfl,by omega,by omega,?_,?_,by simp;omega,ext_grown (hext.alloc _) hgr1 (fun k hk=>(hown.lt k hk).1)⟩
    ·unfold OwnB;rw[List.length_append];exact hown1
    ·refine hide ?_
     rw[List.append_assoc,List.singleton_append,show (m / 128).toNat=m.toNat / 128 by omega]
     exact hs.out
   case measure=>simp[intOf];omega
def zz(n:Int):Int:=if n<0 then 2*(-1-n)+1 else 2*n
theorem zz_in{n:Int}(h: -9223372036854775808≤n∧n≤9223372036854775807):0≤zz n∧zz n≤18446744073709551615:=by unfold zz;split<;>omega
theorem zigzag_c(n:Int)(h: -9223372036854775808≤n∧n≤9223372036854775807)(w:World):Calls Tryz.prog 291 #[.int .i64 n] w fun e w'=>e= .returned (.int .u64 (zz n))∧w=w':=by
 by_cases h0:n<0
 ·go_enter Tryz.func291,Tryz.ntmps291
  go_wp2_with fail
  go_ret
  refine⟨?_,rfl⟩
  rw[IntKind.wrap_u64,IntKind.wrap_u64,IntKind.wrap_u64,show n / 9223372036854775808 % 18446744073709551616=18446744073709551615 by omega,xor_u64_ones _ (by omega) (by omega)]
  simp[zz,h0];omega
 ·go_enter Tryz.func291,Tryz.ntmps291
  go_wp2_with fail
  go_ret
  refine⟨?_,rfl⟩
  rw[show n / 9223372036854775808=0 by omega,xor_u64_zero _ (by omega) (by omega)]
  simp[zz];omega
def numB(n:Int):List UInt8:=if n<0 then [] else grb n.toNat
def intB(n:Int):List UInt8:=grb (zz n).toNat
def textB(l:List UInt8):List UInt8:=grb l.length++l
theorem own_nil(w:World)(B:Nat):OwnB w B (.slice none 0 0) []:=World.ownsRow_nil _ _ _ _
theorem num_c(n:Int)(hn:n≤9223372036854775807)(w:World):Calls Tryz.prog 298 #[.int .i64 n] w fun e w'=>∃v,e= .returned v∧OwnB w' w.heap.size v (numB n)∧Ext w w':=by
 by_cases h:n<0
 ·have e:=hide (show numB n=[] by simp[numB,h])
  go_enter Tryz.func298,Tryz.ntmps298
  go_wp2_with fail
  go_returns
  refine⟨_,rfl,?_,Ext.refl w⟩
  rw[e.out];exact own_nil _ _
 ·have e:=hide (show numB n=grb n.toNat by simp[numB,h])
  go_enter Tryz.func298,Tryz.ntmps298
  go_wp2_with (go_at_call 290;refine (varint_c n (by omega) (by omega) _).mono ?_;rintro e w1 ⟨v1,rfl,hown1,hext1⟩)
  go_returns
  refine⟨_,rfl,?_,hext1⟩
  rw[e.out];exact hown1
theorem int_c(n:Int)(h: -9223372036854775808≤n∧n≤9223372036854775807)(w:World):Calls Tryz.prog 288 #[.int .i64 n] w fun e w'=>∃v,e= .returned v∧OwnB w' w.heap.size v (intB n)∧Ext w w':=by
 have hz:=zz_in h
 go_enter Tryz.func288,Tryz.ntmps288
 go_wp2_with (first|(go_at_call 291;refine (zigzag_c n h _).mono ?_;rintro e w1 ⟨rfl,rfl⟩)|(go_at_call 290;refine (varint_c (zz n) hz.1 hz.2 _).mono ?_;rintro e w1 ⟨v1,rfl,hown1,hext1⟩))
 go_returns
 exact⟨_,rfl,hown1,hext1⟩
theorem text_own{w:World}{B:Nat}{v:Value}{s:ByteArray}(h:OwnB w B v (numB (s.size:Int))):OwnB w B v (grb s.size):=by
 unfold numB at h;rw[if_neg (by omega)] at h;simpa using h
theorem size_list(s:ByteArray):s.data.toList.length=s.size:=by rw[Array.length_toList];rfl
theorem text_app{w:World}{B:Nat}{v:Value}{s:ByteArray}(h:w.ownsRow B 5 1 v ((grb s.size).length+s.size) (bs (grb s.size)++bs s.data.toList)):OwnB w B v (textB s.data.toList):=by
 unfold OwnB textB
 rw[size_list,List.length_append,size_list,bs_append]
 exact h
theorem text_c(s:ByteArray)(hs:s.size≤140737488355000)(w:World):Calls Tryz.prog 296 #[.string s] w fun e w'=>∃v,e= .returned v∧OwnB w' w.heap.size v (textB s.data.toList)∧Ext w w':=by
 have hg:=grb_ten (n:=s.size) (by omega)
 go_enter Tryz.func296,Tryz.ntmps296
 go_wp2_with (first|(go_at_call 298;refine (num_c _ (by omega) _).mono ?_;rintro e w1 ⟨v1,rfl,hown1,hext1⟩;have hown1:=text_own hown1;have hz1:=hext1.size)|(at_builtin;refine wpl_app tBytes rfl (.tmp 5) (.tmp 6) rfl rfl hown1 rfl (Src.ofString _ Tryz.underlying9 s) (by unfold maxLen;omega) (by omega) (by omega) ?_;intro v2 w2 hown2 hgr2 _))
 go_returns
 refine⟨_,rfl,?_,ext_grown hext1 hgr2 (fun k hk=>(hown1.lt k hk).1)⟩
 exact text_app hown2
end Go.Proofs.YtajelkkiijdegaaGreat
namespace Go.Proofs.YtajelkkiijdegaaGreat
def lead:List UInt8→Nat
 |[]=>0
 |c::r=>if 128≤c.toNat then lead r+1 else 0
def gval:List UInt8→Nat
 |[]=>0
 |c::r=>c.toNat % 128+128*gval r
def parE(most:Nat)(l:List UInt8):Int :=
 if most≤lead l then 4 else if l.length≤lead l then 5 else if lead l=9∧1<(l.getD (lead l) 0).toNat then 4 else if 0<lead l∧(l.getD (lead l) 0).toNat=0 then 4 else 0
def parV(most:Nat)(l:List UInt8):Nat:=if parE most l=0 then gval (l.take (lead l+1)) else 0
def parR(most:Nat)(l:List UInt8):List UInt8:=if parE most l=0 then l.drop (lead l+1) else []
section
variable {l:List UInt8} {k most:Nat}
end
def unz(n:Nat):Int:=if n % 2=1 then -1-(n / 2:Nat) else (n / 2:Nat)
def numSt(most:Nat)(l:List UInt8)(e:Int):List UInt8×Int:=if e=0 then (parR most l,parE most l) else (l,e)
def numVal(most:Nat)(l:List UInt8)(e:Int):Nat:=if e=0 then parV most l else 0
def textE(most:Int)(l:List UInt8)(e:Int):Int :=
 if (numSt 9 l e).2≠0 then (numSt 9 l e).2 else if most<(numVal 9 l e:Int) then 6 else if (numSt 9 l e).1.length<numVal 9 l e then 5 else 0
def textSt(most:Int)(l:List UInt8)(e:Int):List UInt8×Int :=
 if textE most l e=0 then ((numSt 9 l e).1.drop (numVal 9 l e),0) else if e=0 then ([],textE most l e) else (l,e)
def textVal(most:Int)(l:List UInt8)(e:Int):List UInt8:=if textE most l e=0 then (numSt 9 l e).1.take (numVal 9 l e) else []
section
variable {l:List UInt8} {k:Nat} {c:UInt8}
end
section
variable {l l1:List UInt8} {e e1 most:Int}
theorem text_ok(h:numSt 9 l e=(l1,0))(hm:¬most<numVal 9 l e)(hl:¬l1.length<numVal 9 l e):textSt most l e=(l1.drop (numVal 9 l e),0)∧textVal most l e=l1.take (numVal 9 l e):=by
 have ht:textE most l e=0:=by unfold textE;rw[h,if_neg (by simp),if_neg hm,if_neg hl]
 unfold textSt textVal
 rw[ht,if_pos rfl,if_pos rfl,h]
 exact⟨rfl,rfl⟩
end
theorem u8_low(k:Nat)(h:k<256):(UInt8.ofNat k).toNat=k:=by simp;omega
theorem grb_top(m:Nat):∀(n:Nat) (r:List UInt8),n≤m→lead (grb n++r)+1=(grb n).length∧((grb n++r).getD (lead (grb n++r)) 0).toNat<128 ∧
 (n≠0→((grb n++r).getD (lead (grb n++r)) 0).toNat≠0)∧((grb n++r).getD (lead (grb n++r)) 0).toNat*128 ^ lead (grb n++r)≤n:=by
 induction m with
 |zero =>
  intro n r hn
  obtain rfl:n=0:=by omega
  rw[grb_small (by omega)]
  simp[lead]
 |succ m ih =>
  intro n r hn
  by_cases h:n<128
  ·rw[grb_small h]
   have e:=u8_low n (by omega)
   have hl:lead ([UInt8.ofNat n]++r)=0:=by
    show lead (UInt8.ofNat n::r)=0
    unfold lead;rw[if_neg (by omega)]
   rw[hl]
   have hg:([UInt8.ofNat n]++r).getD 0 0=UInt8.ofNat n:=rfl
   rw[hg,e]
   exact⟨rfl,h,id,by simp⟩
  ·have hd:n / 128≤m:=by omega
   obtain⟨h1,h2,h3,h4⟩:=ih (n / 128) r hd
   rw[grb_great h]
   have e:=u8_low (n % 128+128) (by omega)
   have hl:lead ((UInt8.ofNat (n % 128+128)::grb (n / 128))++r)=lead (grb (n / 128)++r)+1:=by
    show lead (UInt8.ofNat (n % 128+128)::(grb (n / 128)++r))=_
    rw[lead,if_pos (by omega)]
   rw[hl]
   have hg:((UInt8.ofNat (n % 128+128)::grb (n / 128))++r).getD (lead (grb (n / 128)++r)+1) 0=(grb (n / 128)++r).getD (lead (grb (n / 128)++r)) 0:=rfl
   rw[hg]
   refine⟨by simp;exact h1,h2,fun _=>h3 (by omega),?_⟩
   rw[Nat.pow_succ,←Nat.mul_assoc]
   have:=Nat.mul_le_mul_right 128 h4
   omega
theorem grb_gval(m:Nat):∀n,n≤m→gval (grb n)=n:=by
 induction m with
 |zero =>
  intro n hn
  obtain rfl:n=0:=by omega
  rw[grb_small (n:=0) (by omega)]
  rfl
 |succ m ih =>
  intro n hn
  by_cases h:n<128
  ·rw[grb_small h];simp only[gval,u8_low n (by omega)];omega
  ·rw[grb_great h];simp only[gval,u8_low (n % 128+128) (by omega),ih (n / 128) (by omega)];omega
theorem par_grp{most n:Nat}(r:List UInt8)(hm:(grb n).length≤most)(h64:n<18446744073709551616):parE most (grb n++r)=0∧parV most (grb n++r)=n∧parR most (grb n++r)=r:=by
 obtain⟨h1,h2,h3,h4⟩:=grb_top n n r (Nat.le_refl _)
 have e:parE most (grb n++r)=0:=by
  unfold parE
  rw[if_neg (by omega),if_neg (by simp;omega),if_neg,if_neg]
  ·rintro⟨ha,hb⟩
   have:n=0:=by
    by_cases hn:n=0
    ·exact hn
    ·exact absurd hb (h3 hn)
   subst this
   rw[grb_small (by omega)] at h1
   simp at h1;rw[grb_small (by omega)] at ha;simp at ha;omega
  ·rintro⟨ha,hb⟩
   rw[ha] at h4 hb
   have:=Nat.mul_le_mul_right (128 ^ 9) hb
   omega
 have ht:(grb n++r).take (lead (grb n++r)+1)=grb n:=by rw[h1];simp
 have hd:(grb n++r).drop (lead (grb n++r)+1)=r:=by rw[h1];simp
 exact⟨e,by unfold parV;rw[if_pos e,ht,grb_gval n n (Nat.le_refl _)],by unfold parR;rw[if_pos e,hd]⟩
theorem num_back(n:Int)(h0:0≤n)(h1:n≤9223372036854775807)(r:List UInt8):(numVal 9 (numB n++r) 0:Int)=n∧numSt 9 (numB n++r) 0=(r,0):=by
 have hl:=grb_le 8 n.toNat (by have:(128:Nat) ^ (8+1)=9223372036854775808:=by decide
                               omega)
 obtain⟨a,b,c⟩:=par_grp (most:=9) (n:=n.toNat) r hl (by omega)
 unfold numVal numSt numB
 rw[if_pos rfl,if_pos rfl,if_neg (by omega),a,b,c]
 exact⟨by omega,rfl⟩
theorem unz_zz(n:Int):unz (zz n).toNat=n:=by
 unfold unz zz
 split<;>split<;>omega
theorem int_back(n:Int)(h: -9223372036854775808≤n∧n≤9223372036854775807)(r:List UInt8):unz (numVal 10 (intB n++r) 0)=n∧numSt 10 (intB n++r) 0=(r,0):=by
 have hz:=zz_in h
 obtain⟨a,b,c⟩:=par_grp (most:=10) (n:=(zz n).toNat) r (grb_ten (by omega)) (by omega)
 unfold numVal numSt intB
 rw[if_pos rfl,if_pos rfl,a,b,c]
 exact⟨unz_zz n,rfl⟩
end Go.Proofs.YtajelkkiijdegaaGreat
namespace Go.Proofs.YtajelkkiijdegaaGreat
open Go.RowKit
attribute [local go_sem] GW.cell GW.frozen In.eq_true In.le_true In.ne In.ne' In.ne_add In.ne_add' In.lt_add Upto.le_true Upto.le_add Upto.lt_add
def valB(a:Vl):List UInt8:=if may a then (if a.1=1 then 1::intB a.2.1 else 2::textB a.2.2.data.toList) else []
theorem intB_len{n:Int}(h: -9223372036854775808≤n∧n≤9223372036854775807):(intB n).length≤10:=grb_ten (by have:=zz_in h;omega)
theorem textB_len{s:ByteArray}(h:s.size≤64):(textB s.data.toList).length≤74:=by
 unfold textB
 rw[List.length_append,size_list]
 have:=grb_ten (n:=s.size) (by omega);omega
theorem numBytes_c(n:Int)(h: -9223372036854775808≤n∧n≤9223372036854775807)(w:World):Calls Tryz.prog 285 #[.int .i64 n] w fun e w'=>∃v,e= .returned v∧OwnB w' w.heap.size v (1::intB n)∧Ext w w':=by
 have hl:=intB_len h
 have hlit:=hide (World.ownsRow_lit (base:=w.heap.size) (e:=5) (size:=1) w #[.int .u8 1] 1 (Nat.le_refl _) (by decide) rfl)
 have hc:=hide (fun w=>int_c n h w)
 clear h
 go_enter Tryz.func285,Tryz.ntmps285
 go_wp2_with (first|(go_at_call 288;refine (hc.out _).mono ?_;rintro ee w1 ⟨v1,rfl,ho1,hx1⟩;have hz1:=hx1.size;simp only[World.size_alloc] at hz1;have hk1:=own_ext hlit.out hx1)|(at_builtin;(refine wpl_app tBytes rfl (.tmp 3) (.tmp 5) rfl rfl hk1 rfl (src_sl Tryz.underlying229 (Sl.own (S:=[]) ho1 (by simp)) (bs_one _) (by omega)) (by unfold maxLen;omega) (by omega) (by omega) ?_;intro v2 w2 hp2 hg2 _;replace hp2:=own_app (l:=[1]) hp2;have he2:=ext_grown (((Ext.refl w).alloc _).trans hx1) hg2 (fun k hk=>(hlit.out.lt k hk).1))))
 go_returns
 exact⟨_,rfl,hp2,he2⟩
theorem textBytes_c(s:ByteArray)(hs:s.size≤64)(w:World):Calls Tryz.prog 293 #[.string s] w fun e w'=>∃v,e= .returned v∧OwnB w' w.heap.size v (2::textB s.data.toList)∧Ext w w':=by
 have hl:=textB_len hs
 have hlit:=hide (World.ownsRow_lit (base:=w.heap.size) (e:=5) (size:=1) w #[.int .u8 2] 1 (Nat.le_refl _) (by decide) rfl)
 have hc:=hide (fun w=>text_c s (by omega) w)
 clear hs
 go_enter Tryz.func293,Tryz.ntmps293
 go_wp2_with (first|(go_at_call 296;refine (hc.out _).mono ?_;rintro ee w1 ⟨v1,rfl,ho1,hx1⟩;have hz1:=hx1.size;simp only[World.size_alloc] at hz1;have hk1:=own_ext hlit.out hx1)|(at_builtin;(refine wpl_app tBytes rfl (.tmp 3) (.tmp 5) rfl rfl hk1 rfl (src_sl Tryz.underlying229 (Sl.own (S:=[]) ho1 (by simp)) (bs_one _) (by omega)) (by unfold maxLen;omega) (by omega) (by omega) ?_;intro v2 w2 hp2 hg2 _;replace hp2:=own_app (l:=[2]) hp2;have he2:=ext_grown (((Ext.refl w).alloc _).trans hx1) hg2 (fun k hk=>(hlit.out.lt k hk).1))))
 go_returns
 exact⟨_,rfl,hp2,he2⟩
theorem vbytes_c(k n:Int)(s:ByteArray)(hn: -9223372036854775808≤n∧n≤9223372036854775807)(w:World):Calls Tryz.prog 227 #[val k n s] w fun e w'=>∃v,e= .returned v∧OwnB w' w.heap.size v (valB (k,n,s))∧Ext w w':=by
 unfold valB may
 simp only
 rcases may_cases (k:=k) (n:=n) (s:=s) with ⟨rfl,h⟩|⟨rfl,rfl,h⟩|⟨hm,h⟩
 ·rw[may_num h,if_pos rfl,if_pos rfl]
  have h1:=hide (fun w=>inner_num n s h w)
  have hc:=hide (fun w=>numBytes_c n hn w)
  clear h hn
  go_enter Tryz.func227,Tryz.ntmps227
  go_wp2_with (first|(go_at_call 216;with_reducible refine seq_gw (h1.out _) ?_;intro g)|(go_at_call 285;refine (hc.out _).mono ?_;rintro ee w1 ⟨v1,rfl,ho1,hx1⟩))
  go_returns
  have hz:=GW.size g
  exact⟨_,rfl,own_base ho1 (by simp only[World.size_alloc] at hz;omega),(((Ext.refl w).alloc _).trans g.grown).trans hx1⟩
 ·rw[may_text h,if_pos rfl,if_neg (by decide)]
  have h1:=hide (fun w=>inner_text s h w)
  have hc:=hide (fun w=>textBytes_c s h w)
  clear h hn
  go_enter Tryz.func227,Tryz.ntmps227
  go_wp2_with (first|(go_at_call 216;with_reducible refine seq_gw (h1.out _) ?_;intro g)|(go_at_call 293;refine (hc.out _).mono ?_;rintro ee w1 ⟨v1,rfl,ho1,hx1⟩))
  go_returns
  have hz:=GW.size g
  exact⟨_,rfl,own_base ho1 (by simp only[World.size_alloc] at hz;omega),(((Ext.refl w).alloc _).trans g.grown).trans hx1⟩
 ·rw[hm,if_neg (by decide)]
  have h1:=hide (fun w=>inner_none k n s h w)
  clear h hn
  go_enter Tryz.func227,Tryz.ntmps227
  go_wp2_with (go_at_call 216;with_reducible refine seq_gw (h1.out _) ?_;intro g)
  go_returns
  exact⟨_,rfl,World.ownsRow_nil _ _ _ _,((Ext.refl w).alloc _).trans g.grown⟩
end Go.Proofs.YtajelkkiijdegaaGreat
namespace Go.Proofs.YtajelkkiijdegaaGreat
open Go.RowKit
attribute [local go_sem] GW.cell GW.frozen In.eq_true In.le_true In.ne In.ne' In.ne_add In.ne_add' In.lt_add Upto.le_true Upto.le_add Upto.lt_add
attribute [-go_sem] sliced
attribute [local go_sem] sliced_eq
end Go.Proofs.YtajelkkiijdegaaGreat
namespace Go.Proofs.YtajelkkiijdegaaGreat
open Go.RowKit
end Go.Proofs.YtajelkkiijdegaaGreat
namespace Go.Proofs.YtajelkkiijdegaaGreat
open Go.RowKit
attribute [local go_sem] GW.cell GW.frozen In.eq_true In.le_true In.ne In.ne' In.ne_add In.ne_add' In.lt_add Upto.le_true Upto.le_add Upto.lt_add
def rdE:List UInt8→Int
 |[]=>5
 |c::r=>if c.toNat=1 then (numSt 10 r 0).2 else if c.toNat=2 then (textSt 64 r 0).2 else 4
def rdS:List UInt8→List UInt8×Int
 |[]=>([],5)
 |c::r=>if c.toNat=1 then numSt 10 r 0 else if c.toNat=2 then textSt 64 r 0 else (r,0)
def rdV(l:List UInt8):Vl :=
 if rdE l=0 then (match l with
  |[]=>(0,0,⟨#[]⟩)
  |c::r=>if c.toNat=1 then (1,unz (numVal 10 r 0),⟨#[]⟩) else (2,0,⟨(textVal 64 r 0).toArray⟩))
 else (0,0,⟨#[]⟩)
def vl(a:Vl):Value:=val a.1 a.2.1 a.2.2
end Go.Proofs.YtajelkkiijdegaaGreat
