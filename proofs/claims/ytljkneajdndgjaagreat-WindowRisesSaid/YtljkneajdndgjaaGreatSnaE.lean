/-
  A helper of ours: no claim of its own. Layer 27 (snap): each row that is told is made a copy, in place, by the code.
-/
import Derived.Test.YtljkneajdndgjaaGreatCouE
import Derived.Test.YtljkneajdndgjaaGreatSnaD
import Derived.Test.YtljkneajdndgjaaGreatEdgQ
import Derived.Test.YtljkneajdndgjaaGreatEdgM
import Derived.Test.YtljkneajdndgjaaGreatHopQ
import Derived.Test.YtljkneajdndgjaaGreatCouA
import Derived.Test.YtljkneajdndgjaaGreatHopS
import Derived.Test.YtljkneajdndgjaaGreatStepR
set_option linter.unusedVariables false
set_option linter.unusedSimpArgs false
namespace Go.Proofs.YtljkneajdndgjaaGreat
open Go.RowKit
attribute [local go_sem] GW.cell GW.frozen In.eq_true In.le_true In.ne In.ne' In.ne_add In.ne_add' In.lt_add Upto.le_true Upto.le_add Upto.lt_add
theorem tGs : ElemT Tryz.prog 119 78 (.slice none 0 0) 1 24 := ElemT.mk' Tryz.underlying119 (by kernel_rfl) rfl (by omega)
/-- So many starts, from the i-th on. -/
def gv (g o n i : Nat) : Value := .slice (some ⟨g, o + i, none⟩) n n
def gvs (g o n K : Nat) : List Value := (List.range K).map fun i => gv g o n i
theorem gvs_next (g o n K : Nat) : gvs g o n (K + 1) = gvs g o n K ++ [gv g o n K] := by unfold gvs; rw [List.range_succ, List.map_append]; rfl
set_option maxHeartbeats 4000000 in
set_option maxRecDepth 100000 in
theorem groupsOf_c (g o N cap n : Nat) (hn : 1 ≤ n ∧ n ≤ 64) (hN : N ≤ cap) (hNl : N ≤ 4194304) (hcap : cap ≤ maxLen) (w : World) : Calls Tryz.prog 92 #[.slice (some ⟨g, o, none⟩) N cap, .int .i64 n] w fun e w' => ∃ v', e = .returned v' ∧ w'.ownsRow w.heap.size 78 1 v' (N + 1 - n) (gvs g o n (N + 1 - n)) ∧ Ext w w' := by
  obtain ⟨n1, n2⟩ := hn
  unfold maxLen at hcap
  go_enter Tryz.func92, Tryz.ntmps92
  go_wp2_with fail
  go_loopg [5, 6] (N + 1) (fun gh u i wr => ∃ (k : Nat), i = .int .i64 k ∧ k + gh = N + 1 ∧ k ≤ N + 1 - n ∧ Hid (wr.ownsRow w.heap.size 78 1 u k (gvs g o n k)) ∧ Hid (Ext w wr))
  case atStart => exact ⟨0, by go_num, by omega, by omega, World.ownsRow_nil _ _ _ _, Ext.refl _⟩
  case round =>
    obtain ⟨k, rfl, hk, hkn, hO, hX⟩ := hrel
    obtain ⟨UA, ucap, rfl⟩ := own_form hO.out
    have hobU := ob_ge hO.out
    have hzw := hX.out.size
    by_cases hlt : k + n ≤ N
    · have h1 : (k : Int) + (n : Int) ≤ (N : Int) := by omega
      have h2 : (k : Int) ≤ (k : Int) + (n : Int) := by omega
      have h3 : (k : Int) + (n : Int) ≤ (cap : Int) := by omega
      have hO1 := hide hO.out
      go_wp2_with (at_builtin; refine wpl_app tGs rfl (.tmp 15) (.tmp 25) rfl rfl (own_ext hO1.out ((Ext.refl wr).alloc _)) rfl (src_one Tryz.underlying119 wr _ _ rfl) (by unfold maxLen; omega) (by omega) (by simp only [World.size_alloc]; omega) ?_; intro v8 w8 ho8 hg8 hob8; have ho9 := hide ho8; have hg9 := hide hg8; obtain ⟨A8, c8, q8⟩ := own_form ho8; subst q8; clear ho8 hg8 hob8)
      have hF9 : Fr (ob (.slice UA k ucap)) wr w8 := ((Fr.refl _ _).alloc _).grown hg9.out (fun j hj => .inl (Option.mem_toList.2 hj))
      go_roundg (N + 1 - (k + 1))
      case measure => omega
      case rel => exact ⟨k + 1, by go_num, by omega, by omega, (by show World.ownsRow _ _ _ _ _ _ _; rw [gvs_next]; exact ho9.out), ext_fr hX.out hF9 (fun y hy => (hobU y hy).1)⟩
    · have hkc : k = N + 1 - n := by omega
      go_wp2_with fail
      go_returns
      exact ⟨_, rfl, by rw [← hkc]; exact hO.out, hX.out⟩
end Go.Proofs.YtljkneajdndgjaaGreat
set_option linter.unusedVariables false
set_option linter.unusedSimpArgs false
namespace Go.Proofs.YtljkneajdndgjaaGreat
open Go.RowKit
attribute [local go_sem] GW.cell GW.frozen In.eq_true In.le_true In.ne In.ne' In.ne_add In.ne_add' In.lt_add Upto.le_true Upto.le_add Upto.lt_add
def GrPostX (w : World) (L : List Ve) (b : Nat) (w' : World) : Prop := ∃ v' M, Ob w' b 25 [v'] ∧ eds M = (if mayE (eds L) then eds L else []) ∧ (∀ X : List Nat, (∀ b ∈ X, b < w.heap.size) → Ew w' X v' M) ∧ Ext w w'
set_option maxHeartbeats 8000000 in
set_option maxRecDepth 100000 in
theorem groups_d (L : List Ve) (v : Value) (w : World) (hC : Ew w [] v L) : Calls Tryz.prog 106 #[v] w fun e w' => ∃ b, e = .returned (.func (.func 146) #[] #[.pointer (some ⟨b, 0, none⟩)]) ∧ GrPostX w L b w' := by
  have h1 := hide (fun w' (hX : Ext w w') => edgeMay_c L v w' (hC.ext hX))
  have hC' := hide hC
  obtain ⟨A, cap, rfl, hlc, hlm, -⟩ := ew_form hC
  have a3 : Ob (w.alloc (.cells #[.slice none 0 0] 25)) w.heap.size 25 [.slice none 0 0] := Ob.new w 25 [.slice none 0 0]
  have hX0 := hide ((Ext.refl w).alloc (.cells #[.slice none 0 0] 25))
  replace a3 := hide a3
  clear hC
  cases ha : mayE (eds L)
  · rw [ha] at h1
    go_enter Tryz.func106, Tryz.ntmps106
    go_wp2_with (go_at_call 45; (with_reducible refine seq_gw (h1.out _ hX0.out) ?_); intro g)
    go_returns
    exact ⟨_, rfl, show GrPostX _ _ _ _ from ⟨_, [], a3.out.ext g.grown, by rw [ha]; rfl, fun X _ => ⟨Sl.nil _ _ _, by simp⟩, hX0.out.trans g.grown⟩⟩
  · rw [ha] at h1
    have hll : L.length ≤ 8192 := by have := mayE_len ha; simp [eds] at this; omega
    have hG := hide (show ∀ g ∈ grp (eds L), g.1.length ≤ 8 ∧ g.2.length ≤ 1024 from fun g hg => ⟨grp_r8 ha g hg, mayJ_len ((mayE_iff.1 ha).2.2 g hg)⟩)
    have hcp := hide (fun w' (hX : Ext w w') => copies_c L (.slice A L.length cap) w' (hC'.out.ext hX) hll hG.out)
    have ha' := hide ha
    clear ha
    go_enter Tryz.func106, Tryz.ntmps106
    go_wp2_with (first
      | (go_at_call 45; (with_reducible refine seq_gw (h1.out _ hX0.out) ?_); intro g)
      | (go_at_call 145; refine (hcp.out _ (hX0.out.trans g.grown)).mono ?_; rintro ee w2 ⟨v2, M, rfl, hM, ho2, hx2⟩; have o3 := (a3.out.ext g.grown).ext hx2; have hlt3 := o3.lt; have hc3 := o3.cell 0 rfl; have hfr3 := o3.free 0; obtain ⟨C2, c2, q2⟩ := own_form ho2.1; subst q2; haveI : In w.heap.size w2 := ⟨hlt3⟩))
    go_returns
    have hlg : w.heap.size < g.val.heap.size := by have := (a3.out.ext g.grown).lt; exact this
    have he : ∀ X : List Nat, (∀ b ∈ X, b < w.heap.size) → Ew w2 (w.heap.size :: X) (.slice C2 M.length c2) M := fun X hXl => by
      have hlt2 : ∀ x ∈ w.heap.size :: X, x < g.val.heap.size := fun x hx => by
        rcases List.mem_cons.1 hx with rfl | hx
        · exact hlg
        · have := hXl x hx; omega
      exact ⟨Sl.own ho2.1 (fun x hx => hlt2 x hx), fun p hp => Sl.less (ho2.2 p hp) (fun x hx => List.mem_append_right _ (List.mem_range.2 (hlt2 x hx)))⟩
    refine ⟨_, rfl, show GrPostX _ _ _ _ from ⟨_, M, o3.set 0 _, by rw [hM, ha'.out]; rfl, fun X hXl => ((he X hXl).fr ((Fr.refl [w.heap.size] w2).setCell ⟨w.heap.size, 0, none⟩ _ (.inl (by simp))) (fun b hb => by rw [List.mem_singleton] at hb; subst hb; exact List.mem_cons_self)).less (fun b hb => List.mem_cons_of_mem _ hb), ((hX0.out.trans g.grown).trans hx2).setCell (p := ⟨w.heap.size, 0, none⟩) (by simp) _⟩⟩
section
variable {P : Program} {ops : Array Oper} {Q : Exit → Act → World → Prop} {a : Act}
theorem wpIn_region_list_once {l m id : Nat} {w : World} {G : World → World → Prop} (n k0 : Nat) (L : List Fact) (hdf : ops.toList.all noDefer = true) (hGe : ∀ x y, Ext x y → G x y) (hGt : ∀ x y z, G x y → G y z → G x z) (hstk : ∀ j v w w', j ≠ k0 → depB ops j k0 = false → factsOf L j v w → G w w' → factsOf L j v w') (hm : P.follows .mixedOrders = true) (hA : acycB ops = true) (hD : dstsB ops a.tmps.size = true)
    (hn : decide (n < ops.size) = true) (hs : Region.sinkB .any ops n = true) (hc : Region.chainB .any ops n = true) (hq : Region.seqB .any ops (ops.size - n) n (Array.replicate n true ++ Array.replicate (ops.size - n) false) = true)
    (hstep : RSteps (fun k o => ∀ b w', RAtO ops (factsOf L) G k0 a w k b w' → (∀ t, t ∉ dstsOf (ops.toList.take n).toArray → b.tmps.getD t undef = a.tmps.getD t undef) → RGoodO P ops (factsOf L) G (onlyN Q) k0 k o b w') 0 (ops.toList.take n))
    (hend : ∀ b w', G w w' → b.defers = a.defers → b.tmps.size = a.tmps.size → (∀ t, t ∉ dstsOf (ops.toList.take n).toArray → b.tmps.getD t undef = a.tmps.getD t undef) →
      (∀ j o d, j < n → ops[j]? = some o → o.dst = some d → factsOf L j (b.tmps.getD d undef) w') → wpList P ops (onlyN Q) (ops.toList.drop n) b w') : (Code.region id ops true).wpIn (Fence.wide.inRound l) m P Q a w := by
  have hn' := of_decide_eq_true hn
  have hd : ∀ (i : Nat) (o : Oper), ops[i]? = some o → noDefer o = true := fun i o ho => List.all_eq_true.1 hdf o (List.mem_of_getElem? (by rw [Array.getElem?_toList]; exact ho))
  refine wpIn_region_any hm (anyIn_of_any hd _ _ _ _ ?_)
  have := wpAny_facts_once (P := P) (Φ := factsOf L) (Q := onlyN Q) (W := w) (G := G) (k0 := k0) hGe hGt hA hD hn' hs hc hq (fun i v w w' h hx => Fact.stays _ v w w' h hx) hstk (fun i o hi ho b w' h hE => by
    have := RSteps.get 0 (ops.toList.take n) hstep i o (by rw [List.getElem?_take, if_pos hi]; simpa using ho) b w'
    rw [Nat.zero_add] at this
    exact this h hE) (fun b w' h1 h2 h3 _ h5 h6 => hend b w' h1 h2 h3 h6 h5) n (Array.replicate ops.size false) a { w with drawn := w.drawn + 1 } ⟨hGe _ _ (Ext.refl w).drew, fun _ => (Ext.refl w).drew, rfl, rfl, by simp, fun _ _ => rfl, fun j o d ho hl _ => ?_⟩ (fun _ _ => rfl)
    ⟨by simp, fun j oj _ hl => (by rw [getD_replicate_false] at hl; cases hl), fun t _ ht => getD_in (by simpa using ht) (getD_replicate_false _ _)⟩ (by
      rw [Array.toList_replicate, List.take_replicate, cntF_rep]; omega)
  · rwa [show n + (ops.size - n) = ops.size by omega] at this
  · rw [getD_replicate_false] at hl; cases hl
end
end Go.Proofs.YtljkneajdndgjaaGreat
set_option linter.unusedVariables false
set_option linter.unusedSimpArgs false
namespace Go.Proofs.YtljkneajdndgjaaGreat
open Go.RowKit
attribute [local go_sem] GW.cell GW.frozen In.eq_true In.le_true In.ne In.ne' In.ne_add In.ne_add' In.lt_add Upto.le_true Upto.le_add Upto.lt_add Oper.semAt_some wide_depth wide_fn
/-- What a map's iterator tells: an event's pointer. -/
def Hky (p : Eh) (vs : Array Value) (W : World) : Prop := vs = #[Value.int .i64 p.1]
theorem Hky.stab {B : Nat} (p : Eh) (vs : Array Value) : Stab B (Hky p vs) := Stab.pure _
set_option maxHeartbeats 8000000 in
set_option maxRecDepth 100000 in
theorem hkeys_seq (X : List Nat) (mb n : Nat) (T : List Eh) (w0 w : World) (b : Nat) (hM : Mv w0 Tryz.prog 3 kentH mb n T) (hX : Ext w0 w) (hb : Ob w b 83 [.map (some mb)]) (hmX : mb ∉ X) :
    SeqsG Tryz.prog w0.heap.size X 111 #[.pointer (some ⟨b, 0, none⟩)] Hky T w := by
  intro l J Jx Fb W hW hJ hJx hFb hY h0
  have q0 := (hb.ext hW).cell 0 rfl
  have hbl := (hb.ext hW).lt
  have hml := hM.lt
  have hz0 := hX.size
  have hz1 := hW.size
  have hMW := hide (hM.kept (ext_by (hX.trans hW)) (by simp))
  have hJ' := hide hJ
  have hY' := hide hY
  have h0' := hide h0
  haveI : In b W := ⟨hbl⟩
  clear hJ hJx hY hFb hb hX hW h0 hM
  refine (callsIn_wide (n := 1)).1 ?_
  refine callsIn_of_wp Tryz.func111 rfl trivial ?_ rfl
  simp only [Tryz.ntmps111, List.size_toArray, List.length_cons, List.length_nil, Nat.reduceAdd, Nat.reduceSub, Array.replicate_succ, Array.replicate_zero, List.push_toArray, List.append_toArray, List.nil_append, List.cons_append]
  gi_wp2_with (refine wplIn_range rfl (.tmp 4) rfl rfl hKey Tryz.underlying83 hMW.out ?_; intro w1 hr1 hg1 hs1)
  go_frame
  have hX1 : Ext W w1 := ext_grown (Ext.refl W) hg1 (by simp)
  obtain ⟨r, hrr⟩ : ∃ r, r = W.heap.size := ⟨_, rfl⟩
  rw [← hrr] at hr1 ⊢
  have hJ1 := hide ((hJ'.out []).ext _ _ h0'.out hX1)
  have hB1 := hide (belX_fr (X := X) (n₀ := w0.heap.size) (S := []) (Fr.of_ext hX1) (by omega) (by simp))
  have hrle : w0.heap.size ≤ r := by omega
  replace hr1 := hide hr1
  clear hg1 hs1 hX1 h0'
  replace hrr := hide hrr
  gi_loopg [3] T.length (fun gh z wr => ∃ (D L : List Eh), L.length = gh ∧ Hid (T.Perm (D ++ L)) ∧ Hid (Rgv wr Tryz.prog 3 kentH mb r n T L) ∧ Hid (J D wr) ∧ Hid (BelX w0.heap.size X W wr))
  case atStart => exact ⟨[], T, rfl, List.Perm.refl _, hr1, hJ1, hB1⟩
  case round =>
    clear hr1 hJ1 hB1
    obtain ⟨D, L, hL, hp0, hRv, hJD, hBx⟩ := hrel
    gi_wp2_with (refine wplIn_next rfl (.tmp 5) rfl rfl hKey hRv.out ?_ ?_)
    · intro hl0
      subst hl0
      have hD := hide (show D.Perm T by have := hp0.out; rw [List.append_nil] at this; exact this.symm)
      clear hRv hp0
      gi_wp2
      go_end0
      exact ⟨⟨_, rfl⟩, .inl ⟨D, hD.out, hJD.out⟩⟩
    · intro key qt qv qc L' w4 hkey hq hp hR4 hg4 hs4 hen
      obtain ⟨q, hqe⟩ : ∃ q : Eh, q = (qt, qv, qc) := ⟨_, rfl⟩
      rw [← hqe] at hkey hq hp hen ⊢
      obtain ⟨x, hkx, hkl, -⟩ := Go.Maps.keyOf_int_inv Tryz.underlying3 hkey
      obtain rfl : qt = x := by rw [hqe] at hkl; unfold kentH at hkl; simpa using hkl
      subst hkx
      have hE : (kentH q).2 = q.2.1 := rfl
      rw [hE] at hen ⊢
      have hlen : L'.length + 1 = L.length := by rw [hp.length_eq]; rfl
      have hJ4 := hide (next_stab (hJ'.out D) hJD.out hg4 hs4 (by rw [hrr.out]; exact Nat.le_refl _) hRv.out.iter)
      have hB4 := hide (hBx.out.trans (belX_fr (X := X) (n₀ := w0.heap.size) (S := [r]) ((Fr.refl [r] wr).grown hg4 (fun k hk => by obtain rfl := Option.some.inj hk; exact .inl (by simp))) (by have := hBx.out.size; omega) (by intro y hy; simp only [List.mem_singleton] at hy; subst hy; exact .inl hrle)))
      have hpn := hide (show T.Perm (D ++ q :: L') from hp0.out.trans ((List.Perm.refl D).append hp))
      obtain ⟨fn, tmps, assign, body, hy, hRd⟩ := hY'.out D q #[.int .i64 q.1] w4 ⟨L', hpn.out⟩ hJ4.out rfl
      rw [show q.1 = qt by rw [hqe]] at hy
      have hR5 := hide hR4
      have hB5 := hB4
      replace hRd := hide hRd
      clear hkey hq hp hR4 hg4 hs4 hRv hE hJ4 hB4 hBx hJD hp0 hkl
      gi_wp2
      refine hRd.out.mono ?_
      rintro e W3 (⟨rfl, hJ3, hB3, hK3, -⟩ | ⟨rfl, hJx3, -⟩)
      · have hR3 : Rgv W3 Tryz.prog 3 kentH mb r n T L' := by
          obtain ⟨o, ho, hc⟩ := hR5.out.iter
          refine hR5.out.of_blocks (hB3.block mb hml hmX) ?_
          rw [ho]
          exact hK3.same r o (by rw [hrr.out]; exact Nat.le_refl _) ho hc
        replace hR3 := hide hR3
        replace hJ3 := hide hJ3
        have hB6 := hide (hB5.out.trans hB3)
        clear hB3 hK3
        gi_wp2
        gi_roundg L'.length
        case measure => omega
        case rel => exact ⟨D ++ [q], L', rfl, (by show List.Perm _ _; rw [List.append_assoc]; exact hpn.out), hR3, hJ3, hB6⟩
      · replace hJx3 := hide hJx3
        gi_wp2
        refine bodyPost_ret (results_none rfl _ _ _) rfl ?_
        exact ⟨⟨_, rfl⟩, .inr ⟨_, hJx3.out⟩⟩
abbrev OwnKy (w : World) (base : Nat) (v : Value) (D : List Eh) : Prop := OwnZ w base v (D.map Prod.fst)
abbrev IAk (w : World) (b2 B0 : Nat) (T : List Eh) (D : List Eh) (W : World) : Prop :=
  (∃ mv, Ob W b2 78 [mv] ∧ OwnKy W B0 mv D) ∧ ((∃ L', T.Perm (D ++ L')) ∧ (Ext w W ∧ B0 ≤ W.heap.size))
theorem IAk.stab (w : World) (b2 B0 : Nat) (T D : List Eh) (C : Nat) (hC : w.heap.size ≤ C) : Stab C (IAk w b2 B0 T D) :=
  (Stab.ex fun mv => (Stab.ob _ _ _).and (Stab.own _ _ _ _ _ _)).and ((Stab.pure _).and ((Stab.of_ext hC).and ⟨fun A C h e => Nat.le_trans h e.size, fun A l o o' h _ _ _ => by simpa using h⟩))
set_option maxHeartbeats 8000000 in
set_option maxRecDepth 100000 in
theorem happendSeq_c (mb n : Nat) (T : List Eh) (b : Nat) (w : World) (hM : Mv w Tryz.prog 3 kentH mb n T) (hb : Ob w b 83 [.map (some mb)]) (hT : T.length ≤ 1000000) : Calls Tryz.prog 149 #[.slice none 0 0, .func (.func 111) #[] #[.pointer (some ⟨b, 0, none⟩)]] w fun e w' => ∃ v' D, e = .returned v' ∧ D.Perm T ∧ OwnKy w' w.heap.size v' D ∧ Ext w w' := by
  have hml := hM.lt
  obtain ⟨W0, hW0⟩ : ∃ W0, W0 = w.alloc (.cells #[.slice none 0 0] 78) := ⟨_, rfl⟩
  have hX0 : Ext w W0 := by rw [hW0]; exact (Ext.refl w).alloc _
  have p2 : Ob W0 w.heap.size 78 [.slice none 0 0] := by rw [hW0]; exact Ob.new w _ _
  have hM0 : Mv W0 Tryz.prog 3 kentH mb n T := hM.kept (ext_by hX0) (by simp)
  have hseq := hkeys_seq [w.heap.size] mb n T W0 W0 b hM0 (Ext.refl _) (hb.ext hX0) (by simp; omega)
  have hzw := hX0.size
  have hb2l := p2.lt
  have hW0s : W0.heap.size = w.heap.size + 1 := by rw [hW0]; simp
  rw [hW0s] at hseq
  refine calls_marks Tryz.func149 rfl ?_
  simp only [Tryz.ntmps149, List.size_toArray, List.length_cons, List.length_nil, Nat.reduceAdd, Nat.reduceSub, Array.replicate_succ, Array.replicate_zero, List.push_toArray, List.append_toArray, List.nil_append, List.cons_append]
  go_wp2_with fail
  rw [← hW0]
  refine wp_rangeG (X := [w.heap.size]) (xs := T) rfl (enters_of Tryz.func111 (by kernel_rfl) rfl) hseq (Ext.refl _) (by omega) (fun x vs W h => by rw [h]; rfl) (fun x vs => Hky.stab x vs)
    (fun _ _ => False) (fun b => Stab.pure _) (IAk w w.heap.size (w.heap.size + 1) T) (fun c D W => False)
    (fun D => IAk.stab w _ _ T D _ hzw) (fun c D => Stab.pure _)
    ⟨⟨_, p2, World.ownsRow_nil _ _ _ _⟩, ⟨T, by simp⟩, hX0, by omega⟩
    (fun D x vs a' W => a' = { tmps := #[.slice none 0 0, .func (.func 111) #[] #[.pointer (some ⟨b, 0, none⟩)], .pointer (some ⟨w.heap.size, 0, none⟩), undef, .slice none 0 0, (.int .i64 x.1), .func (.func 111) #[] #[.pointer (some ⟨b, 0, none⟩)], (.int .i64 x.1), undef, undef, undef, undef, undef], defers := [] })
    (fun D x vs a' => Stab.pure _) ?assign ?body ?done ?stop
  case assign =>
    rintro LL D x vs W K _ rfl hK
    gi_wp2
    exact hK _ _ (Ext.refl _) rfl
  case body =>
    rintro LL D x vs a' W ⟨L', hp⟩ ⟨⟨mv, o2, ho⟩, -, hXk, h1W⟩ rfl rfl
    have k2 := o2.cell 0 rfl
    have hDl : D.length < 1000000 := by have := hp.length_eq; rw [List.length_append, List.length_cons] at this; omega
    have hDm : (D.map Prod.fst).length = D.length := List.length_map _
    unfold OwnKy OwnZ at ho
    rw [hDm] at ho
    have hno := Ob.not_own o2 ho (by decide)
    have hp' := hide hp
    have hobg := ob_ge ho
    obtain ⟨MA, mcap, rfl⟩ := own_form ho
    have ho' := hide ho
    have o2' := hide o2
    have hXk' := hide hXk
    clear ho o2 hXk hp
    gi_wp2_with (refine wplIn_app tZ rfl (.tmp 8) (.tmp 10) rfl rfl (own_ext ho'.out ((Ext.refl W).alloc _)) rfl (src_one Tryz.underlying78 W _ _ rfl) (by unfold maxLen; omega) (by omega) (by simp only [World.size_alloc]; omega) ?_; intro v8 w8 ho8 hg8 hob8; have o8 := (o2'.out.alloc (.cells #[(.int .i64 x.1)] 3)).grown hg8 (Ne.symm hno); have k8 := o8.cell 0 rfl; have fr8 := o8.free 0; have l8 := o8.lt; haveI : In w.heap.size w8 := ⟨l8⟩; replace o8 := hide o8; obtain ⟨A8, c8, q8⟩ := own_form ho8; subst q8)
    have hS : ∀ y ∈ w.heap.size :: ob (.slice MA D.length mcap), y = w.heap.size ∨ w.heap.size + 1 ≤ y := fun y hy => (List.mem_cons.1 hy).imp id (fun h => (hobg y h).1)
    have hF : Fr (w.heap.size :: ob (.slice MA D.length mcap)) W (w8.setCell ⟨w.heap.size, 0, none⟩ (.slice A8 (D.length + 1) c8)) := ((((Fr.refl _ W).alloc _).grown hg8 (fun k hk => .inl (List.mem_cons_of_mem _ (by unfold ob; rw [show (Value.slice MA D.length mcap).ownBlock = some k from hk]; exact List.mem_singleton.2 rfl)))).setCell ⟨w.heap.size, 0, none⟩ _ (.inl (by simp)))
    have hown : OwnKy (w8.setCell ⟨w.heap.size, 0, none⟩ (.slice A8 (D.length + 1) c8)) (w.heap.size + 1) (.slice A8 (D.length + 1) c8) (D ++ [x]) := by
      have h1 := own_fr ho8 ((Fr.refl [w.heap.size] w8).setCell ⟨w.heap.size, 0, none⟩ (.slice A8 (D.length + 1) c8) (.inl (by simp))) (by simp)
      unfold OwnKy
      rw [List.map_append]
      refine own_appZ ?_
      rw [hDm]
      exact h1
    have o9 := o8.out.set 0 (.slice A8 (D.length + 1) c8)
    refine ⟨keeps_fr hF (fun y hy => ?_), belX_fr hF h1W (fun y hy => ?_), ⟨⟨_, o9, hown⟩, ⟨L', by rw [List.append_assoc]; exact hp'.out⟩, ext_fr hXk'.out hF (fun y hy => by have := hS y hy; omega), Nat.le_trans h1W hF.size⟩, fun _ _ _ h => h.elim⟩
    · rcases List.mem_cons.1 hy with rfl | hy
      · exact ⟨_, _, o2'.out⟩
      · exact ob_obj ho'.out y hy
    · rcases hS y hy with h | h
      · exact .inr (by simp [h])
      · exact .inl h
  case done =>
    rintro Dd D W hD hDp ⟨⟨mv, o2, ho⟩, -, hXk, h1W⟩ hK
    have k2 := o2.cell 0 rfl
    have hDm : (D.map Prod.fst).length = D.length := List.length_map _
    unfold OwnKy OwnZ at ho
    rw [hDm] at ho
    obtain ⟨MA, mcap, rfl⟩ := own_form ho
    have ho' := hide ho
    have hXk' := hide hXk
    have hK' := hide hK
    have hDp' := hide hDp
    clear ho hXk hK hDp
    go_wp2_with fail
    refine ret_mark hK'.out (v := .slice MA D.length mcap) (by simp [results, Tryz.f149, go_sem]) ⟨_, D, rfl, hDp'.out, ?_, put_ext hXk'.out (by omega) _⟩
    have h1 := (Stab.own (B := 0) _ _ _ _ _ _).put _ Dd _ (.deferred none) ho'.out (Nat.zero_le _) hK'.out rfl
    have h2 := own_base (B' := w.heap.size) h1 (by omega)
    unfold OwnKy OwnZ
    rw [hDm]
    exact h2
  case stop =>
    rintro D c k W _ h
    exact h.elim
set_option maxHeartbeats 2000000 in
theorem hkeysFn_c (mb : Nat) (w : World) : Calls Tryz.prog 58 #[.map (some mb)] w fun e w' => e = .returned (.func (.func 111) #[] #[.pointer (some ⟨w.heap.size, 0, none⟩)]) ∧ Ob w' w.heap.size 83 [.map (some mb)] ∧ Ext w w' := by
  have o := hide (Ob.new w 83 [.map (some mb)])
  go_enter Tryz.func58, Tryz.ntmps58
  go_wp2_with fail
  go_returns
  exact ⟨rfl, o.out, (Ext.refl w).alloc _⟩
set_option maxHeartbeats 2000000 in
theorem hcollectKeys_c (mb n : Nat) (T : List Eh) (b : Nat) (w : World) (hM : Mv w Tryz.prog 3 kentH mb n T) (hb : Ob w b 83 [.map (some mb)]) (hT : T.length ≤ 1000000) : Calls Tryz.prog 109 #[.func (.func 111) #[] #[.pointer (some ⟨b, 0, none⟩)]] w fun e w' => ∃ v' D, e = .returned v' ∧ D.Perm T ∧ OwnKy w' w.heap.size v' D ∧ Ext w w' := by
  have h1 := hide (happendSeq_c mb n T b w hM hb hT)
  clear hM hb
  go_enter Tryz.func109, Tryz.ntmps109
  go_wp2_with (go_at_call 149; refine h1.out.mono ?_; rintro ee w1 ⟨v1, D, rfl, hD, ho, hX⟩; (unfold OwnKy OwnZ at ho; rw [List.length_map] at ho); obtain ⟨A1, c1, rfl⟩ := own_form ho; replace ho := hide ho; replace hX := hide hX; replace hD := hide hD)
  go_returns
  exact ⟨_, D, rfl, hD.out, by unfold OwnKy OwnZ; rw [List.length_map]; exact ho.out, hX.out⟩
end Go.Proofs.YtljkneajdndgjaaGreat
set_option linter.unusedVariables false
set_option linter.unusedSimpArgs false
namespace Go.Proofs.YtljkneajdndgjaaGreat
open Go.RowKit
attribute [local go_sem] GW.cell GW.frozen In.eq_true In.le_true In.ne In.ne' In.ne_add In.ne_add' In.lt_add Upto.le_true Upto.le_add Upto.lt_add
theorem fst_get {P P' : List Vp} (h : P'.map Prod.fst = P.map Prod.fst) {k : Nat} {p p' : Vp} (hp : P[k]? = some p) (hp' : P'[k]? = some p') : p'.1 = p.1 := by
  have h1 : (P'.map Prod.fst)[k]? = (P.map Prod.fst)[k]? := by rw [h]
  rw [List.getElem?_map, List.getElem?_map, hp, hp'] at h1
  simpa using h1
theorem pts_get {P P' : List Vp} (h : pts P' = pts P) {k : Nat} {p p' : Vp} (hp : P[k]? = some p) (hp' : P'[k]? = some p') : p'.2.1 = p.2.1 ∧ cps p'.2.2 = cps p.2.2 := by
  have h1 : (pts P')[k]? = (pts P)[k]? := by rw [h]
  rw [List.getElem?_map, List.getElem?_map, hp, hp'] at h1
  simpa using h1
theorem pts_len {P P' : List Vp} (h : pts P' = pts P) : P'.length = P.length := by have := congrArg List.length h; simpa using this
theorem cps_len {L L' : List Vc} (h : cps L' = cps L) : L'.length = L.length := by have := congrArg List.length h; simpa using this
theorem cps_row {L L' : List Vc} (h : cps L' = cps L) {j : Nat} {c : Vc} (hc : L'[j]? = some c) : ∃ d ∈ L, d.2 = c.2 := by
  have h1 : (cps L')[j]? = (cps L)[j]? := by rw [h]
  rw [List.getElem?_map, List.getElem?_map, hc] at h1
  cases hd : L[j]? with
  | none => rw [hd] at h1; cases h1
  | some d => rw [hd] at h1; exact ⟨d, List.mem_of_getElem? hd, by simpa using h1.symm⟩
theorem own_ob {w : World} {base e size n cap g : Nat} {xs : List Value} (h : w.ownsRow base e size (.slice (some ⟨g, 0, none⟩) n cap) n xs) : ∃ vs, Ob w g e vs ∧ ∀ j : Nat, j < n * size → vs[j]? = xs[j]? := by
  rcases h.2 with ⟨e0, -⟩ | ⟨g', cap', cur, e1, hb, hg, hnc, hcm, hcs, ht⟩
  · cases e0
  · simp only [Value.slice.injEq, Option.some.injEq, Addr.mk.injEq] at e1
    obtain ⟨⟨rfl, -⟩, -, -⟩ := e1
    refine ⟨cur.toList, by unfold Ob; simpa using hg, fun j hj => ?_⟩
    rw [← ht, List.getElem?_take_of_lt hj]
set_option maxHeartbeats 8000000 in
set_option maxRecDepth 100000 in
theorem snOwn_c (P : List Vp) (B0 : Nat) (v : Value) (w : World) (h : OwnP w B0 v P) (hd : Dis P) (hl : P.length ≤ 4096) (hr : ∀ p ∈ P, p.2.2.length ≤ 4096 ∧ ∀ c ∈ p.2.2, c.2.1.length ≤ 8) : Calls Tryz.prog 74 #[v] w fun e w' => ∃ P', e = .returned v ∧ pts P' = pts P ∧ OwnP w' B0 v P' ∧ Fr (P.flatMap fun p => ob p.1) w w' := by
  obtain ⟨A, cap, rfl⟩ := h.form
  obtain ⟨ALL, hALL⟩ : ∃ ALL, ALL = P.flatMap fun p => ob p.1 := ⟨_, rfl⟩
  rw [← hALL]
  have h' := hide h
  have hr' := hide hr
  have hd' := hide hd
  replace hALL := hide hALL
  clear h hr hd
  go_enter Tryz.func74, Tryz.ntmps74
  go_wp2_with fail
  go_loopg [9] P.length (fun gh i wr => ∃ (k : Nat) (P' : List Vp), i = .int .i64 k ∧ k + gh = P.length ∧ Hid (OwnP wr B0 (.slice A P.length cap) P') ∧ Hid (pts P' = pts P ∧ P'.map Prod.fst = P.map Prod.fst) ∧ Hid (Fr ALL w wr))
  case atStart => exact ⟨0, P, by go_num, by omega, h', ⟨rfl, rfl⟩, Fr.refl _ _⟩
  case round =>
    generalize wr = W1 at *
    obtain ⟨k, P', rfl, hk, hO, hpt, hFr⟩ := hrel
    by_cases hlt : k < P.length
    · obtain ⟨p0, hp0⟩ : ∃ p, P[k]? = some p := ⟨_, List.getElem?_eq_getElem hlt⟩
      have hl' := pts_len hpt.out.1
      obtain ⟨⟨x, s, C⟩, hp⟩ : ∃ p, P'[k]? = some p := ⟨_, List.getElem?_eq_getElem (by rw [hl']; exact hlt)⟩
      have hOo := hO.out.1
      rw [hl'] at hOo
      obtain ⟨g, mc, eg, hgB, hgl⟩ := own_block2 hOo (by omega)
      simp only [Value.slice.injEq] at eg
      obtain ⟨rfl, -, rfl⟩ := eg
      have q0 := World.ownsRow.cellAt hOo (k * 3) (by omega)
      have q1 := World.ownsRow.cellAt hOo (k * 3 + 1) (by omega)
      have q2 := World.ownsRow.cellAt hOo (k * 3 + 2) (by omega)
      have e0 := pt_get P' k _ hp 0 _ rfl
      rw [Nat.add_zero] at e0
      rw [e0] at q0
      rw [pt_get P' k _ hp 1 _ rfl] at q1
      rw [pt_get P' k _ hp 2 _ rfl] at q2
      rw [show k * 3 + 2 = k * 3 + 1 + 1 by omega] at q2
      have hpm := hO.out.2 _ (List.mem_of_getElem? hp)
      simp only at hpm
      obtain ⟨CA, ccap, rfl⟩ := hpm.form
      simp only at q0 q1 q2
      obtain ⟨s1, s2⟩ := s
      simp only at q0 q1 q2
      haveI : In g W1 := ⟨hgl⟩
      have hx0 := hide (fst_get hpt.out.2 hp0 hp)
      have hcl := pts_get hpt.out.1 hp0 hp
      simp only at hcl
      have hCl : C.length ≤ 4096 := by rw [cps_len hcl.2]; exact (hr'.out _ (List.mem_of_getElem? hp0)).1
      have hC8 : Hid (∀ c ∈ C, c.2.1.length ≤ 8) := fun c hc => by
        obtain ⟨j, hj⟩ := List.getElem?_of_mem hc
        obtain ⟨d, hd, e⟩ := cps_row hcl.2 hj
        rw [← e]
        exact (hr'.out _ (List.mem_of_getElem? hp0)).2 d hd
      obtain ⟨pb, hpbe⟩ : ∃ pb, pb = W1.heap.size := ⟨_, rfl⟩
      have hpbn : Hid (Ob (W1.alloc (.cells #[.int .i64 s1, .int .i64 s2, .slice CA C.length ccap] 52)) pb 52 [.int .i64 s1, .int .i64 s2, .slice CA C.length ccap]) := by rw [hpbe]; exact Ob.new W1 _ [_, _, _]
      have hXp := hide ((Ext.refl W1).alloc (.cells #[.int .i64 s1, .int .i64 s2, .slice CA C.length ccap] 52))
      have hmemA : Hid (∀ b ∈ ob (Value.slice CA C.length ccap), b ∈ ALL) := fun b hb => by
        rw [hALL.out, List.mem_flatMap]
        refine ⟨p0, List.mem_of_getElem? hp0, ?_⟩
        rw [← hx0.out]
        exact hb
      obtain ⟨cn, hcn⟩ : ∃ cn, cn = C.length := ⟨_, rfl⟩
      have hp' := hide hp
      have hCown := hide hpm
      rw [← hcn] at q2 hpbn hXp hmemA hCown hCl hx0 hp'
      have hcn' := hide hcn
      clear hcn
      clear hOo e0 hpm hp hcl hl' hp0
      replace hpbe := hide hpbe
      go_wp2_with fail
      rw [← hpbe.out]
      go_loopg [16] cn (fun gh2 i2 wX => ∃ (j : Nat) (P'' : List Vp), i2 = .int .i64 j ∧ j + gh2 = cn ∧ Hid (OwnP wX B0 (.slice (some ⟨g, 0, none⟩) P.length cap) P'') ∧ Hid (pts P'' = pts P' ∧ P''.map Prod.fst = P'.map Prod.fst) ∧ Hid (Fr ALL W1 wX) ∧ Hid (Ob wX pb 52 [.int .i64 s1, .int .i64 s2, .slice CA cn ccap]))
      case atStart => exact ⟨0, P', by go_num, by omega, hO.out.ext hXp.out, ⟨rfl, rfl⟩, Fr.of_ext hXp.out, hpbn⟩
      case round =>
        generalize wr = W2 at *
        obtain ⟨j, P'', rfl, hj2, hO2, hpt2, hFr2, hpb⟩ := hrel
        by_cases hj : j < cn
        · have hl2 := pts_len hpt2.out.1
          obtain ⟨⟨x2, s2', C2⟩, hP2⟩ : ∃ p, P''[k]? = some p := ⟨_, List.getElem?_eq_getElem (by rw [hl2, pts_len hpt.out.1]; exact hlt)⟩
          have hx2 := fst_get hpt2.out.2 hp'.out hP2
          have hcp2 := (pts_get hpt2.out.1 hp'.out hP2).2
          simp only at hx2 hcp2
          subst hx2
          have hC2l : C2.length = cn := by rw [cps_len hcp2, hcn'.out]
          obtain ⟨⟨u, q, n⟩, hcj⟩ : ∃ c, C2[j]? = some c := ⟨_, List.getElem?_eq_getElem (by omega)⟩
          have hCo := hO2.out.2 _ (List.mem_of_getElem? hP2)
          simp only at hCo
          have hCo1 := hCo.1
          rw [hC2l] at hCo1
          obtain ⟨g2, cc2, eg2, hg2B, hg2l⟩ := own_block2 hCo1 (by omega)
          simp only [Value.slice.injEq] at eg2
          obtain ⟨rfl, -, rfl⟩ := eg2
          obtain ⟨vs, hgo, hvs⟩ := own_ob hCo1
          have hcu0 : vs[j * 2]? = some u := by rw [hvs _ (by omega)]; have := cc_get C2 j _ hcj 0 u rfl; rwa [Nat.add_zero] at this
          have hcn1 : vs[j * 2 + 1]? = some (.int .i64 n) := by rw [hvs _ (by omega)]; exact cc_get C2 j _ hcj 1 _ rfl
          have hru := hCo.2 _ (List.mem_of_getElem? hcj)
          simp only at hru
          obtain ⟨RA, rcap, rfl⟩ := own_form hru
          have hq8 : q.length ≤ 8 := by
            obtain ⟨d, hd, e⟩ := cps_row hcp2 hcj
            have := hC8.out d hd
            rw [e] at this
            exact this
          have k0 := hgo.cell (j * 2) hcu0
          have k1 := hgo.cell (j * 2 + 1) hcn1
          haveI : In g2 W2 := ⟨hgo.lt⟩
          have hpg := hide (show pb ≠ g2 from Ob.ne hpb.out hgo (by decide))
          have hgm := hide (hmemA.out g2 (Option.mem_toList.2 rfl))
          have hD := hide (hd'.out.same (hpt2.out.2.trans hpt.out.2))
          have hXa := hide ((Ext.refl W2).alloc (.cells #[.slice RA q.length rcap, .int .i64 n] 56))
          have z2 := hide ((hpb.out.alloc (.cells #[.slice RA q.length rcap, .int .i64 n] 56)).cell 2 rfl)
          have z0 := hide ((Ob.new W2 56 [.slice RA q.length rcap, .int .i64 n]).cell 0 rfl)
          have hrw := hide (fun w' (hX : Ext (W2.alloc (.cells #[.slice RA q.length rcap, .int .i64 n] 56)) w') => (Sl.own (S := []) (own_ext hru (hXa.out.trans hX)) (by simp) : Rw w' [] (.slice RA q.length rcap) q))
          have y2 := hpb.out.cell 2 rfl
          haveI : In pb W2 := ⟨hpb.out.lt⟩
          have hcu := hide hcu0
          replace hgo := hide hgo
          replace hP2 := hide hP2
          replace hcj := hide hcj
          clear hl2 hcp2 hC2l hCo hCo1 hvs hcu0 hcn1 hru hg2B hg2l
          go_wp2_with fail
          refine wp_region_list_tail 8 [(.is ((.pointer (some ⟨pb, 2, none⟩)))), (.is ((.slice (some ⟨g2, 0, none⟩) cn ccap))), (.is ((.int .i64 j))), (.is ((.pointer (some ⟨W2.heap.size, 0, none⟩)))), (.is ((.slice RA q.length rcap))), (.st (fun v w => OwnR w 0 v q) (fun _ _ _ h k => own_ext h k)), (.is ((.pointer (some ⟨g2, j * 2, none⟩)))), (.is ((.pointer (some ⟨g2, j * 2, none⟩))))] (by kernel_rfl) (by kernel_rfl) (by kernel_rfl) (by kernel_rfl) (by kernel_rfl) (by kernel_rfl) (by kernel_rfl) ?_ ?_
          · refine ⟨?_, ?_, ?_, ?_, ?_, ?_, ?_, ?_, trivial⟩
            · intro b w' h hE
              have f4 : b.tmps.getD 4 undef = (.pointer (some ⟨pb, 0, none⟩)) := hE 4 (of_decide_eq_true (by kernel_rfl))
              exact good_field (wanted_none rfl) rfl f4 (by simp [go_sem]) rfl
            · intro b w' h hE
              have f21 : b.tmps.getD 21 undef = (.pointer (some ⟨pb, 2, none⟩)) := h.dep 0 _ 21 (by kernel_rfl) rfl rfl
              have c0 := cell_later h.ext z2.out
              exact good_load (wanted_none rfl) rfl f21 (by simp [go_sem, c0]) rfl
            · intro b w' h hE
              have f5 : b.tmps.getD 5 undef = (.int .i64 j) := hE 5 (of_decide_eq_true (by kernel_rfl))
              exact good_move (wanted_none rfl) rfl f5
            · intro b w' h hE
              have f6 : b.tmps.getD 6 undef = (.pointer (some ⟨W2.heap.size, 0, none⟩)) := hE 6 (of_decide_eq_true (by kernel_rfl))
              exact good_field (wanted_none rfl) rfl f6 (by simp [go_sem]) rfl
            · intro b w' h hE
              have f24 : b.tmps.getD 24 undef = (.pointer (some ⟨W2.heap.size, 0, none⟩)) := h.dep 3 _ 24 (by kernel_rfl) rfl rfl
              have c0 := cell_later h.ext z0.out
              exact good_load (wanted_none rfl) rfl f24 (by simp [go_sem, c0]) rfl
            · intro b w' h hE
              have f25 : b.tmps.getD 25 undef = (.slice RA q.length rcap) := h.dep 4 _ 25 (by kernel_rfl) rfl rfl
              have g25 : b.tmps[25]?.getD undef = (.slice RA q.length rcap) := by rw [← Array.getD_eq_getD_getElem?]; exact f25
              refine good_call (wanted_none rfl) rfl (enters Tryz.func120 (by kernel_rfl) rfl) ?_
              rw [show (#[.tmp 25] : Array Operand).map b.eval = #[.slice RA q.length rcap] by simp [Act.eval, g25]]
              exact (rowClone_c q _ w' (hrw.out w' h.ext) (by omega)).mono fun e w1 ⟨v1, he, ho, hx⟩ => ⟨v1, he, own_base ho (Nat.zero_le _), hx⟩
            · intro b w' h hE
              have f22 : b.tmps.getD 22 undef = (.slice (some ⟨g2, 0, none⟩) cn ccap) := h.dep 1 _ 22 (by kernel_rfl) rfl rfl
              have f23 : b.tmps.getD 23 undef = (.int .i64 j) := h.dep 2 _ 23 (by kernel_rfl) rfl rfl
              exact good_index (wanted_none rfl) rfl f22 f23 (by simp [go_sem, hj]) rfl
            · intro b w' h hE
              have f27 : b.tmps.getD 27 undef = (.pointer (some ⟨g2, j * 2, none⟩)) := h.dep 6 _ 27 (by kernel_rfl) rfl rfl
              exact good_field (wanted_none rfl) rfl f27 (by simp [go_sem]) rfl
          · intro b w2 hX2 hd hz he' hf
            have e21 : b.tmps.getD 21 undef = (.pointer (some ⟨pb, 2, none⟩)) := hf 0 _ 21 (by omega) rfl rfl
            have e22 : b.tmps.getD 22 undef = (.slice (some ⟨g2, 0, none⟩) cn ccap) := hf 1 _ 22 (by omega) rfl rfl
            have e23 : b.tmps.getD 23 undef = (.int .i64 j) := hf 2 _ 23 (by omega) rfl rfl
            have e24 : b.tmps.getD 24 undef = (.pointer (some ⟨W2.heap.size, 0, none⟩)) := hf 3 _ 24 (by omega) rfl rfl
            have e25 : b.tmps.getD 25 undef = (.slice RA q.length rcap) := hf 4 _ 25 (by omega) rfl rfl
            have f9 : OwnR w2 0 (b.tmps.getD 26 undef) q := hf 5 _ 26 (by omega) rfl rfl
            have e27 : b.tmps.getD 27 undef = (.pointer (some ⟨g2, j * 2, none⟩)) := hf 6 _ 27 (by omega) rfl rfl
            have e28 : b.tmps.getD 28 undef = (.pointer (some ⟨g2, j * 2, none⟩)) := hf 7 _ 28 (by omega) rfl rfl
            have e := frame_puts hd hz he'
            obtain ⟨X, hXx⟩ : ∃ X : Nat → Value, ∀ d, b.tmps.getD d undef = X d := ⟨_, fun _ => rfl⟩
            rw [hXx] at e21 e22 e23 e24 e25 e27 e28 f9
            obtain ⟨A26, c26, q26⟩ := own_form f9
            rw [show dstsOf _ = [21, 22, 23, 24, 25, 26, 27, 28] from rfl] at e
            simp only [List.foldl_cons, List.foldl_nil, hXx, Act.put, List.setIfInBounds_toArray, List.set_cons_succ, List.set_cons_zero] at e
            rw [e21, e22, e23, e24, e25, e27, e28, q26] at e
            rw [q26] at f9
            replace f9 := hide f9
            clear hf he' hz hd hXx e21 e22 e23 e24 e25 e27 e28 q26
            subst e
            have hzw := hX2.size
            simp only [List.drop_succ_cons, List.drop_zero]
            have hO5 := hide ((hO2.out.ext hXa.out).ext hX2)
            have kg := (hgo.out.ext hXa.out).ext hX2
            have kgl := kg.lt
            haveI : In g2 w2 := ⟨kgl⟩
            have hfz := kg.free (j * 2)
            have hset := hide (hO5.out.set hD.out hP2.out rfl hcj.out f9.out)
            have hps := hide (pts_set hP2.out hcj.out (.slice A26 q.length c26))
            have hFs := hide (((Fr.of_ext (S := ALL) (hXa.out.trans hX2)).setCell ⟨g2, j * 2, none⟩ (.slice A26 q.length c26) (.inl hgm.out)))
            have hpb5 := hide (((hpb.out.ext hXa.out).ext hX2).far ⟨g2, j * 2, none⟩ (.slice A26 q.length c26) hpg.out)
            have hqc := kg.cell (j * 2) hcu.out
            clear kg f9
            go_wp2_with fail
            go_roundg (cn - (j + 1))
            case measure => omega
            case rel => exact ⟨j + 1, _, by go_num, by omega, hset.out, ⟨hps.out.1.trans hpt2.out.1, hps.out.2.trans hpt2.out.2⟩, hFr2.out.trans hFs.out, hpb5.out⟩
        · have hjn : j = cn := by omega
          go_wp2_with fail
          go_roundg (P.length - (k + 1))
          case measure => omega
          case rel => exact ⟨k + 1, P'', by go_num, by omega, hO2.out, ⟨hpt2.out.1.trans hpt.out.1, hpt2.out.2.trans hpt.out.2⟩, hFr.out.trans hFr2.out⟩
    · have hkP : k = P.length := by omega
      go_wp2_with fail
      go_returns
      exact ⟨P', rfl, hpt.out.1, hO.out, hFr.out⟩
end Go.Proofs.YtljkneajdndgjaaGreat
