/-
  A helper of ours: no claim of its own. Layer 14 (past): events sorted by their serials (the library's sort, laid by the guide's shelf, at elements of one cell).
-/
import Derived.Test.YtajelkkiijdegaaGreatPasO
import Derived.Test.YtajelkkiijdegaaGreatBagK
import Derived.Test.YtajelkkiijdegaaGreatDrRowD
import Derived.Test.YtajelkkiijdegaaGreatSortP
import Derived.Test.YtajelkkiijdegaaGreatEdgEn
import Derived.Test.YtajelkkiijdegaaGreatFolO
import Derived.Shelf.SlSortCmp.Whole1
set_option linter.unusedVariables false
set_option linter.unusedSimpArgs false
namespace Go.Proofs.YtajelkkiijdegaaGreat
open Go.RowKit
attribute [local go_sem] GW.cell GW.frozen In.eq_true In.le_true In.ne In.ne' In.ne_add In.ne_add' In.lt_add Upto.le_true Upto.le_add Upto.lt_add Oper.semAt_some wide_depth wide_fn
/-- What a map's iterator tells: an event's pointer. -/
def Hvp (p : Pb) (vs : Array Value) (W : World) : Prop := vs = #[pp p.2.1]
theorem Hvp.stab {B : Nat} (p : Pb) (vs : Array Value) : Stab B (Hvp p vs) := Stab.pure _
set_option maxHeartbeats 8000000 in
set_option maxRecDepth 100000 in
theorem pvalues_seq (X : List Nat) (mb n : Nat) (T : List Pb) (w0 w : World) (b : Nat) (hM : Mv w0 Tryz.prog 3 kentP mb n T) (hX : Ext w0 w) (hb : Ob w b 88 [.map (some mb)]) (hmX : mb ∉ X) :
    SeqsG Tryz.prog w0.heap.size X 101 #[.pointer (some ⟨b, 0, none⟩)] Hvp T w := by
  intro l J Jx Fb W hW hJ hJx hFb hY h0
  have q0 := (hb.ext hW).cell 0 rfl
  have hbl := (hb.ext hW).lt
  have hml := hM.lt
  have hz0 := hX.size
  have hz1 := hW.size
  have hMW := hide (hM.kept (ext_by (hX.trans hW)) (by simp))
  have hJ' := hide hJ
  have hY' := hide hY
  have h0' := hide h0
  haveI : In b W := ⟨hbl⟩
  clear hJ hJx hY hFb hb hX hW h0 hM
  refine (callsIn_wide (n := 1)).1 ?_
  refine callsIn_of_wp Tryz.func101 rfl trivial ?_ rfl
  simp only [Tryz.ntmps101, List.size_toArray, List.length_cons, List.length_nil, Nat.reduceAdd, Nat.reduceSub, Array.replicate_succ, Array.replicate_zero, List.push_toArray, List.append_toArray, List.nil_append, List.cons_append]
  gi_wp2_with (refine wplIn_range rfl (.tmp 5) rfl rfl pKey Tryz.underlying88 hMW.out ?_; intro w1 hr1 hg1 hs1)
  go_frame
  have hX1 : Ext W w1 := ext_grown (Ext.refl W) hg1 (by simp)
  obtain ⟨r, hrr⟩ : ∃ r, r = W.heap.size := ⟨_, rfl⟩
  rw [← hrr] at hr1 ⊢
  have hJ1 := hide ((hJ'.out []).ext _ _ h0'.out hX1)
  have hB1 := hide (belX_fr (X := X) (n₀ := w0.heap.size) (S := []) (Fr.of_ext hX1) (by omega) (by simp))
  have hrle : w0.heap.size ≤ r := by omega
  replace hr1 := hide hr1
  clear hg1 hs1 hX1 h0'
  replace hrr := hide hrr
  gi_loopg [4] T.length (fun gh z wr => ∃ (D L : List Pb), L.length = gh ∧ Hid (T.Perm (D ++ L)) ∧ Hid (Rgv wr Tryz.prog 3 kentP mb r n T L) ∧ Hid (J D wr) ∧ Hid (BelX w0.heap.size X W wr))
  case atStart => exact ⟨[], T, rfl, List.Perm.refl _, hr1, hJ1, hB1⟩
  case round =>
    clear hr1 hJ1 hB1
    obtain ⟨D, L, hL, hp0, hRv, hJD, hBx⟩ := hrel
    gi_wp2_with (refine wplIn_next rfl (.tmp 6) rfl rfl pKey hRv.out ?_ ?_)
    · intro hl0
      subst hl0
      have hD := hide (show D.Perm T by have := hp0.out; rw [List.append_nil] at this; exact this.symm)
      clear hRv hp0
      gi_wp2
      go_end0
      exact ⟨⟨_, rfl⟩, .inl ⟨D, hD.out, hJD.out⟩⟩
    · intro key qi qs qr qf qt qb qv L' w4 hkey hq hp hR4 hg4 hs4 hen
      obtain ⟨q, hqe⟩ : ∃ q : Pb, q = (((qi, qs), qr, (qf, qt)), qb, qv) := ⟨_, rfl⟩
      rw [← hqe] at hkey hq hp hen ⊢
      have hE : (kentP q).2 = pp q.2.1 := rfl
      rw [hE] at hen ⊢
      have hlen : L'.length + 1 = L.length := by rw [hp.length_eq]; rfl
      have hJ4 := hide (next_stab (hJ'.out D) hJD.out hg4 hs4 (by rw [hrr.out]; exact Nat.le_refl _) hRv.out.iter)
      have hB4 := hide (hBx.out.trans (belX_fr (X := X) (n₀ := w0.heap.size) (S := [r]) ((Fr.refl [r] wr).grown hg4 (fun k hk => by obtain rfl := Option.some.inj hk; exact .inl (by simp))) (by have := hBx.out.size; omega) (by intro y hy; simp only [List.mem_singleton] at hy; subst hy; exact .inl hrle)))
      have hpn := hide (show T.Perm (D ++ q :: L') from hp0.out.trans ((List.Perm.refl D).append hp))
      obtain ⟨fn, tmps, assign, body, hy, hRd⟩ := hY'.out D q #[pp q.2.1] w4 ⟨L', hpn.out⟩ hJ4.out rfl
      rw [show q.2.1 = qb by rw [hqe]] at hy
      have hR5 := hide hR4
      have hB5 := hB4
      replace hRd := hide hRd
      clear hkey hq hp hR4 hg4 hs4 hRv hE hJ4 hB4 hBx hJD hp0
      gi_wp2
      refine hRd.out.mono ?_
      rintro e W3 (⟨rfl, hJ3, hB3, hK3, -⟩ | ⟨rfl, hJx3, -⟩)
      · have hR3 : Rgv W3 Tryz.prog 3 kentP mb r n T L' := by
          obtain ⟨o, ho, hc⟩ := hR5.out.iter
          refine hR5.out.of_blocks (hB3.block mb hml hmX) ?_
          rw [ho]
          exact hK3.same r o (by rw [hrr.out]; exact Nat.le_refl _) ho hc
        replace hR3 := hide hR3
        replace hJ3 := hide hJ3
        have hB6 := hide (hB5.out.trans hB3)
        clear hB3 hK3
        gi_wp2
        gi_roundg L'.length
        case measure => omega
        case rel => exact ⟨D ++ [q], L', rfl, (by show List.Perm _ _; rw [List.append_assoc]; exact hpn.out), hR3, hJ3, hB6⟩
      · replace hJx3 := hide hJx3
        gi_wp2
        refine bodyPost_ret (results_none rfl _ _ _) rfl ?_
        exact ⟨⟨_, rfl⟩, .inr ⟨_, hJx3.out⟩⟩
abbrev OwnPe (w : World) (base : Nat) (v : Value) (D : List Pb) : Prop := w.ownsRow base 103 1 v D.length (tg1 (blks D))
abbrev IAp (w : World) (b2 B0 : Nat) (T : List Pb) (D : List Pb) (W : World) : Prop :=
  (∃ mv, Ob W b2 89 [mv] ∧ OwnPe W B0 mv D) ∧ ((∃ L', T.Perm (D ++ L')) ∧ (Ext w W ∧ B0 ≤ W.heap.size))
theorem IAp.stab (w : World) (b2 B0 : Nat) (T D : List Pb) (C : Nat) (hC : w.heap.size ≤ C) : Stab C (IAp w b2 B0 T D) :=
  (Stab.ex fun mv => (Stab.ob _ _ _).and (Stab.own _ _ _ _ _ _)).and ((Stab.pure _).and ((Stab.of_ext hC).and ⟨fun A C h e => Nat.le_trans h e.size, fun A l o o' h _ _ _ => by simpa using h⟩))
set_option maxHeartbeats 8000000 in
set_option maxRecDepth 100000 in
theorem pappendSeq_c (mb n : Nat) (T : List Pb) (b : Nat) (w : World) (hM : Mv w Tryz.prog 3 kentP mb n T) (hb : Ob w b 88 [.map (some mb)]) (hT : T.length ≤ 1000000) : Calls Tryz.prog 155 #[.slice none 0 0, .func (.func 101) #[] #[.pointer (some ⟨b, 0, none⟩)]] w fun e w' => ∃ v' D, e = .returned v' ∧ D.Perm T ∧ OwnPe w' w.heap.size v' D ∧ Ext w w' := by
  have hml := hM.lt
  obtain ⟨W0, hW0⟩ : ∃ W0, W0 = w.alloc (.cells #[.slice none 0 0] 89) := ⟨_, rfl⟩
  have hX0 : Ext w W0 := by rw [hW0]; exact (Ext.refl w).alloc _
  have p2 : Ob W0 w.heap.size 89 [.slice none 0 0] := by rw [hW0]; exact Ob.new w _ _
  have hM0 : Mv W0 Tryz.prog 3 kentP mb n T := hM.kept (ext_by hX0) (by simp)
  have hseq := pvalues_seq [w.heap.size] mb n T W0 W0 b hM0 (Ext.refl _) (hb.ext hX0) (by simp; omega)
  have hzw := hX0.size
  have hb2l := p2.lt
  have hW0s : W0.heap.size = w.heap.size + 1 := by rw [hW0]; simp
  rw [hW0s] at hseq
  refine calls_marks Tryz.func155 rfl ?_
  simp only [Tryz.ntmps155, List.size_toArray, List.length_cons, List.length_nil, Nat.reduceAdd, Nat.reduceSub, Array.replicate_succ, Array.replicate_zero, List.push_toArray, List.append_toArray, List.nil_append, List.cons_append]
  go_wp2_with fail
  rw [← hW0]
  refine wp_rangeG (X := [w.heap.size]) (xs := T) rfl (enters_of Tryz.func101 (by kernel_rfl) rfl) hseq (Ext.refl _) (by omega) (fun x vs W h => by rw [h]; rfl) (fun x vs => Hvp.stab x vs)
    (fun _ _ => False) (fun b => Stab.pure _) (IAp w w.heap.size (w.heap.size + 1) T) (fun c D W => False)
    (fun D => IAp.stab w _ _ T D _ hzw) (fun c D => Stab.pure _)
    ⟨⟨_, p2, World.ownsRow_nil _ _ _ _⟩, ⟨T, by simp⟩, hX0, by omega⟩
    (fun D x vs a' W => a' = { tmps := #[.slice none 0 0, .func (.func 101) #[] #[.pointer (some ⟨b, 0, none⟩)], .pointer (some ⟨w.heap.size, 0, none⟩), undef, .slice none 0 0, pp x.2.1, .func (.func 101) #[] #[.pointer (some ⟨b, 0, none⟩)], pp x.2.1, undef, undef, undef, undef, undef], defers := [] })
    (fun D x vs a' => Stab.pure _) ?assign ?body ?done ?stop
  case assign =>
    rintro LL D x vs W K _ rfl hK
    gi_wp2
    exact hK _ _ (Ext.refl _) rfl
  case body =>
    rintro LL D x vs a' W ⟨L', hp⟩ ⟨⟨mv, o2, ho⟩, -, hXk, h1W⟩ rfl rfl
    have k2 := o2.cell 0 rfl
    have hDl : D.length < 1000000 := by have := hp.length_eq; rw [List.length_append, List.length_cons] at this; omega
    have hno := Ob.not_own o2 ho (by decide)
    have hp' := hide hp
    have hobg := ob_ge ho
    obtain ⟨MA, mcap, rfl⟩ := own_form ho
    have ho' := hide ho
    have o2' := hide o2
    have hXk' := hide hXk
    clear ho o2 hXk hp
    gi_wp2_with (refine wplIn_app tPev rfl (.tmp 8) (.tmp 10) rfl rfl (own_ext ho'.out ((Ext.refl W).alloc _)) rfl (src_one Tryz.underlying89 W _ _ rfl) (by unfold maxLen; omega) (by omega) (by simp only [World.size_alloc]; omega) ?_; intro v8 w8 ho8 hg8 hob8; have o8 := (o2'.out.alloc (.cells #[pp x.2.1] 103)).grown hg8 (Ne.symm hno); have k8 := o8.cell 0 rfl; have fr8 := o8.free 0; have l8 := o8.lt; haveI : In w.heap.size w8 := ⟨l8⟩; replace o8 := hide o8; obtain ⟨A8, c8, q8⟩ := own_form ho8; subst q8)
    have hS : ∀ y ∈ w.heap.size :: ob (.slice MA D.length mcap), y = w.heap.size ∨ w.heap.size + 1 ≤ y := fun y hy => (List.mem_cons.1 hy).imp id (fun h => (hobg y h).1)
    have hF : Fr (w.heap.size :: ob (.slice MA D.length mcap)) W (w8.setCell ⟨w.heap.size, 0, none⟩ (.slice A8 (D.length + 1) c8)) := ((((Fr.refl _ W).alloc _).grown hg8 (fun k hk => .inl (List.mem_cons_of_mem _ (by unfold ob; rw [show (Value.slice MA D.length mcap).ownBlock = some k from hk]; exact List.mem_singleton.2 rfl)))).setCell ⟨w.heap.size, 0, none⟩ _ (.inl (by simp)))
    have hown : OwnPe (w8.setCell ⟨w.heap.size, 0, none⟩ (.slice A8 (D.length + 1) c8)) (w.heap.size + 1) (.slice A8 (D.length + 1) c8) (D ++ [x]) := by
      have h1 := own_fr ho8 ((Fr.refl [w.heap.size] w8).setCell ⟨w.heap.size, 0, none⟩ (.slice A8 (D.length + 1) c8) (.inl (by simp))) (by simp)
      unfold OwnPe
      rw [show tg1 (blks (D ++ [x])) = tg1 (blks D) ++ [pp x.2.1] by simp [tg1, blks], List.length_append, List.length_singleton]
      exact h1
    have o9 := o8.out.set 0 (.slice A8 (D.length + 1) c8)
    refine ⟨keeps_fr hF (fun y hy => ?_), belX_fr hF h1W (fun y hy => ?_), ⟨⟨_, o9, hown⟩, ⟨L', by rw [List.append_assoc]; exact hp'.out⟩, ext_fr hXk'.out hF (fun y hy => by have := hS y hy; omega), Nat.le_trans h1W hF.size⟩, fun _ _ _ h => h.elim⟩
    · rcases List.mem_cons.1 hy with rfl | hy
      · exact ⟨_, _, o2'.out⟩
      · exact ob_obj ho'.out y hy
    · rcases hS y hy with h | h
      · exact .inr (by simp [h])
      · exact .inl h
  case done =>
    rintro Dd D W hD hDp ⟨⟨mv, o2, ho⟩, -, hXk, h1W⟩ hK
    have k2 := o2.cell 0 rfl
    obtain ⟨MA, mcap, rfl⟩ := own_form ho
    have ho' := hide ho
    have hXk' := hide hXk
    have hK' := hide hK
    have hDp' := hide hDp
    clear ho hXk hK hDp
    go_wp2_with fail
    refine ret_mark hK'.out (v := .slice MA D.length mcap) (by simp [results, Tryz.f155, go_sem]) ⟨_, D, rfl, hDp'.out, ?_, put_ext hXk'.out (by omega) _⟩
    have h1 := (Stab.own (B := 0) _ _ _ _ _ _).put _ Dd _ (.deferred none) ho'.out (Nat.zero_le _) hK'.out rfl
    exact own_base h1 (by omega)
  case stop =>
    rintro D c k W _ h
    exact h.elim
set_option maxHeartbeats 2000000 in
theorem pvalues_c (mb : Nat) (w : World) : Calls Tryz.prog 51 #[.map (some mb)] w fun e w' => e = .returned (.func (.func 101) #[] #[.pointer (some ⟨w.heap.size, 0, none⟩)]) ∧ Ob w' w.heap.size 88 [.map (some mb)] ∧ Ext w w' := by
  have o := hide (Ob.new w 88 [.map (some mb)])
  go_enter Tryz.func51, Tryz.ntmps51
  go_wp2_with fail
  go_returns
  exact ⟨rfl, o.out, (Ext.refl w).alloc _⟩
set_option maxHeartbeats 2000000 in
theorem pcollect_c (mb n : Nat) (T : List Pb) (b : Nat) (w : World) (hM : Mv w Tryz.prog 3 kentP mb n T) (hb : Ob w b 88 [.map (some mb)]) (hT : T.length ≤ 1000000) : Calls Tryz.prog 99 #[.func (.func 101) #[] #[.pointer (some ⟨b, 0, none⟩)]] w fun e w' => ∃ v' D, e = .returned v' ∧ D.Perm T ∧ OwnPe w' w.heap.size v' D ∧ Ext w w' := by
  have h1 := hide (pappendSeq_c mb n T b w hM hb hT)
  clear hM hb
  go_enter Tryz.func99, Tryz.ntmps99
  go_wp2_with (go_at_call 155; refine h1.out.mono ?_; rintro ee w1 ⟨v1, D, rfl, hD, ho, hX⟩; obtain ⟨A1, c1, rfl⟩ := own_form ho; replace ho := hide ho; replace hX := hide hX; replace hD := hide hD)
  go_returns
  exact ⟨_, D, rfl, hD.out, ho.out, hX.out⟩
end Go.Proofs.YtajelkkiijdegaaGreat
set_option linter.unusedVariables false
set_option linter.unusedSimpArgs false
namespace Go.Proofs.YtajelkkiijdegaaGreat.Dr
open Go.RowKit
attribute [local go_sem] GW.cell GW.frozen In.eq_true In.le_true In.ne In.ne' In.ne_add In.ne_add' In.lt_add Upto.le_true Upto.le_add Upto.lt_add
set_option maxHeartbeats 1000000 in
theorem pbySerial_d (p q : Pb) (w : World) (hp : Evb w p) (hq : Evb w q) : Calls Tryz.prog 52 #[pp p.2.1, pp q.2.1] w fun e w' => e = .returned (.int .i64 (cmpN (pSer p) (pSer q))) ∧ Ext w w' := by
  have a1 := Ob.cell hp 1 rfl
  have b1 := Ob.cell hq 1 rfl
  haveI : In p.2.1 w := ⟨Ob.lt hp⟩
  haveI : In q.2.1 w := ⟨Ob.lt hq⟩
  have hc := hide (fun w' => cmpInt_c (pSer p) (pSer q) w')
  clear hp hq
  go_enter Tryz.func52, Tryz.ntmps52
  go_wp2_with fail
  refine wp_region_gw (by kernel_rfl) (by kernel_rfl) ?_
  repeat (go_big_quiet_step ((go_at_call 102; with_reducible exact quiet_gw (hc.out _))))
  refine wpQuiet_nil ?_
  intro g
  go_wp2_with fail
  go_returns
  exact ⟨rfl, g.grown⟩
end Go.Proofs.YtajelkkiijdegaaGreat.Dr
namespace Go.Proofs.YtajelkkiijdegaaGreat
open Go.RowKit
theorem sortP1 : Go.Proofs.SlLaysF.n6 Tryz.prog Tryz.sortP_ren := { Tryz.sortP with
  a24 := Tryz.isAgg103
  z24 := Tryz.sizeOf103 }
theorem putCells_map {α : Type} [Inhabited α] (enc : α → Value) (d : Array α) (c : Array Value) : Go.Sort.putCells enc 0 d c = Go.Sort.putCells id 0 (d.map enc) c := by
  unfold Go.Sort.putCells
  congr 1
  funext k x
  by_cases h : k < d.size
  · have h2 : k < (d.map enc).size := by simpa using h
    simp only [Nat.zero_le, true_and, Nat.zero_add, Array.size_map, h, if_true, Nat.sub_zero, id]
    rw [getElem!_pos d k h, getElem!_pos (d.map enc) k h2]
    simp
  · simp [h]
theorem putRow_map {α : Type} [Inhabited α] (enc : α → Value) (w : World) (g : Nat) (d : Array α) : Go.Sort.putRow enc w g 0 d = Go.Sort.putRow id w g 0 (d.map enc) := by
  unfold Go.Sort.putRow
  congr 1
  funext c
  exact putCells_map enc d c
abbrev SP (w : World) (g : Nat) := { p : Pb // Evb w p ∧ p.2.1 ≠ g }
def encP {w : World} {g : Nat} (x : SP w g) : Value := pp x.1.2.1
def cfP {w : World} {g : Nat} (x y : SP w g) : Int := cmpN (pSer x.1) (pSer y.1)
theorem lt_cmpP {w : World} {g : Nat} (x y : SP w g) : Go.Proofs.ltOf cfP x y = decide (pSer x.1 < pSer y.1) := by
  have e : Go.Proofs.ltOf cfP x y = decide (cmpN (pSer x.1) (pSer y.1) < 0) := rfl
  rw [e]
  unfold cmpN
  by_cases h : pSer x.1 < pSer y.1
  · rw [if_pos (by omega), decide_eq_true h]; rfl
  · rw [if_neg (by omega), decide_eq_false h]
    split <;> rfl
theorem swo_evs {w : World} {g : Nat} [Inhabited (SP w g)] : Go.Sort.SWO (Go.Proofs.ltOf (cfP (w := w) (g := g))) where
  irrefl x := by rw [lt_cmpP, decide_eq_false_iff_not]; omega
  trans x y z h1 h2 := by rw [lt_cmpP, decide_eq_true_iff] at *; omega
  ntrans x y z h1 h2 := by rw [lt_cmpP, decide_eq_false_iff_not] at *; omega
theorem sub_listP {w : World} {g : Nat} : ∀ (L : List Pb), (∀ p ∈ L, Evb w p ∧ p.2.1 ≠ g) → ∃ D : List (SP w g), D.map Subtype.val = L
  | [], _ => ⟨[], rfl⟩
  | p :: L, h => by
    obtain ⟨D, hD⟩ := sub_listP L fun q hq => h q (by simp [hq])
    exact ⟨⟨p, h p (by simp)⟩ :: D, by rw [List.map_cons, hD]⟩
theorem enc_cells {w : World} {g : Nat} (l : List (SP w g)) : (l.toArray.map encP) = (tg1 (blks (l.map Subtype.val))).toArray := by
  simp only [List.map_toArray, tg1, blks, List.map_map]
  rfl
set_option maxHeartbeats 2000000 in
/-- Sorted by their serials, in place. -/
theorem sortP_c (base : Nat) (L : List Pb) (v : Value) (w : World) (h : OwnPe w base v L) (hev : ∀ p ∈ L, Evb w p) (hn : L.length ≤ 1000000000) : Calls Tryz.prog 100 #[v, .func (.func 52) #[] #[]] w fun e w' =>
    e = .returned (.tuple #[]) ∧ ∃ s : List Pb, s.Perm L ∧ s.Pairwise (fun a b => pSer a ≤ pSer b) ∧ OwnPe w' base v s ∧ Fr (ob v) w w' := by
  rcases h.2 with ⟨rfl, h0⟩ | ⟨g, cap, cur, rfl, hb, hg, hnc, hcm, hcs, ht⟩
  · obtain rfl : L = [] := List.eq_nil_of_length_eq_zero (by simpa using h0)
    have hc := AnyF.slices_SortFunc_none Tryz.sortP none 0 (.func (.func 52) #[] #[]) w
    refine hc.mono ?_
    rintro e w' ⟨rfl, rfl⟩
    exact ⟨rfl, [], List.Perm.refl _, List.Pairwise.nil, h, Fr.refl _ _⟩
  · have eg : ∀ args w, (callFunc 52 args).run Tryz.prog w = .ok (.enter 52 args) w := enters_of Tryz.func52 (by kernel_rfl) rfl
    have hob : ob (Value.slice (some ⟨g, 0, none⟩) L.length cap) = [g] := rfl
    have hOg : Ob w g 103 cur.toList := by unfold Ob; rw [hg, Array.toArray_toList]
    have hrows : ∀ p ∈ L, Evb w p ∧ p.2.1 ≠ g := fun p hp => ⟨hev p hp, fun e => Ob.ne (hev p hp) hOg (by decide) e⟩
    rw [hob]
    by_cases hne : L = []
    · subst hne
      have hc := AnyF.slices_SortFunc_none Tryz.sortP (some ⟨g, 0, none⟩) cap (.func (.func 52) #[] #[]) w
      refine hc.mono ?_
      rintro e w' ⟨rfl, rfl⟩
      exact ⟨rfl, [], List.Perm.refl _, List.Pairwise.nil, h, Fr.refl _ _⟩
    obtain ⟨D, hD⟩ := sub_listP L hrows
    have hDl : D.length = L.length := by rw [← hD, List.length_map]
    haveI : Inhabited (SP w g) := by
      cases D with
      | nil => exact absurd hD.symm (by simpa using hne)
      | cons x r => exact ⟨x⟩
    have hH : Go.Sort.Holds encP w g 0 D.toArray := by
      intro j hj
      have hj' : j < D.length := by simpa using hj
      have h1 := World.ownsRow.cellAt h j (by omega)
      have h2 := World.ownsRow.frozenAt h j
      rw [Nat.zero_add]
      refine ⟨?_, h2⟩
      rw [h1, getElem!_pos D.toArray j hj, ← hD]
      simp [tg1, blks, hj', encP]
    have hgrows : ∀ (n : Nat) (d' : Array (SP w g)) (os : Array Obj), w.grownBy (Go.Proofs.sortWorld encP w g 0 n d' os) (some g) := fun n d' os => by
      unfold Go.Proofs.sortWorld; rw [putRow_map]; exact grownBy_put _
    have hcmp : Go.Proofs.CmpLays1 Tryz.prog 52 #[] (encP (w := w) (g := g)) cfP g 0 D.toArray.size w := by
      intro m os dk _ x y
      have hF : Fr [g] w (Go.Proofs.sortWorld encP w g 0 m dk os) := (Fr.refl [g] w).grown (hgrows m dk os) (fun k hk => by cases hk; exact .inl (by simp))
      have hx : Evb _ x.1 := Ob.fr x.2.1 hF (by simpa using x.2.2)
      have hy : Evb _ y.1 := Ob.fr y.2.1 hF (by simpa using y.2.2)
      refine (Dr.pbySerial_d x.1 y.1 _ hx hy).mono ?_
      rintro e w' ⟨rfl, hE⟩
      exact ⟨rfl, Dr.ext_grow hE⟩
    have hcon := Any.slices_SortFunc sortP1 (encP (w := w) (g := g)) (fun _ => rfl) cfP swo_evs 52 #[] g 0 cap D.toArray w eg hcmp hH (lt_of_block hg) (by simp; omega)
    have hsz : D.toArray.size = L.length := by simp [hDl]
    rw [hsz] at hcon
    refine hcon.mono ?_
    rintro e w' ⟨rfl, d', n, os, hp, hs, rfl⟩
    obtain ⟨p1, _, p3⟩ := hp
    have hd : d'.size = L.length := by rw [p1, hsz]
    have e1 : d'.extract 0 L.length = d' := by rw [← hd]; simp
    have e2 : D.toArray.extract 0 L.length = D.toArray := by rw [← hsz]; simp
    rw [e1, e2] at p3
    have hl : d'.toList.length = L.length := by rw [Array.length_toList]; exact hd
    have hmap : d'.map encP = (tg1 (blks (d'.toList.map Subtype.val))).toArray := by have := enc_cells d'.toList; rwa [Array.toArray_toList] at this
    have hgr := hgrows n d' os
    have hml : (d'.toList.map Subtype.val).length = L.length := by rw [List.length_map]; exact hl
    have htl : (tg1 (blks (d'.toList.map Subtype.val))).length = L.length := by simp [tg1, blks, hd]
    refine ⟨rfl, d'.toList.map Subtype.val, ?_, ?_, ?_, (Fr.refl [g] w).grown hgr (fun k hk => by cases hk; exact .inl (by simp))⟩
    · rw [← hD]
      exact (show d'.toList.Perm D by simpa using p3).map _
    · rw [List.pairwise_map, List.pairwise_iff_getElem]
      intro i j hi hj hij
      have := hs i j (Nat.zero_le _) hij (by rw [hl] at hj; exact hj)
      rw [lt_cmpP, decide_eq_false_iff_not, getElem!_pos d' j (by simpa using hj), getElem!_pos d' i (by simpa using hi)] at this
      simp only [Array.getElem_toList]
      omega
    · refine ⟨by rw [htl, hml, Nat.mul_one], .inr ⟨g, cap, Go.Sort.putCells id 0 (tg1 (blks (d'.toList.map Subtype.val))).toArray cur, by rw [hml], hb, ?_, by rw [hml]; exact hnc, hcm, by simp [Go.Sort.putCells, hcs], ?_⟩⟩
      · unfold Go.Proofs.sortWorld
        rw [putRow_map, hmap]
        exact heap_put _ hg
      · have := take_put cur (tg1 (blks (d'.toList.map Subtype.val))) (by rw [htl, hcs]; omega)
        rwa [htl, ← hml, ← Nat.mul_one (List.length _)] at this
set_option maxHeartbeats 4000000 in
set_option maxRecDepth 100000 in
theorem psortedFunc_c (mb n : Nat) (T : List Pb) (b : Nat) (w : World) (hM : Mv w Tryz.prog 3 kentP mb n T) (hE : ∀ p ∈ T, Evb w p) (hb : Ob w b 88 [.map (some mb)]) (hT : T.length ≤ 1000000) : Calls Tryz.prog 50 #[.func (.func 101) #[] #[.pointer (some ⟨b, 0, none⟩)], .func (.func 52) #[] #[]] w fun e w' => ∃ v' s, e = .returned v' ∧ s.Perm T ∧ s.Pairwise (fun a b => pSer a ≤ pSer b) ∧ OwnPe w' w.heap.size v' s ∧ Ext w w' := by
  have h1 := hide (pcollect_c mb n T b w hM hb hT)
  have hok := hide hE
  clear hM hb hE
  go_enter Tryz.func50, Tryz.ntmps50
  go_wp2_with (first | (go_at_call 99; refine h1.out.mono ?_; rintro ee w1 ⟨v1, D, rfl, hD, ho, hX⟩; have hobg := ob_ge ho; obtain ⟨A1, c1, rfl⟩ := own_form ho; have hsr := hide (sortP_c w.heap.size D _ w1 ho (fun p hp => Ob.ext (hok.out p (hD.mem_iff.1 hp)) hX) (by have := hD.length_eq; omega)); have hobh := hide hobg; clear ho hobg; replace hX := hide hX; replace hD := hide hD) | (go_at_call 100; refine hsr.out.mono ?_; rintro ee w2 ⟨rfl, s, hsD, hss, ho2, hF2⟩; replace hsD := hide hsD; replace hss := hide hss; replace ho2 := hide ho2; replace hF2 := hide hF2))
  go_returns
  exact ⟨_, s, rfl, hsD.out.trans hD.out, hss.out, by (have e := (hsD.out).length_eq; first | exact ho2.out | (rw [e]; exact ho2.out)), ext_fr hX.out hF2.out (fun y hy => (hobh.out y hy).1)⟩
end Go.Proofs.YtajelkkiijdegaaGreat
