/-
  A helper of ours: no claim of its own. Layer 29 (counts): where something begins, by the code.
-/
import Derived.Test.YtljkneajdndgjaaGreatHopS
import Derived.Test.YtljkneajdndgjaaGreatEdgEg
import Derived.Test.YtljkneajdndgjaaGreatHopR
import Derived.Test.YtljkneajdndgjaaGreatEdgM
import Derived.Test.YtljkneajdndgjaaGreatCouR
import Derived.Test.YtljkneajdndgjaaGreatNumF
import Derived.Test.YtljkneajdndgjaaGreatHopQ
import Derived.Test.YtljkneajdndgjaaGreatSnaD
set_option linter.unusedVariables false
set_option linter.unusedSimpArgs false
namespace Go.Proofs.YtljkneajdndgjaaGreat
open Go.RowKit
attribute [local go_sem] GW.cell GW.frozen In.eq_true In.le_true In.ne In.ne' In.ne_add In.ne_add' In.lt_add Upto.le_true Upto.le_add Upto.lt_add
section
variable {α : Type} {f : α → Lit × Value} {P : Program} {k : TypeId} {w : World} {b n : Nat} {M : List α} {ops : Array Oper} {rest : List Oper} {o : Oper} {a : Act} {Q : Exit → Act → World → Prop}
theorem wpl_minsert {t e : TypeId} (hg : o.guard = none) (m x v : Operand) (hop : o.op = Op.insert t m x v) {key : Value} (y : α) (hm : a.eval m = .map (some b)) (hx : a.eval x = key) (hv : a.eval v = (f y).2) (K : Go.Maps.Keyed P k) (ht : P.underlying t = some (.map k e)) (hn : n < maxLen) (h : Mv w P k f b n M) (hkey : keyOf P k key = some (f y).1)
    (hK : ∀ w', Mv w' P k f b (n + 1) (putM f M y) → w.grownBy w' (some b) → wpList P ops Q rest (a.put o.dst undef) w') : wpList P ops Q (o :: rest) a w := by
  refine wpList_plain hg fun K' hK' => ?_
  obtain ⟨w', hrun, r1, r2⟩ := h.store K ht hn y hkey
  unfold Oper.wp
  simp [execOp, hop, hm, hx, hv, hrun, Result.andThen]
  exact hK' _ _ (hK w' r1 r2)
end
/-- A place among the keys. -/
def ckent (t : Int) : Lit × Value := (.int .i64 t, .agg #[])
theorem cKey : Go.Maps.Keyed Tryz.prog 3 := Go.Maps.int_keyed Tryz.underlying3
theorem ckey_of {t : Int} (h : -9223372036854775808 ≤ t ∧ t ≤ 9223372036854775807) : keyOf Tryz.prog 3 (.int .i64 t) = some (.int .i64 t) := Go.Maps.keyOf_int_mk Tryz.underlying3 (by simp [Lit.wf, IntKind.min, IntKind.max, IntKind.bits, IntKind.signed]; omega)
theorem ck_same (s t : Int) : (ckent s).1.sameKey (ckent t).1 = decide (s = t) := by
  unfold ckent
  by_cases h : s = t <;> simp [Lit.sameKey, h]
theorem ck_put_mem (T : List Int) (t x : Int) : x ∈ putM ckent T t ↔ x = t ∨ x ∈ T := by
  unfold putM delM
  rw [List.mem_cons, List.mem_filter, ck_same]
  by_cases h : x = t <;> simp [h]
theorem ck_nodup {w : World} {b n : Nat} {T : List Int} (h : Mv w Tryz.prog 3 ckent b n T) : T.Nodup := (h.apart cKey).1.imp fun hne e => hne (by rw [e])
set_option maxHeartbeats 4000000 in
set_option maxRecDepth 100000 in
theorem snNext_c (c : List Int) (i : Nat) (hi : i < c.length) (hl : c.length ≤ 1000000) (v : Value) (w : World) (h : Zw w [] v c) : Calls Tryz.prog 73 #[v, .int .i64 i] w fun e w' => e = .returned (.int .i64 ((c[i + 1]?).getD 1125899906842624)) ∧ Ext w w' := by
  obtain ⟨A, cap, rfl, hlc, hlm, hat⟩ := zw_form h
  clear h
  by_cases hn : i + 1 = c.length
  · have e0 : c[i + 1]? = none := List.getElem?_eq_none (by omega)
    rw [e0]
    have hb : ((i : Int) + 1 == (c.length : Int)) = true := by simp; omega
    clear hat
    go_enter Tryz.func73, Tryz.ntmps73
    go_wp2_with fail
    all_goals
      go_returns
      exact ⟨rfl, Ext.refl _⟩
  · obtain ⟨x, hx⟩ : ∃ x, c[i + 1]? = some x := ⟨_, List.getElem?_eq_getElem (by omega)⟩
    obtain ⟨b, o, rfl, -, hb, c0⟩ := hat _ _ hx
    rw [hx]
    have hbn : ((i : Int) + 1 == (c.length : Int)) = false := by simp; omega
    haveI : In b w := ⟨hb⟩
    have hlt : i + 1 < c.length := by omega
    clear hat hx hn
    go_enter Tryz.func73, Tryz.ntmps73
    go_wp2_with fail
    all_goals
      go_returns
      exact ⟨rfl, Ext.refl _⟩
set_option maxHeartbeats 8000000 in
set_option maxRecDepth 100000 in
/-- The keys, in order. -/
theorem snSorted_c (T : List Int) (mb n : Nat) (hT : T.length ≤ 1000000) (w : World) (h : Mv w Tryz.prog 3 ckent mb n T) : Calls Tryz.prog 117 #[.map (some mb)] w fun e w' => ∃ v, e = .returned v ∧ OwnZ w' w.heap.size v (srt T) ∧ Ext w w' := by
  have hM := hide h
  have hml := h.lt
  clear h
  go_enter Tryz.func117, Tryz.ntmps117
  go_wp2_with (at_range; refine wpl_range rfl (.tmp 5) rfl rfl cKey Tryz.underlying143 hM.out ?_; intro w1 hr1 hg1 hs1)
  go_frame
  have hX1 := hide (ext_grown (Ext.refl w) hg1 (by simp))
  obtain ⟨r, hrr⟩ : ∃ r, r = w.heap.size := ⟨_, rfl⟩
  rw [← hrr] at hr1 ⊢
  have hrle : w.heap.size ≤ r := by omega
  have hrl : r < w1.heap.size := by omega
  have hsz1 : w1.heap.size = r + 1 := by omega
  replace hr1 := hide hr1
  have hXr := hX1
  clear hg1 hs1
  replace hrr := hide hrr
  go_loopg [3, 4] T.length (fun gh u z wr => ∃ (D L : List Int), L.length = gh ∧ Hid (T.Perm (D ++ L)) ∧ Hid (Rgv wr Tryz.prog 3 ckent mb r n T L) ∧ Hid (OwnZ wr (r + 1) u D) ∧ Hid (Ext w wr) ∧ r < wr.heap.size)
  case atStart => exact ⟨[], T, rfl, List.Perm.refl _, hr1, World.ownsRow_nil _ _ _ _, hX1, hrl⟩
  case round =>
    clear hr1 hX1
    obtain ⟨D, L, hL, hp0, hRv, hO, hX, hrl2⟩ := hrel
    obtain ⟨DA, dcap, rfl⟩ := own_form hO.out
    go_wp2_with (at_next; refine wpl_next rfl (.tmp 6) rfl rfl cKey hRv.out ?_ ?_)
    · intro hl0
      subst hl0
      have hD := hide (show D.Perm T by have := hp0.out; rw [List.append_nil] at this; exact this.symm)
      have hDl := hD.out.length_eq
      have hs := hide (isort_c (r + 1) D (.slice DA D.length dcap) wr hO.out (by omega))
      clear hRv hp0 hDl
      go_wp2_with (go_at_call 110; refine hs.out.mono ?_; rintro ee w2 ⟨rfl, ho2, hF2⟩; have ho3 := hide ho2; have hF3 := hide hF2; clear ho2 hF2)
      go_returns
      have e1 : srt D = srt T := by
        refine List.Perm.eq_of_pairwise (fun a b _ _ h1 h2 => by omega) (srt_asc D) (srt_asc T) ((srt_perm D).trans (hD.out.trans (srt_perm T).symm))
      refine ⟨_, rfl, ?_, ext_fr hX.out hF3.out fun b hb => ?_⟩
      · have h5 : OwnZ w2 w.heap.size (.slice DA D.length dcap) (srt D) := own_base ho3.out (by omega)
        rw [e1] at h5
        exact h5
      · have := (ob_ge hO.out b hb).1
        omega
    · intro key q L' w4 hkey hq hp hR4 hg4 hs4 hen
      have hlen : L'.length + 1 = L.length := by rw [hp.length_eq]; rfl
      obtain ⟨x, hkx, hkl, -⟩ := Go.Maps.keyOf_int_inv Tryz.underlying3 hkey
      obtain rfl : q = x := by unfold ckent at hkl; simpa using hkl
      subst hkx
      have hE : (ckent q).2 = .agg #[] := rfl
      rw [hE] at hen ⊢
      have hpn := hide (show T.Perm ((D ++ [q]) ++ L') by rw [List.append_assoc]; exact hp0.out.trans ((List.Perm.refl D).append hp))
      have hobD := ob_ge hO.out
      have hnr : (Value.slice DA D.length dcap).ownBlock ≠ some r := fun h => by have := (hobD r (Option.mem_toList.2 h)).1; omega
      have hO4 := hide (World.ownsRow.kept hO.out hg4 (.inr hnr))
      have hX4 := hide (ext_grown hX.out hg4 (fun z hz => by obtain rfl := Option.some.inj hz; exact hrle))
      have hDT : D.length + 1 ≤ T.length := by have := hp0.out.length_eq; rw [List.length_append] at this; omega
      have hr4 : r < w4.heap.size := by omega
      have hR5 := hide hR4
      clear hkey hq hp hR4 hg4 hs4 hRv hO hX hp0 hE hkl
      go_wp2_with (at_builtin; refine wpl_app tZ rfl (.tmp 11) (.tmp 13) rfl rfl (own_ext hO4.out ((Ext.refl w4).alloc _)) rfl (src_one Tryz.underlying78 w4 _ _ rfl) (by unfold maxLen; omega) (by omega) (by simp only [World.size_alloc]; omega) ?_; intro v8 w8 ho8 hg8 hob8; have ho9 := hide ho8; have hg9 := hide hg8; obtain ⟨A8, c8, q8⟩ := own_form ho8; subst q8; clear ho8 hg8 hob8)
      have hX9 : Ext w w8 := ext_grown (hX4.out.alloc _) hg9.out (fun z hz => by have := (hobD z (Option.mem_toList.2 hz)).1; omega)
      have hz9 := hg9.out.size
      simp only [World.size_alloc] at hz9
      go_roundg L'.length
      case measure => omega
      case rel =>
        refine ⟨D ++ [q], L', rfl, hpn, (hR5.out.kept (World.grownBy_alloc w4 _ none) (by simp) (by simp)).kept hg9.out (fun h => ?_) (fun h => hnr h.symm), own_appZ ho9.out, hX9, by omega⟩
        have := (hobD mb (Option.mem_toList.2 h.symm)).1
        omega
end Go.Proofs.YtljkneajdndgjaaGreat
set_option linter.unusedVariables false
set_option linter.unusedSimpArgs false
namespace Go.Proofs.YtljkneajdndgjaaGreat
open Go.RowKit
attribute [local go_sem] GW.cell GW.frozen In.eq_true In.le_true In.ne In.ne' In.ne_add In.ne_add' In.lt_add Upto.le_true Upto.le_add Upto.lt_add Oper.semAt_some wide_depth wide_fn
/-- What a round leaves alone, told from its start. -/
def ThrI (B n₀ : Nat) (X : List Nat) (Wo W : World) : Prop := KeepsFrom B Wo W ∧ (BelX n₀ X Wo W ∧ Qi B Wo W)
theorem ThrI.refl (B n₀ : Nat) (X : List Nat) (W : World) : ThrI B n₀ X W W := ⟨keeps_ext (Ext.refl W), BelX.refl _ _ _, fun b T us _ _ h => h⟩
theorem ThrI.size {B n₀ : Nat} {X : List Nat} {Wo W : World} (h : ThrI B n₀ X Wo W) : Wo.heap.size ≤ W.heap.size := h.1.size
theorem ThrI.fr {B n₀ : Nat} {X S : List Nat} {Wo W W' : World} (h : ThrI B n₀ X Wo W) (hF : Fr S W W') (hn : n₀ ≤ W.heap.size) (hS : ∀ b ∈ S, (n₀ ≤ b ∨ b ∈ X) ∧ ((∃ T vs, Ob W b T vs) ∨ b < B) ∧ (B ≤ b → ∀ T us, T ≠ 3 → ¬ Ob W b T us)) : ThrI B n₀ X Wo W' := by
  refine ⟨keepsF_trans h.1 ⟨hF.size, fun k o hk ho hc => (hF.block k (lt_of_block ho) (fun m => ?_)).trans ho⟩, h.2.1.trans (belX_fr hF hn (fun b hb => (hS b hb).1)), h.2.2.trans (fun b T us hb hT ho => ho.fr hF (fun m => (hS b m).2.2 hb T us hT ho))⟩
  rcases (hS k m).2.1 with ⟨T, vs, h1⟩ | h1
  · unfold Ob at h1
    rw [h1] at ho
    obtain rfl := Option.some.inj ho
    cases hc
  · omega
theorem ThrI.ext {B n₀ : Nat} {X : List Nat} {Wo W W' : World} (h : ThrI B n₀ X Wo W) (hn : n₀ ≤ W.heap.size) (k : Ext W W') : ThrI B n₀ X Wo W' := h.fr (S := []) (Fr.of_ext k) hn (by simp)
theorem ThrI.stab {B n₀ C : Nat} {X : List Nat} {Wo : World} (hn : n₀ ≤ Wo.heap.size) (hC : Wo.heap.size ≤ C) : Stab C (ThrI B n₀ X Wo) :=
  ⟨fun A D x e => x.ext (Nat.le_trans hn x.size) e, fun A l o o' x hl ho hc => by
    refine ⟨⟨by have := x.size; simpa using this, fun k p hk hp hpc => (World.putObj_heap_other (by have := lt_of_block hp; omega)).trans (x.1.same k p hk hp hpc)⟩, x.2.1.trans ⟨rfl, rfl, rfl, by simp, fun k hk _ => World.putObj_heap_other (by omega)⟩, x.2.2.trans (Qi.put ho hc)⟩⟩

/-- Where something begins: raw, and in order, each once. -/
def csR (G : List Gp) : List Int := G.flatMap fun g => (incL g.2).map Prod.fst
def csT (l : List Ed) : List Int := insAll (csR (grp l))
def csE (l : List Ed) : Int := if mayE l = true then (if tabE l = true then 0 else 20) else 2
def csL (l : List Ed) : List Int := if csE l = 0 then csT l else []
theorem csR_next {G : List Gp} {k : Nat} {g : Gp} (h : G[k]? = some g) : csR (G.take (k + 1)) = csR (G.take k) ++ (incL g.2).map Prod.fst := by
  unfold csR
  rw [List.take_add_one, h, Option.toList_some, List.flatMap_append]
  simp
theorem incL_len (J : List Jp) : (incL J).length ≤ J.length := List.length_filter_le _ _
theorem compact_ins (D : List Int) : Go.Lib.compact (srt D) = insAll D := by
  obtain ⟨h1, h2⟩ := compact_asc (srt_asc D)
  exact asc_unique (R := (· < · : Int → Int → Prop)) (fun a h => by omega) (fun a b h1 h2 => by omega) _ _ h1 (insAll_asc D) fun x => by rw [h2, insAll_mem, srt_mem]
abbrev ICo (w : World) (b3 B0 : Nat) (G : List Gp) (k : Nat) (W : World) : Prop :=
  (∃ mv D, Ob W b3 78 [mv] ∧ (OwnZ W B0 mv D ∧ (D = csR (G.take k) ∧ D.length ≤ k * 1024))) ∧ (Ext w W ∧ B0 ≤ W.heap.size)
theorem ICo.stab (w : World) (b3 B0 : Nat) (G : List Gp) (k B : Nat) (hB : w.heap.size ≤ B) : Stab B (ICo w b3 B0 G k) :=
  (Stab.ex fun mv => Stab.ex fun D => (Stab.ob _ _ _).and ((Stab.own _ _ _ _ _ _).and (Stab.pure _))).and ((Stab.of_ext hB).and (szStab _ _))
/-- Within a row's increases. -/
abbrev ICi (w Wo : World) (b3 B0 Bo : Nat) (G : List Gp) (k : Nat) (J : List Jp) (bj : Nat) (fv : Value) (m : Nat) (W : World) : Prop :=
  (∃ mv D, Ob W b3 78 [mv] ∧ (OwnZ W B0 mv D ∧ (D = csR (G.take k) ++ ((incL J).take m).map Prod.fst ∧ D.length ≤ k * 1024 + m))) ∧
  ((Ob W bj 73 [fv] ∧ OwnJ W 0 fv J) ∧ (ThrI Bo B0 [b3] Wo W ∧ (Ext w W ∧ B0 ≤ W.heap.size)))
theorem ICi.stab {w Wo : World} {b3 B0 Bo : Nat} {G : List Gp} {k : Nat} {J : List Jp} {bj : Nat} {fv : Value} {m B : Nat} (hB : w.heap.size ≤ B) (hn : B0 ≤ Wo.heap.size) (hW : Wo.heap.size ≤ B) : Stab B (ICi w Wo b3 B0 Bo G k J bj fv m) :=
  (Stab.ex fun mv => Stab.ex fun D => (Stab.ob _ _ _).and ((Stab.own _ _ _ _ _ _).and (Stab.pure _))).and (((Stab.ob _ _ _).and (Stab.own _ _ _ _ _ _)).and ((ThrI.stab hn hW).and ((Stab.of_ext hB).and (szStab _ _))))
set_option maxHeartbeats 16000000 in
set_option maxRecDepth 100000 in
theorem cstarts_c (L : List Ve) (v : Value) (w : World) (hC : Ew w [] v L) : Calls Tryz.prog 136 #[v] w fun e w' => ∃ v', e = .returned (.tuple #[v', .int .i64 (csE (eds L))]) ∧ OwnZ w' w.heap.size v' (csL (eds L)) ∧ Ext w w' := by
  have h1 := hide (fun w' (hX : Ext w w') => edgeMay_c L v w' (hC.ext hX))
  have h2 := hide (fun w' (hX : Ext w w') => edgeTable_c L v w' (hC.ext hX))
  have hgr := hide (fun w' (hX : Ext w w') => groups_c L v w' (hC.ext hX))
  obtain ⟨A, cap, rfl, hlc, hlm, -⟩ := ew_form hC
  unfold maxLen at hlm
  clear hC
  cases hm : mayE (eds L)
  · have e1 : csE (eds L) = 2 := by unfold csE; rw [hm]; rfl
    have e2 : csL (eds L) = [] := by unfold csL; rw [e1]; rfl
    rw [e1, e2]
    rw [hm] at h1
    clear hm e1 e2 hgr
    go_enter Tryz.func136, Tryz.ntmps136
    go_wp2_with (go_at_call 45; (with_reducible refine seq_gw (h1.out _ (Ext.refl _)) ?_); intro g)
    go_returns
    exact ⟨_, rfl, World.ownsRow_nil _ _ _ _, g.grown⟩
  rw [hm] at h1
  cases ht : tabE (eds L)
  · have e1 : csE (eds L) = 20 := by unfold csE; rw [if_pos hm, ht]; rfl
    have e2 : csL (eds L) = [] := by unfold csL; rw [e1]; rfl
    rw [e1, e2]
    rw [ht] at h2
    clear hm ht e1 e2 hgr
    go_enter Tryz.func136, Tryz.ntmps136
    go_wp2_with (first | (go_at_call 45; (with_reducible refine seq_gw (h1.out _ (Ext.refl _)) ?_); intro g) | (go_at_call 54; (with_reducible refine seq_gw (h2.out _ g.grown) ?_); intro g2))
    go_returns
    exact ⟨_, rfl, World.ownsRow_nil _ _ _ _, g.grown.trans g2.grown⟩
  rw [ht] at h2
  have e1 : csE (eds L) = 0 := by unfold csE; rw [if_pos hm, if_pos ht]
  have e2 : csL (eds L) = csT (eds L) := by unfold csL; rw [e1]; rfl
  rw [e1, e2]
  have hGm : Hid (∀ g ∈ grp (eds L), mayJ g.2 = true ∧ g.1.length ≤ 8) := fun g hg => ⟨(mayE_iff.1 hm).2.2 g hg, grp_r8 hm g hg⟩
  have hLl : L.length ≤ 4096 := by have := mayE_len hm; simpa [eds] using this
  have hgl : (grp (eds L)).length ≤ 4096 := by have := grp_len2 (eds L); rw [show (eds L).length = L.length from List.length_map _] at this; omega
  replace hm := hide hm
  replace ht := hide ht
  clear e1 e2
  refine calls_marks Tryz.func136 rfl ?_
  simp only [Tryz.ntmps136, List.size_toArray, List.length_cons, List.length_nil, Nat.reduceAdd, Nat.reduceSub, Array.replicate_succ, Array.replicate_zero, List.push_toArray, List.append_toArray, List.nil_append, List.cons_append]
  go_wp2_with (first | (go_at_call 45; refine (h1.out _ (Ext.refl _)).mono ?_; rintro ee wa ⟨rfl, hXa⟩) | (go_at_call 54; refine (h2.out _ hXa).mono ?_; rintro ee wb ⟨rfl, hXb⟩) | (go_at_call 106; refine (hgr.out _ ((hXa.trans hXb).alloc _)).mono ?_; rintro ee w1 ⟨b, rfl, v1, M, hb, hM, hMe, hX1⟩))
  rw [if_pos hm.out] at hM
  have p3 : Ob w1 wb.heap.size 78 [.slice none 0 0] := (Ob.new wb 78 [.slice none 0 0]).ext hX1
  have hXw : Ext w w1 := ((hXa.trans hXb).alloc _).trans hX1
  have hzw := hXw.size
  have hzb := (hXa.trans hXb).size
  have hzw1 := p3.lt
  obtain ⟨b3, hb3⟩ : ∃ b3, b3 = wb.heap.size := ⟨_, rfl⟩
  rw [← hb3] at p3 hzw1 hzb ⊢
  clear hb3 hgr hX1 hXa hXb
  have hMx := hide (ew_box hMe p3)
  rw [← hM] at hGm hgl
  have hML : M.length ≤ 4096 := by have := congrArg List.length hM; simp only [eds, List.length_map] at this; omega
  replace hM := hide hM
  refine wp_rangeI (X := [b3]) (xs := grp (eds M)) rfl (enters_of Tryz.func146 (by kernel_rfl) rfl) (groups_seqi [b3] M v1 w1 w1 b hMx.out (by omega) (fun g hg => Nat.le_trans (hGm.out g hg).2 (by omega)) (Ext.refl _) hb) (Ext.refl _) (Nat.le_refl _) (fun x vs W h => h.size) (fun x vs => Hgg.stab x vs)
    (ICo w b3 w1.heap.size (grp (eds M)))
    (fun c k W => False)
    (fun k => ICo.stab w b3 _ _ k _ hzw)
    (fun c k => Stab.pure _)
    ⟨⟨_, [], p3, World.ownsRow_nil _ _ _ _, rfl, by simp⟩, hXw, Nat.le_refl _⟩
    (fun k x vs a' _ => ∃ r' f', vs = #[r', f'] ∧ a' = { tmps := #[.slice A L.length cap, undef, .slice none 0 0, .int .i64 0, .pointer (some ⟨b3, 0, none⟩), undef, f', undef, .slice A L.length cap, .bool true, .bool false, .slice A L.length cap, .bool true, .bool false, .slice A L.length cap, .func (.func 146) #[] #[.pointer (some ⟨b, 0, none⟩)], r', f', undef, undef, undef, undef, undef, undef, undef, undef, undef, undef, undef, undef], defers := [] })
    (fun k x vs a' => Stab.pure _) ?assign ?body ?done ?stop
  case assign =>
    rintro LL k x vs W K _ ⟨r', f', rfl, -, -⟩ hK
    gi_wp2
    exact hK _ _ (Ext.refl _) ⟨_, _, rfl, rfl⟩
  case stop =>
    rintro D c k W hD hk h
    exact h.elim
  case body =>
    rintro LL k ⟨q, J⟩ vs a' Wo hL hrec hx ⟨⟨mv, D, o3, hD, hDe, hDl⟩, hXo, hzo⟩ ⟨rv, fv, e', hr', hf'⟩ ⟨rv', fv', rfl, rfl⟩
    obtain ⟨rfl, rfl⟩ : rv' = rv ∧ fv' = fv := by simpa using e'
    obtain ⟨hJm, hq8⟩ := hGm.out (q, J) (List.mem_of_getElem? hx)
    have hJl : J.length ≤ 1024 := mayJ_len hJm
    have hkl : k < (grp (eds M)).length := (List.getElem?_eq_some_iff.1 hx).1
    obtain ⟨RA, rcap, rfl⟩ := own_form hr'
    obtain ⟨JA, jcap, rfl⟩ := own_form hf'
    have hinc := hide (increases_c (.slice JA J.length jcap) J.length jcap JA rfl)
    have hx' := hide hx
    have o3' := hide o3
    have hD' := hide hD
    have hDe' := hide hDe
    have hXo' := hide hXo
    have hf2 := hide hf'
    have hrec' := hide hrec
    clear hx o3 hD hDe hXo hr' hf' hrec hJm
    gi_wp2_with (gi_at_call 171; refine (in_round (hinc.out Wo)).mono ?_; rintro ee wI ⟨rfl, pj, hXI⟩)
    obtain ⟨bj, hbj⟩ : ∃ bj, bj = Wo.heap.size := ⟨_, rfl⟩
    rw [← hbj] at pj ⊢
    have hz2 := hXI.size
    have hjl := pj.lt
    have hjge : w1.heap.size ≤ bj := by omega
    clear hbj
    have hrc2 : ∃ r, wI.heap[LL]? = some (.loop r) := by obtain ⟨r, hr⟩ := hrec'.out; exact ⟨r, (hXI.block _ (lt_of_block hr)).trans hr⟩
    refine wp_rangeJN (xs := incL J) (Kp := KpI bj (.slice JA J.length jcap) J) hrc2 rfl (enters_of Tryz.func199 (by kernel_rfl) rfl) (increases_seqj J (by omega) (.slice JA J.length jcap) wI bj) (Ext.refl _) (fun x vs W h => by rw [h]; rfl) (fun x vs => Stab.pure _)
      (ICi w Wo b3 w1.heap.size w1.heap.size (grp (eds M)) k J bj (.slice JA J.length jcap))
      (fun m A h => ⟨h.2.1.1, own_jw h.2.1.2 (by simp)⟩)
      (fun c m W => False)
      (fun m => ICi.stab (by omega) hzo (by omega))
      (fun c m => Stab.pure _)
      ⟨⟨mv, D, o3'.out.ext hXI, own_ext hD'.out hXI, by simpa using hDe'.out, by omega⟩, ⟨pj, own_ext hf2.out hXI⟩, (ThrI.refl _ _ _ _).ext hzo hXI, hXo'.out.trans hXI, by omega⟩
      (fun m x vs a' W => ∃ b7, a' = { tmps := #[.slice A L.length cap, undef, .slice none 0 0, .int .i64 0, .pointer (some ⟨b3, 0, none⟩), undef, .slice JA J.length jcap, .pointer (some ⟨b7, 0, none⟩), .slice A L.length cap, .bool true, .bool false, .slice A L.length cap, .bool true, .bool false, .slice A L.length cap, .func (.func 146) #[] #[.pointer (some ⟨b, 0, none⟩)], .slice RA q.length rcap, .slice JA J.length jcap, .slice JA J.length jcap, .func (.func 199) #[] #[.pointer (some ⟨bj, 0, none⟩)], .agg #[.int .i64 x.1, .int .i64 x.2], undef, undef, undef, undef, undef, undef, undef, undef, undef], defers := [] } ∧ Ob W b7 125 [.int .i64 x.1, .int .i64 x.2])
      (fun m x vs a' => Stab.ex fun b7 => (Stab.pure _).and (Stab.ob _ _ _)) ?assign2 ?body2 ?done2 ?stop2
    case assign2 =>
      rintro L2 m ⟨x, y⟩ vs W3 K hI3 rfl hK3
      gi_wp2
      exact hK3 _ _ ((Ext.refl W3).alloc _) ⟨W3.heap.size, rfl, Ob.new W3 _ [_, _]⟩
    case stop2 =>
      rintro c m W hm2 h
      exact h.elim
    case done2 =>
      rintro W ⟨⟨mv2, D2, z3, hD2, hD2e, hD2l⟩, -, hTh, hX4, hz4⟩
      refine ⟨hTh.1, hTh.2.1, ⟨⟨mv2, D2, z3, hD2, ?_, ?_⟩, hX4, hz4⟩, hTh.2.2⟩
      · rw [hD2e, List.take_length, csR_next hx'.out]
      · have := incL_len J; omega
    case body2 =>
      rintro L2 m ⟨x, y⟩ vs a' W4 hx2 ⟨⟨mv2, D2, z3, hD2, hD2e, hD2l⟩, ⟨zj, hf4⟩, hTh, hX4, hz4⟩ rfl ⟨b7, rfl, z7⟩
      have hml : m < (incL J).length := (List.getElem?_eq_some_iff.1 hx2).1
      have hil := incL_len J
      have hnx := hide (show (incL J).take (m + 1) = (incL J).take m ++ [(x, y)] by rw [List.take_add_one, hx2]; rfl)
      have hno := Ob.not_own z3 hD2 (by decide)
      have hobD := ob_ge hD2
      have k3 := z3.cell 0 rfl
      have k7 := z7.cell 0 rfl
      have l3 := z3.lt
      have l7 := z7.lt
      simp only at k7
      haveI : In b3 W4 := ⟨l3⟩
      haveI : In b7 W4 := ⟨l7⟩
      obtain ⟨MA, mcap, rfl⟩ := own_form hD2
      have hD2' := hide hD2
      have z3' := hide z3
      have zj' := hide zj
      have hf4' := hide hf4
      have hTh' := hide hTh
      have hX4' := hide hX4
      replace hD2e := hide hD2e
      replace hx2 := hide hx2
      clear hD2 z3 zj hf4 hTh hX4 z7
      gi_wp2_with (refine wplIn_app tZ rfl (.tmp 21) (.tmp 24) rfl rfl (own_ext hD2'.out ((Ext.refl W4).alloc _)) rfl (src_one Tryz.underlying78 W4 _ _ rfl) (by unfold maxLen; omega) (by omega) (by simp only [World.size_alloc]; omega) ?_; intro v8 w8 ho8 hg8 hob8; have o8 := (z3'.out.alloc (.cells #[.int .i64 x] 3)).grown hg8 (Ne.symm hno); have k8 := o8.cell 0 rfl; have fr8 := o8.free 0; have l8 := o8.lt; haveI : In b3 w8 := ⟨l8⟩; replace o8 := hide o8; obtain ⟨A8, c8, q8⟩ := own_form ho8; subst q8)
      have hF : Fr (b3 :: ob (.slice MA D2.length mcap)) W4 (w8.setCell ⟨b3, 0, none⟩ (.slice A8 (D2.length + 1) c8)) := ((((Fr.refl _ W4).alloc _).grown hg8 (fun j hj => .inl (List.mem_cons_of_mem _ (Option.mem_toList.2 hj)))).setCell ⟨b3, 0, none⟩ _ (.inl (by simp)))
      have hobj : ∀ y ∈ b3 :: ob (.slice MA D2.length mcap), ∃ T vs, Ob W4 y T vs := fun y hy => by
        rcases List.mem_cons.1 hy with rfl | hy
        · exact ⟨_, _, z3'.out⟩
        · exact ob_objS hD2'.out y hy
      have hS : ∀ y ∈ b3 :: ob (.slice MA D2.length mcap), y = b3 ∨ w1.heap.size ≤ y := fun y hy => (List.mem_cons.1 hy).imp id (fun h => (hobD y h).1)
      have hkd : ∀ y ∈ b3 :: ob (.slice MA D2.length mcap), ∃ E ds d, W4.heap[y]? = some (.cells ds E d) ∧ (E = 78 ∧ y = b3 ∨ E = 3) := fun y hy => by
        rcases List.mem_cons.1 hy with rfl | hy
        · have h := z3'.out
          unfold Ob at h
          exact ⟨_, _, _, h, .inl ⟨rfl, rfl⟩⟩
        · obtain ⟨ds, d, hd⟩ := own_kind hD2'.out hy
          exact ⟨_, ds, d, hd, .inr rfl⟩
      have o9 := o8.out.set 0 (.slice A8 (D2.length + 1) c8)
      have hown : OwnZ (w8.setCell ⟨b3, 0, none⟩ (.slice A8 (D2.length + 1) c8)) w1.heap.size (.slice A8 (D2.length + 1) c8) (D2 ++ [x]) := own_appZ (own_fr ho8 ((Fr.refl [b3] w8).setCell ⟨b3, 0, none⟩ (.slice A8 (D2.length + 1) c8) (.inl (by simp))) (by intro y hy; rw [List.mem_singleton.1 hy]; exact hzw1))
      have hjn : bj ∉ b3 :: ob (.slice MA D2.length mcap) := fun hm => by
        obtain ⟨E, ds, d, hd, he⟩ := hkd _ hm
        have h := zj'.out
        unfold Ob at h
        rw [h] at hd
        cases hd
        rcases he with ⟨e, -⟩ | e
        · exact absurd e (by decide)
        · exact absurd e (by decide)
      refine ⟨keeps_fr hF hobj, ⟨_, _, o9, hown, ?_, by rw [List.length_append, List.length_singleton]; omega⟩, ⟨zj'.out.fr hF hjn, ?_⟩, hTh'.out.fr hF (by omega) (fun y hy => ⟨?_, .inl (hobj y hy), fun hB T us hT ho => ?_⟩), ext_fr hX4'.out hF (fun y hy => by rcases hS y hy with h | h <;> omega), by have := hF.size; omega⟩
      · rw [hD2e.out, hnx.out, List.map_append, List.append_assoc]
        rfl
      · refine own_away hf4'.out hF (fun y hy hm => ?_)
        obtain ⟨E, ds, d, hd, he⟩ := hkd _ hy
        obtain ⟨ds2, d2, hd2⟩ := own_kind hf4'.out hm
        rw [hd] at hd2
        cases hd2
        rcases he with ⟨e, -⟩ | e
        · exact absurd e (by decide)
        · exact absurd e (by decide)
      · rcases hS y hy with h | h
        · exact .inr (by simp [h])
        · exact .inl h
      · obtain ⟨E, ds, d, hd, he⟩ := hkd _ hy
        unfold Ob at ho
        rw [ho] at hd
        cases hd
        rcases he with ⟨-, e⟩ | e
        · omega
        · exact hT e
  case done =>
    rintro D W hD ⟨⟨mv, D1, o3, hD1, hDe, hDl⟩, hXk, hzk⟩ hK
    rw [List.take_of_length_le (Nat.le_refl _), hM.out] at hDe
    have hno := Ob.not_own o3 hD1 (by decide)
    have hobD := ob_ge hD1
    have k3 := o3.cell 0 rfl
    have l3 := o3.lt
    haveI : In b3 W := ⟨l3⟩
    have hs := hide (isort_c w1.heap.size D1 mv W hD1 (by omega))
    have hDn : D ∉ ob mv := fun hm => by
      obtain ⟨ds, d, hd⟩ := own_kind hD1 hm
      rw [hK] at hd
      cases hd
    have hsl := hide (srt_len D1)
    obtain ⟨MA, mcap, rfl⟩ := own_form hD1
    have o3' := hide o3
    have hXk' := hide hXk
    have hK' := hide hK
    replace hDe := hide hDe
    clear o3 hXk hK hD1
    go_wp2_with (first | (go_at_call 110; refine hs.out.mono ?_; rintro ee w8 ⟨rfl, ho8, hF8⟩; have o8 := o3'.out.fr hF8 (fun hm => hno (Option.mem_toList.1 hm)); have k8 := o8.cell 0 rfl; have l8 := o8.lt; (haveI : In b3 w8 := ⟨l8⟩); have hcp := hide (icompact_c w1.heap.size (srt D1) (.slice MA D1.length mcap) w8 ho8 (by rw [hsl.out]; omega)); replace hF8 := hide hF8; clear ho8 o8) | (go_at_call 172; refine hcp.out.mono ?_; rintro ee w9 ⟨v9, rfl, ho9, hF9⟩; obtain ⟨A9, c9, q9⟩ := own_form ho9; subst q9; replace ho9 := hide ho9; replace hF9 := hide hF9))
    have hF := hF8.out.trans hF9.out
    have hK9 : w9.heap[D]? = some (.deferred (some [])) := (hF.block D (lt_of_block hK'.out) hDn).trans hK'.out
    have h5 := (Stab.own (B := 0) _ _ _ _ _ _).put _ D _ (.deferred none) ho9.out (Nat.zero_le _) hK9 rfl
    refine ret_mark hK9 (v := .tuple #[.slice A9 (Go.Lib.compact (srt D1)).length c9, .int .i64 0]) (by simp [results, Tryz.f136, go_sem]) ⟨_, rfl, ?_, put_ext (ext_fr hXk'.out hF (fun y hy => by have := (hobD y hy).1; omega)) (by omega) _⟩
    rw [show csT (eds L) = insAll D1 by rw [hDe.out]; rfl, ← compact_ins D1]
    exact own_base h5 hzw
end Go.Proofs.YtljkneajdndgjaaGreat
