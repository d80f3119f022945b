/-
  A helper of ours: no claim of its own. Layer 29 (counts): Open, by the code.
-/
import Derived.Test.YtljkneajdndgjaaGreatHopV
import Derived.Lib.RowBridge
import Derived.Test.YtljkneajdndgjaaGreatCouR
import Derived.Test.YtljkneajdndgjaaGreatWindowPartsF
import Derived.Test.YtljkneajdndgjaaGreatHopQ
import Derived.Test.YtljkneajdndgjaaGreatSnaD
set_option linter.unusedVariables false
set_option linter.unusedSimpArgs false
namespace Go.Proofs.YtljkneajdndgjaaGreat
open Go.RowKit
theorem comp_asc {D : List Int} (hD : D.Pairwise (· ≤ ·)) : ∀ m, m ≤ D.length → (Go.Lib.compactUpTo D.toArray m).Pairwise (· < ·) ∧ ∀ x, x ∈ Go.Lib.compactUpTo D.toArray m ↔ x ∈ D.take m
  | 0, _ => by simp [Go.Lib.compactUpTo]
  | m + 1, hm => by
    obtain ⟨i1, i2⟩ := comp_asc hD m (by omega)
    have hml : m < D.length := by omega
    have hd : D.toArray[m]! = D[m] := by rw [getElem!_pos D.toArray m (by simpa using hml)]; simp
    have ht : D.take (m + 1) = D.take m ++ [D[m]] := by rw [List.take_add_one, List.getElem?_eq_getElem hml]; rfl
    rw [Go.Lib.compactUpTo_succ, ht]
    by_cases hk : Go.Lib.keeps D.toArray m = true
    · rw [if_pos hk, hd]
      refine ⟨?_, fun x => by rw [List.mem_append, List.mem_append, i2]⟩
      rw [List.pairwise_append]
      refine ⟨i1, by simp, fun x hx y hy => ?_⟩
      rw [List.mem_singleton] at hy
      subst hy
      rw [i2] at hx
      obtain ⟨i, hi⟩ := List.getElem?_of_mem hx
      rw [List.getElem?_take] at hi
      split at hi
      case isFalse => cases hi
      rename_i him
      have hil : i < D.length := by omega
      rw [List.getElem?_eq_getElem hil] at hi
      obtain rfl := Option.some.inj hi
      have h0 : m - 1 < D.length := by omega
      have hd2 : D.toArray[m - 1]! = D[m - 1] := by rw [getElem!_pos D.toArray (m - 1) (by simpa using h0)]; simp
      unfold Go.Lib.keeps at hk
      rw [decide_eq_true_iff, hd, hd2] at hk
      have hP := List.pairwise_iff_getElem.1 hD
      have e1 : D[i] ≤ D[m - 1] := by
        rcases Nat.eq_or_lt_of_le (show i ≤ m - 1 by omega) with h | h
        · subst h; exact Int.le_refl _
        · exact hP i (m - 1) hil h0 h
      have e2 := hP (m - 1) m h0 hml (by omega)
      rcases hk with hk | hk
      · omega
      · omega
    · have hk2 : Go.Lib.keeps D.toArray m = false := by simpa using hk
      rw [if_neg (by rw [hk2]; decide), List.append_nil]
      refine ⟨i1, fun x => ?_⟩
      rw [i2, List.mem_append, List.mem_singleton]
      have h0 : m - 1 < D.length := by omega
      have hd2 : D.toArray[m - 1]! = D[m - 1] := by rw [getElem!_pos D.toArray (m - 1) (by simpa using h0)]; simp
      unfold Go.Lib.keeps at hk
      rw [decide_eq_true_iff, hd, hd2] at hk
      have hm0 : m ≠ 0 := fun h => hk (.inl h)
      have heq : D[m] = D[m - 1] := Classical.byContradiction fun h => hk (.inr h)
      refine ⟨.inl, fun h => h.elim id fun h => ?_⟩
      rw [h, heq]
      exact List.mem_of_getElem? (i := m - 1) (by rw [List.getElem?_take, if_pos (by omega), List.getElem?_eq_getElem h0])
/-- Sorted numbers, each once. -/
theorem compact_asc {D : List Int} (hD : D.Pairwise (· ≤ ·)) : (Go.Lib.compact D).Pairwise (· < ·) ∧ ∀ x, x ∈ Go.Lib.compact D ↔ x ∈ D := by
  obtain ⟨h1, h2⟩ := comp_asc hD D.length (Nat.le_refl _)
  exact ⟨h1, fun x => by rw [show Go.Lib.compact D = Go.Lib.compactUpTo D.toArray D.length from rfl, h2, List.take_length]⟩
theorem cheap_put {w : World} {g n : Nat} {cur : Array Value} {e : TypeId} {fr : Nat × Nat} (d : Array Value) (hb : w.heap[g]? = some (.cells cur e fr)) :
    (Go.Sort.putRow id (Go.Sort.ahead w n) g 0 d).heap[g]? = some (.cells (Go.Sort.putCells id 0 d cur) e fr) := by
  have hg : g < w.heap.size := (Array.getElem?_eq_some_iff.1 hb).1
  simp [Go.Sort.putRow, Go.Sort.mapBlock, Go.Sort.ahead, Array.getElem?_modify, hb, Go.Sort.onCells]
theorem cgrown_put {w : World} {g n : Nat} (d : Array Value) : w.grownBy (Go.Sort.putRow id (Go.Sort.ahead w n) g 0 d) (some g) := by
  refine ⟨rfl, rfl, rfl, by simp, fun k hk hne => ?_⟩
  have : g ≠ k := fun e => hne (by rw [e])
  simp [Go.Sort.putRow, Go.Sort.mapBlock, Go.Sort.ahead, Array.getElem?_modify, this]
set_option maxHeartbeats 2000000 in
theorem icompact_c (B : Nat) (D : List Int) (v : Value) (w : World) (h : OwnZ w B v D) (hn : D.length ≤ 1000000000) : Calls Tryz.prog 172 #[v] w fun e w' => ∃ v', e = .returned v' ∧ OwnZ w' B v' (Go.Lib.compact D) ∧ Fr (ob v) w w' := by
  have hl := Go.Lib.compact_length_le D
  rcases h.2 with ⟨rfl, h0⟩ | ⟨g, cap, cur, rfl, hb, hg, hnc, hcm, hcs, ht⟩
  · obtain rfl : D = [] := List.eq_nil_of_length_eq_zero (by simpa using h0)
    refine (Tryz.slices_Compact_int_empty none 0 w).mono ?_
    rintro e w' ⟨rfl, rfl⟩
    exact ⟨_, rfl, by rw [show Go.Lib.compact ([] : List Int) = [] by rfl]; exact h, Fr.refl _ _⟩
  · have hH : Go.Sort.Holds (Value.int .i64) w g 0 D.toArray := by
      intro j hj
      have hj' : j < D.length := by simpa using hj
      have h1 := World.ownsRow.cellAt h j (by omega)
      have h2 := World.ownsRow.frozenAt h j
      rw [Nat.zero_add]
      refine ⟨?_, h2⟩
      rw [h1, getElem!_pos D.toArray j hj]
      simp [zc, hj']
    refine (Tryz.slices_Compact_int g 0 cap D w hH (by omega) hnc).mono ?_
    rintro e w' ⟨rfl, n, rfl⟩
    refine ⟨_, rfl, ?_, (Fr.refl _ _).grown (by rw [irow_map]; exact cgrown_put _) (fun k hk => by cases hk; exact .inl (by simp [ob, Value.ownBlock]))⟩
    obtain ⟨Y, hY⟩ : ∃ Y, Y = Go.Lib.compact D := ⟨_, rfl⟩
    rw [← hY] at hl ⊢
    have hzl : (zc Y).length = Y.length := zc_len Y
    refine ⟨by rw [zc_len, Nat.mul_one], .inr ⟨g, cap, Go.Sort.putCells id 0 (zc (Y ++ List.replicate (D.length - Y.length) 0)).toArray cur, rfl, hb, ?_, by omega, hcm, by simp [Go.Sort.putCells, hcs], ?_⟩⟩
    · have hmap : ((Y ++ List.replicate (D.length - Y.length) 0).toArray.map (Value.int .i64)) = (zc (Y ++ List.replicate (D.length - Y.length) 0)).toArray := by simp [zc]
      rw [irow_map, hmap]
      exact cheap_put _ hg
    · have hZl : (zc (Y ++ List.replicate (D.length - Y.length) 0)).length = D.length := by rw [zc_len, List.length_append, List.length_replicate]; omega
      have h1 := itake_put cur (zc (Y ++ List.replicate (D.length - Y.length) 0)) (by rw [hZl, hcs]; omega)
      obtain ⟨X, hX⟩ : ∃ X, X = (Go.Sort.putCells id 0 (zc (Y ++ List.replicate (D.length - Y.length) 0)).toArray cur).toList := ⟨_, rfl⟩
      rw [← hX] at h1 ⊢
      have e : X.take Y.length = (X.take (zc (Y ++ List.replicate (D.length - Y.length) 0)).length).take Y.length := by rw [List.take_take, Nat.min_eq_left (by omega)]
      rw [Nat.mul_one, e, h1, zc_append, List.take_append_of_le_length (by omega), List.take_of_length_le (by omega)]
end Go.Proofs.YtljkneajdndgjaaGreat
set_option linter.unusedVariables false
set_option linter.unusedSimpArgs false
namespace Go.Proofs.YtljkneajdndgjaaGreat
open Go.RowKit
attribute [local go_sem] GW.cell GW.frozen In.eq_true In.le_true In.ne In.ne' In.ne_add In.ne_add' In.lt_add Upto.le_true Upto.le_add Upto.lt_add Oper.semAt_some wide_depth wide_fn
/-- What a round leaves alone, told from its start. -/
def ThrI (B n₀ : Nat) (X : List Nat) (Wo W : World) : Prop := KeepsFrom B Wo W ∧ (BelX n₀ X Wo W ∧ Qi B Wo W)
theorem ThrI.refl (B n₀ : Nat) (X : List Nat) (W : World) : ThrI B n₀ X W W := ⟨keeps_ext (Ext.refl W), BelX.refl _ _ _, fun b T us _ _ h => h⟩
theorem ThrI.size {B n₀ : Nat} {X : List Nat} {Wo W : World} (h : ThrI B n₀ X Wo W) : Wo.heap.size ≤ W.heap.size := h.1.size
theorem ThrI.fr {B n₀ : Nat} {X S : List Nat} {Wo W W' : World} (h : ThrI B n₀ X Wo W) (hF : Fr S W W') (hn : n₀ ≤ W.heap.size) (hS : ∀ b ∈ S, (n₀ ≤ b ∨ b ∈ X) ∧ ((∃ T vs, Ob W b T vs) ∨ b < B) ∧ (B ≤ b → ∀ T us, T ≠ 3 → ¬ Ob W b T us)) : ThrI B n₀ X Wo W' := by
  refine ⟨keepsF_trans h.1 ⟨hF.size, fun k o hk ho hc => (hF.block k (lt_of_block ho) (fun m => ?_)).trans ho⟩, h.2.1.trans (belX_fr hF hn (fun b hb => (hS b hb).1)), h.2.2.trans (fun b T us hb hT ho => ho.fr hF (fun m => (hS b m).2.2 hb T us hT ho))⟩
  rcases (hS k m).2.1 with ⟨T, vs, h1⟩ | h1
  · unfold Ob at h1
    rw [h1] at ho
    obtain rfl := Option.some.inj ho
    cases hc
  · omega
theorem ThrI.ext {B n₀ : Nat} {X : List Nat} {Wo W W' : World} (h : ThrI B n₀ X Wo W) (hn : n₀ ≤ W.heap.size) (k : Ext W W') : ThrI B n₀ X Wo W' := h.fr (S := []) (Fr.of_ext k) hn (by simp)
theorem ThrI.stab {B n₀ C : Nat} {X : List Nat} {Wo : World} (hn : n₀ ≤ Wo.heap.size) (hC : Wo.heap.size ≤ C) : Stab C (ThrI B n₀ X Wo) :=
  ⟨fun A D x e => x.ext (Nat.le_trans hn x.size) e, fun A l o o' x hl ho hc => by
    refine ⟨⟨by have := x.size; simpa using this, fun k p hk hp hpc => (World.putObj_heap_other (by have := lt_of_block hp; omega)).trans (x.1.same k p hk hp hpc)⟩, x.2.1.trans ⟨rfl, rfl, rfl, by simp, fun k hk _ => World.putObj_heap_other (by omega)⟩, x.2.2.trans (Qi.put ho hc)⟩⟩

/-- Where something begins: raw, and in order, each once. -/
def csR (G : List Gp) : List Int := G.flatMap fun g => (incL g.2).map Prod.fst
def csT (l : List Ed) : List Int := insAll (csR (grp l))
def csE (l : List Ed) : Int := if mayE l = true then (if tabE l = true then 0 else 20) else 2
def csL (l : List Ed) : List Int := if csE l = 0 then csT l else []
theorem csR_next {G : List Gp} {k : Nat} {g : Gp} (h : G[k]? = some g) : csR (G.take (k + 1)) = csR (G.take k) ++ (incL g.2).map Prod.fst := by
  unfold csR
  rw [List.take_add_one, h, Option.toList_some, List.flatMap_append]
  simp
theorem incL_len (J : List Jp) : (incL J).length ≤ J.length := List.length_filter_le _ _
theorem compact_ins (D : List Int) : Go.Lib.compact (srt D) = insAll D := by
  obtain ⟨h1, h2⟩ := compact_asc (srt_asc D)
  exact asc_unique (R := (· < · : Int → Int → Prop)) (fun a h => by omega) (fun a b h1 h2 => by omega) _ _ h1 (insAll_asc D) fun x => by rw [h2, insAll_mem, srt_mem]
abbrev ICo (w : World) (b3 B0 : Nat) (G : List Gp) (k : Nat) (W : World) : Prop :=
  (∃ mv D, Ob W b3 78 [mv] ∧ (OwnZ W B0 mv D ∧ (D = csR (G.take k) ∧ D.length ≤ k * 1024))) ∧ (Ext w W ∧ B0 ≤ W.heap.size)
theorem ICo.stab (w : World) (b3 B0 : Nat) (G : List Gp) (k B : Nat) (hB : w.heap.size ≤ B) : Stab B (ICo w b3 B0 G k) :=
  (Stab.ex fun mv => Stab.ex fun D => (Stab.ob _ _ _).and ((Stab.own _ _ _ _ _ _).and (Stab.pure _))).and ((Stab.of_ext hB).and (szStab _ _))
/-- Within a row's increases. -/
abbrev ICi (w Wo : World) (b3 B0 Bo : Nat) (G : List Gp) (k : Nat) (J : List Jp) (bj : Nat) (fv : Value) (m : Nat) (W : World) : Prop :=
  (∃ mv D, Ob W b3 78 [mv] ∧ (OwnZ W B0 mv D ∧ (D = csR (G.take k) ++ ((incL J).take m).map Prod.fst ∧ D.length ≤ k * 1024 + m))) ∧
  ((Ob W bj 73 [fv] ∧ OwnJ W 0 fv J) ∧ (ThrI Bo B0 [b3] Wo W ∧ (Ext w W ∧ B0 ≤ W.heap.size)))
theorem ICi.stab {w Wo : World} {b3 B0 Bo : Nat} {G : List Gp} {k : Nat} {J : List Jp} {bj : Nat} {fv : Value} {m B : Nat} (hB : w.heap.size ≤ B) (hn : B0 ≤ Wo.heap.size) (hW : Wo.heap.size ≤ B) : Stab B (ICi w Wo b3 B0 Bo G k J bj fv m) :=
  (Stab.ex fun mv => Stab.ex fun D => (Stab.ob _ _ _).and ((Stab.own _ _ _ _ _ _).and (Stab.pure _))).and (((Stab.ob _ _ _).and (Stab.own _ _ _ _ _ _)).and ((ThrI.stab hn hW).and ((Stab.of_ext hB).and (szStab _ _))))
set_option maxHeartbeats 16000000 in
set_option maxRecDepth 100000 in
theorem cstarts_c (L : List Ve) (v : Value) (w : World) (hC : Ew w [] v L) : Calls Tryz.prog 136 #[v] w fun e w' => ∃ v', e = .returned (.tuple #[v', .int .i64 (csE (eds L))]) ∧ OwnZ w' w.heap.size v' (csL (eds L)) ∧ Ext w w' := by
  have h1 := hide (fun w' (hX : Ext w w') => edgeMay_c L v w' (hC.ext hX))
  have h2 := hide (fun w' (hX : Ext w w') => edgeTable_c L v w' (hC.ext hX))
  have hgr := hide (fun w' (hX : Ext w w') => groups_c L v w' (hC.ext hX))
  obtain ⟨A, cap, rfl, hlc, hlm, -⟩ := ew_form hC
  unfold maxLen at hlm
  clear hC
  cases hm : mayE (eds L)
  · have e1 : csE (eds L) = 2 := by unfold csE; rw [hm]; rfl
    have e2 : csL (eds L) = [] := by unfold csL; rw [e1]; rfl
    rw [e1, e2]
    rw [hm] at h1
    clear hm e1 e2 hgr
    go_enter Tryz.func136, Tryz.ntmps136
    go_wp2_with (go_at_call 45; (with_reducible refine seq_gw (h1.out _ (Ext.refl _)) ?_); intro g)
    go_returns
    exact ⟨_, rfl, World.ownsRow_nil _ _ _ _, g.grown⟩
  rw [hm] at h1
  cases ht : tabE (eds L)
  · have e1 : csE (eds L) = 20 := by unfold csE; rw [if_pos hm, ht]; rfl
    have e2 : csL (eds L) = [] := by unfold csL; rw [e1]; rfl
    rw [e1, e2]
    rw [ht] at h2
    clear hm ht e1 e2 hgr
    go_enter Tryz.func136, Tryz.ntmps136
    go_wp2_with (first | (go_at_call 45; (with_reducible refine seq_gw (h1.out _ (Ext.refl _)) ?_); intro g) | (go_at_call 54; (with_reducible refine seq_gw (h2.out _ g.grown) ?_); intro g2))
    go_returns
    exact ⟨_, rfl, World.ownsRow_nil _ _ _ _, g.grown.trans g2.grown⟩
  rw [ht] at h2
  have e1 : csE (eds L) = 0 := by unfold csE; rw [if_pos hm, if_pos ht]
  have e2 : csL (eds L) = csT (eds L) := by unfold csL; rw [e1]; rfl
  rw [e1, e2]
  have hGm : Hid (∀ g ∈ grp (eds L), mayJ g.2 = true ∧ g.1.length ≤ 8) := fun g hg => ⟨(mayE_iff.1 hm).2.2 g hg, grp_r8 hm g hg⟩
  have hLl : L.length ≤ 4096 := by have := mayE_len hm; simpa [eds] using this
  have hgl : (grp (eds L)).length ≤ 4096 := by have := grp_len2 (eds L); rw [show (eds L).length = L.length from List.length_map _] at this; omega
  replace hm := hide hm
  replace ht := hide ht
  clear e1 e2
  refine calls_marks Tryz.func136 rfl ?_
  simp only [Tryz.ntmps136, List.size_toArray, List.length_cons, List.length_nil, Nat.reduceAdd, Nat.reduceSub, Array.replicate_succ, Array.replicate_zero, List.push_toArray, List.append_toArray, List.nil_append, List.cons_append]
  go_wp2_with (first | (go_at_call 45; refine (h1.out _ (Ext.refl _)).mono ?_; rintro ee wa ⟨rfl, hXa⟩) | (go_at_call 54; refine (h2.out _ hXa).mono ?_; rintro ee wb ⟨rfl, hXb⟩) | (go_at_call 106; refine (hgr.out _ ((hXa.trans hXb).alloc _)).mono ?_; rintro ee w1 ⟨b, rfl, v1, M, hb, hM, hMe, hX1⟩))
  rw [if_pos hm.out] at hM
  have p3 : Ob w1 wb.heap.size 78 [.slice none 0 0] := (Ob.new wb 78 [.slice none 0 0]).ext hX1
  have hXw : Ext w w1 := ((hXa.trans hXb).alloc _).trans hX1
  have hzw := hXw.size
  have hzb := (hXa.trans hXb).size
  have hzw1 := p3.lt
  obtain ⟨b3, hb3⟩ : ∃ b3, b3 = wb.heap.size := ⟨_, rfl⟩
  rw [← hb3] at p3 hzw1 hzb ⊢
  clear hb3 hgr hX1 hXa hXb
  have hMx := hide (ew_box hMe p3)
  rw [← hM] at hGm hgl
  have hML : M.length ≤ 4096 := by have := congrArg List.length hM; simp only [eds, List.length_map] at this; omega
  replace hM := hide hM
  refine wp_rangeI (X := [b3]) (xs := grp (eds M)) rfl (enters_of Tryz.func146 (by kernel_rfl) rfl) (groups_seqi [b3] M v1 w1 w1 b hMx.out (by omega) (fun g hg => Nat.le_trans (hGm.out g hg).2 (by omega)) (Ext.refl _) hb) (Ext.refl _) (Nat.le_refl _) (fun x vs W h => h.size) (fun x vs => Hgg.stab x vs)
    (ICo w b3 w1.heap.size (grp (eds M)))
    (fun c k W => False)
    (fun k => ICo.stab w b3 _ _ k _ hzw)
    (fun c k => Stab.pure _)
    ⟨⟨_, [], p3, World.ownsRow_nil _ _ _ _, rfl, by simp⟩, hXw, Nat.le_refl _⟩
    (fun k x vs a' _ => ∃ r' f', vs = #[r', f'] ∧ a' = { tmps := #[.slice A L.length cap, undef, .slice none 0 0, .int .i64 0, .pointer (some ⟨b3, 0, none⟩), undef, f', undef, .slice A L.length cap, .bool true, .bool false, .slice A L.length cap, .bool true, .bool false, .slice A L.length cap, .func (.func 146) #[] #[.pointer (some ⟨b, 0, none⟩)], r', f', undef, undef, undef, undef, undef, undef, undef, undef, undef, undef, undef, undef], defers := [] })
    (fun k x vs a' => Stab.pure _) ?assign ?body ?done ?stop
  case assign =>
    rintro LL k x vs W K _ ⟨r', f', rfl, -, -⟩ hK
    gi_wp2
    exact hK _ _ (Ext.refl _) ⟨_, _, rfl, rfl⟩
  case stop =>
    rintro D c k W hD hk h
    exact h.elim
  case body =>
    rintro LL k ⟨q, J⟩ vs a' Wo hL hrec hx ⟨⟨mv, D, o3, hD, hDe, hDl⟩, hXo, hzo⟩ ⟨rv, fv, e', hr', hf'⟩ ⟨rv', fv', rfl, rfl⟩
    obtain ⟨rfl, rfl⟩ : rv' = rv ∧ fv' = fv := by simpa using e'
    obtain ⟨hJm, hq8⟩ := hGm.out (q, J) (List.mem_of_getElem? hx)
    have hJl : J.length ≤ 1024 := mayJ_len hJm
    have hkl : k < (grp (eds M)).length := (List.getElem?_eq_some_iff.1 hx).1
    obtain ⟨RA, rcap, rfl⟩ := own_form hr'
    obtain ⟨JA, jcap, rfl⟩ := own_form hf'
    have hinc := hide (increases_c (.slice JA J.length jcap) J.length jcap JA rfl)
    have hx' := hide hx
    have o3' := hide o3
    have hD' := hide hD
    have hDe' := hide hDe
    have hXo' := hide hXo
    have hf2 := hide hf'
    have hrec' := hide hrec
    clear hx o3 hD hDe hXo hr' hf' hrec hJm
    gi_wp2_with (gi_at_call 171; refine (in_round (hinc.out Wo)).mono ?_; rintro ee wI ⟨rfl, pj, hXI⟩)
    obtain ⟨bj, hbj⟩ : ∃ bj, bj = Wo.heap.size := ⟨_, rfl⟩
    rw [← hbj] at pj ⊢
    have hz2 := hXI.size
    have hjl := pj.lt
    have hjge : w1.heap.size ≤ bj := by omega
    clear hbj
    have hrc2 : ∃ r, wI.heap[LL]? = some (.loop r) := by obtain ⟨r, hr⟩ := hrec'.out; exact ⟨r, (hXI.block _ (lt_of_block hr)).trans hr⟩
    refine wp_rangeJN (xs := incL J) (Kp := KpI bj (.slice JA J.length jcap) J) hrc2 rfl (enters_of Tryz.func199 (by kernel_rfl) rfl) (increases_seqj J (by omega) (.slice JA J.length jcap) wI bj) (Ext.refl _) (fun x vs W h => by rw [h]; rfl) (fun x vs => Stab.pure _)
      (ICi w Wo b3 w1.heap.size w1.heap.size (grp (eds M)) k J bj (.slice JA J.length jcap))
      (fun m A h => ⟨h.2.1.1, own_jw h.2.1.2 (by simp)⟩)
      (fun c m W => False)
      (fun m => ICi.stab (by omega) hzo (by omega))
      (fun c m => Stab.pure _)
      ⟨⟨mv, D, o3'.out.ext hXI, own_ext hD'.out hXI, by simpa using hDe'.out, by omega⟩, ⟨pj, own_ext hf2.out hXI⟩, (ThrI.refl _ _ _ _).ext hzo hXI, hXo'.out.trans hXI, by omega⟩
      (fun m x vs a' W => ∃ b7, a' = { tmps := #[.slice A L.length cap, undef, .slice none 0 0, .int .i64 0, .pointer (some ⟨b3, 0, none⟩), undef, .slice JA J.length jcap, .pointer (some ⟨b7, 0, none⟩), .slice A L.length cap, .bool true, .bool false, .slice A L.length cap, .bool true, .bool false, .slice A L.length cap, .func (.func 146) #[] #[.pointer (some ⟨b, 0, none⟩)], .slice RA q.length rcap, .slice JA J.length jcap, .slice JA J.length jcap, .func (.func 199) #[] #[.pointer (some ⟨bj, 0, none⟩)], .agg #[.int .i64 x.1, .int .i64 x.2], undef, undef, undef, undef, undef, undef, undef, undef, undef], defers := [] } ∧ Ob W b7 125 [.int .i64 x.1, .int .i64 x.2])
      (fun m x vs a' => Stab.ex fun b7 => (Stab.pure _).and (Stab.ob _ _ _)) ?assign2 ?body2 ?done2 ?stop2
    case assign2 =>
      rintro L2 m ⟨x, y⟩ vs W3 K hI3 rfl hK3
      gi_wp2
      exact hK3 _ _ ((Ext.refl W3).alloc _) ⟨W3.heap.size, rfl, Ob.new W3 _ [_, _]⟩
    case stop2 =>
      rintro c m W hm2 h
      exact h.elim
    case done2 =>
      rintro W ⟨⟨mv2, D2, z3, hD2, hD2e, hD2l⟩, -, hTh, hX4, hz4⟩
      refine ⟨hTh.1, hTh.2.1, ⟨⟨mv2, D2, z3, hD2, ?_, ?_⟩, hX4, hz4⟩, hTh.2.2⟩
      · rw [hD2e, List.take_length, csR_next hx'.out]
      · have := incL_len J; omega
    case body2 =>
      rintro L2 m ⟨x, y⟩ vs a' W4 hx2 ⟨⟨mv2, D2, z3, hD2, hD2e, hD2l⟩, ⟨zj, hf4⟩, hTh, hX4, hz4⟩ rfl ⟨b7, rfl, z7⟩
      have hml : m < (incL J).length := (List.getElem?_eq_some_iff.1 hx2).1
      have hil := incL_len J
      have hnx := hide (show (incL J).take (m + 1) = (incL J).take m ++ [(x, y)] by rw [List.take_add_one, hx2]; rfl)
      have hno := Ob.not_own z3 hD2 (by decide)
      have hobD := ob_ge hD2
      have k3 := z3.cell 0 rfl
      have k7 := z7.cell 0 rfl
      have l3 := z3.lt
      have l7 := z7.lt
      simp only at k7
      haveI : In b3 W4 := ⟨l3⟩
      haveI : In b7 W4 := ⟨l7⟩
      obtain ⟨MA, mcap, rfl⟩ := own_form hD2
      have hD2' := hide hD2
      have z3' := hide z3
      have zj' := hide zj
      have hf4' := hide hf4
      have hTh' := hide hTh
      have hX4' := hide hX4
      replace hD2e := hide hD2e
      replace hx2 := hide hx2
      clear hD2 z3 zj hf4 hTh hX4 z7
      gi_wp2_with (refine wplIn_app tZ rfl (.tmp 21) (.tmp 24) rfl rfl (own_ext hD2'.out ((Ext.refl W4).alloc _)) rfl (src_one Tryz.underlying78 W4 _ _ rfl) (by unfold maxLen; omega) (by omega) (by simp only [World.size_alloc]; omega) ?_; intro v8 w8 ho8 hg8 hob8; have o8 := (z3'.out.alloc (.cells #[.int .i64 x] 3)).grown hg8 (Ne.symm hno); have k8 := o8.cell 0 rfl; have fr8 := o8.free 0; have l8 := o8.lt; haveI : In b3 w8 := ⟨l8⟩; replace o8 := hide o8; obtain ⟨A8, c8, q8⟩ := own_form ho8; subst q8)
      have hF : Fr (b3 :: ob (.slice MA D2.length mcap)) W4 (w8.setCell ⟨b3, 0, none⟩ (.slice A8 (D2.length + 1) c8)) := ((((Fr.refl _ W4).alloc _).grown hg8 (fun j hj => .inl (List.mem_cons_of_mem _ (Option.mem_toList.2 hj)))).setCell ⟨b3, 0, none⟩ _ (.inl (by simp)))
      have hobj : ∀ y ∈ b3 :: ob (.slice MA D2.length mcap), ∃ T vs, Ob W4 y T vs := fun y hy => by
        rcases List.mem_cons.1 hy with rfl | hy
        · exact ⟨_, _, z3'.out⟩
        · exact ob_objS hD2'.out y hy
      have hS : ∀ y ∈ b3 :: ob (.slice MA D2.length mcap), y = b3 ∨ w1.heap.size ≤ y := fun y hy => (List.mem_cons.1 hy).imp id (fun h => (hobD y h).1)
      have hkd : ∀ y ∈ b3 :: ob (.slice MA D2.length mcap), ∃ E ds d, W4.heap[y]? = some (.cells ds E d) ∧ (E = 78 ∧ y = b3 ∨ E = 3) := fun y hy => by
        rcases List.mem_cons.1 hy with rfl | hy
        · have h := z3'.out
          unfold Ob at h
          exact ⟨_, _, _, h, .inl ⟨rfl, rfl⟩⟩
        · obtain ⟨ds, d, hd⟩ := own_kind hD2'.out hy
          exact ⟨_, ds, d, hd, .inr rfl⟩
      have o9 := o8.out.set 0 (.slice A8 (D2.length + 1) c8)
      have hown : OwnZ (w8.setCell ⟨b3, 0, none⟩ (.slice A8 (D2.length + 1) c8)) w1.heap.size (.slice A8 (D2.length + 1) c8) (D2 ++ [x]) := own_appZ (own_fr ho8 ((Fr.refl [b3] w8).setCell ⟨b3, 0, none⟩ (.slice A8 (D2.length + 1) c8) (.inl (by simp))) (by intro y hy; rw [List.mem_singleton.1 hy]; exact hzw1))
      have hjn : bj ∉ b3 :: ob (.slice MA D2.length mcap) := fun hm => by
        obtain ⟨E, ds, d, hd, he⟩ := hkd _ hm
        have h := zj'.out
        unfold Ob at h
        rw [h] at hd
        cases hd
        rcases he with ⟨e, -⟩ | e
        · exact absurd e (by decide)
        · exact absurd e (by decide)
      refine ⟨keeps_fr hF hobj, ⟨_, _, o9, hown, ?_, by rw [List.length_append, List.length_singleton]; omega⟩, ⟨zj'.out.fr hF hjn, ?_⟩, hTh'.out.fr hF (by omega) (fun y hy => ⟨?_, .inl (hobj y hy), fun hB T us hT ho => ?_⟩), ext_fr hX4'.out hF (fun y hy => by rcases hS y hy with h | h <;> omega), by have := hF.size; omega⟩
      · rw [hD2e.out, hnx.out, List.map_append, List.append_assoc]
        rfl
      · refine own_away hf4'.out hF (fun y hy hm => ?_)
        obtain ⟨E, ds, d, hd, he⟩ := hkd _ hy
        obtain ⟨ds2, d2, hd2⟩ := own_kind hf4'.out hm
        rw [hd] at hd2
        cases hd2
        rcases he with ⟨e, -⟩ | e
        · exact absurd e (by decide)
        · exact absurd e (by decide)
      · rcases hS y hy with h | h
        · exact .inr (by simp [h])
        · exact .inl h
      · obtain ⟨E, ds, d, hd, he⟩ := hkd _ hy
        unfold Ob at ho
        rw [ho] at hd
        cases hd
        rcases he with ⟨-, e⟩ | e
        · omega
        · exact hT e
  case done =>
    rintro D W hD ⟨⟨mv, D1, o3, hD1, hDe, hDl⟩, hXk, hzk⟩ hK
    rw [List.take_of_length_le (Nat.le_refl _), hM.out] at hDe
    have hno := Ob.not_own o3 hD1 (by decide)
    have hobD := ob_ge hD1
    have k3 := o3.cell 0 rfl
    have l3 := o3.lt
    haveI : In b3 W := ⟨l3⟩
    have hs := hide (isort_c w1.heap.size D1 mv W hD1 (by omega))
    have hDn : D ∉ ob mv := fun hm => by
      obtain ⟨ds, d, hd⟩ := own_kind hD1 hm
      rw [hK] at hd
      cases hd
    have hsl := hide (srt_len D1)
    obtain ⟨MA, mcap, rfl⟩ := own_form hD1
    have o3' := hide o3
    have hXk' := hide hXk
    have hK' := hide hK
    replace hDe := hide hDe
    clear o3 hXk hK hD1
    go_wp2_with (first | (go_at_call 110; refine hs.out.mono ?_; rintro ee w8 ⟨rfl, ho8, hF8⟩; have o8 := o3'.out.fr hF8 (fun hm => hno (Option.mem_toList.1 hm)); have k8 := o8.cell 0 rfl; have l8 := o8.lt; (haveI : In b3 w8 := ⟨l8⟩); have hcp := hide (icompact_c w1.heap.size (srt D1) (.slice MA D1.length mcap) w8 ho8 (by rw [hsl.out]; omega)); replace hF8 := hide hF8; clear ho8 o8) | (go_at_call 172; refine hcp.out.mono ?_; rintro ee w9 ⟨v9, rfl, ho9, hF9⟩; obtain ⟨A9, c9, q9⟩ := own_form ho9; subst q9; replace ho9 := hide ho9; replace hF9 := hide hF9))
    have hF := hF8.out.trans hF9.out
    have hK9 : w9.heap[D]? = some (.deferred (some [])) := (hF.block D (lt_of_block hK'.out) hDn).trans hK'.out
    have h5 := (Stab.own (B := 0) _ _ _ _ _ _).put _ D _ (.deferred none) ho9.out (Nat.zero_le _) hK9 rfl
    refine ret_mark hK9 (v := .tuple #[.slice A9 (Go.Lib.compact (srt D1)).length c9, .int .i64 0]) (by simp [results, Tryz.f136, go_sem]) ⟨_, rfl, ?_, put_ext (ext_fr hXk'.out hF (fun y hy => by have := (hobD y hy).1; omega)) (by omega) _⟩
    rw [show csT (eds L) = insAll D1 by rw [hDe.out]; rfl, ← compact_ins D1]
    exact own_base h5 hzw
end Go.Proofs.YtljkneajdndgjaaGreat
set_option linter.unusedVariables false
set_option linter.unusedSimpArgs false
namespace Go.Proofs.YtljkneajdndgjaaGreat
open Go.RowKit
attribute [local go_sem] GW.cell GW.frozen In.eq_true In.le_true In.ne In.ne' In.ne_add In.ne_add' In.lt_add Upto.le_true Upto.le_add Upto.lt_add
theorem ext_drewN (w : World) (q : Nat) : Ext w (w.drewN q) := by
  induction q with
  | zero => exact Ext.refl w
  | succ q ih => exact ih.drew
def sbN (D : List Int) (x : Int) : Nat := D.countP (· < x)
theorem ibin_c (B : Nat) (D : List Int) (x : Int) (v : Value) (w : World) (h : OwnZ w B v D) (hn : D.length ≤ 1000000000) (hs : D.Pairwise (· ≤ ·)) : Calls Tryz.prog 89 #[v, .int .i64 x] w fun e w' => e = .returned (.tuple #[.int .i64 (sbN D x : Nat), .bool (D.contains x)]) ∧ Ext w w' := by
  rcases h.2 with ⟨rfl, h0⟩ | ⟨g, cap, cur, rfl, hb, hg, hnc, hcm, hcs, ht⟩
  · obtain rfl : D = [] := List.eq_nil_of_length_eq_zero (by simpa using h0)
    refine (Tryz.slices_BinarySearch_int_empty none 0 x w).mono ?_
    rintro e w' ⟨rfl, rfl⟩
    exact ⟨rfl, Ext.refl _⟩
  · refine (Tryz.slices_BinarySearch_int g 0 D.length cap D x w (Nat.le_refl _) (by omega) (fun j hj => ?_) (by rw [List.take_length]; exact hs)).mono ?_
    · have h1 := World.ownsRow.cellAt h j (by omega)
      rw [Nat.zero_add, h1]
      simp [zc, hj]
    · rintro e w' ⟨rfl, q, rfl⟩
      rw [List.take_length]
      exact ⟨rfl, ext_drewN w q⟩
def ssE (l : List Ed) (n t : Int) : Int := if 1 ≤ n ∧ n ≤ 64 then (if csE l = 0 then (if 0 ≤ t ∧ t ≤ 1125899906842624 then 0 else 13) else csE l) else 2
def ssL (l : List Ed) (n t : Int) : List Int := if ssE l n t = 0 then csT l else []
set_option maxHeartbeats 4000000 in
set_option maxRecDepth 100000 in
theorem startsFor_c (L : List Ve) (n t : Int) (v : Value) (w : World) (hC : Ew w [] v L) : Calls Tryz.prog 88 #[v, .int .i64 n, .int .i64 t] w fun e w' => ∃ v', e = .returned (.tuple #[v', .int .i64 (ssE (eds L) n t)]) ∧ OwnZ w' w.heap.size v' (ssL (eds L) n t) ∧ Ext w w' := by
  have hs := hide (cstarts_c L v w hC)
  obtain ⟨A, cap, rfl, hlc, hlm, -⟩ := ew_form hC
  clear hC
  by_cases c1 : n < 1
  · have e1 : ssE (eds L) n t = 2 := by unfold ssE; rw [if_neg (by omega)]
    have e2 : ssL (eds L) n t = [] := by unfold ssL; rw [e1]; rfl
    rw [e1, e2]
    clear e1 e2
    go_enter Tryz.func88, Tryz.ntmps88
    go_wp2_with fail
    go_returns
    exact ⟨_, rfl, World.ownsRow_nil _ _ _ _, Ext.refl _⟩
  by_cases c2 : 64 < n
  · have e1 : ssE (eds L) n t = 2 := by unfold ssE; rw [if_neg (by omega)]
    have e2 : ssL (eds L) n t = [] := by unfold ssL; rw [e1]; rfl
    rw [e1, e2]
    clear e1 e2
    go_enter Tryz.func88, Tryz.ntmps88
    go_wp2_with fail
    go_returns
    exact ⟨_, rfl, World.ownsRow_nil _ _ _ _, Ext.refl _⟩
  obtain ⟨E, hE⟩ : ∃ E, E = csE (eds L) := ⟨_, rfl⟩
  obtain ⟨D, hD⟩ : ∃ D, D = csL (eds L) := ⟨_, rfl⟩
  rw [← hE, ← hD] at hs
  by_cases hE0 : E = 0
  case neg =>
    have e1 : ssE (eds L) n t = E := by unfold ssE; rw [if_pos (by omega), if_neg (by rw [← hE]; exact hE0), hE]
    have e2 : ssL (eds L) n t = [] := by unfold ssL; rw [e1, if_neg hE0]
    rw [e1, e2]
    have hb : (E != 0) = true := by simpa using hE0
    replace hE := hide hE
    replace hD := hide hD
    clear e1 e2
    go_enter Tryz.func88, Tryz.ntmps88
    go_wp2_with (go_at_call 136; refine hs.out.mono ?_; rintro ee w1 ⟨v1, rfl, ho1, hX1⟩; have hX2 := hide hX1; obtain ⟨A1, c1, q1⟩ := own_form ho1; subst q1; clear ho1 hX1)
    go_returns
    exact ⟨_, rfl, World.ownsRow_nil _ _ _ _, hX2.out⟩
  subst hE0
  have hDe : D = csT (eds L) := by rw [hD]; unfold csL; rw [← hE, if_pos rfl]
  by_cases c3 : t < 0
  · have e1 : ssE (eds L) n t = 13 := by unfold ssE; rw [if_pos (by omega), if_pos hE.symm, if_neg (by omega)]
    have e2 : ssL (eds L) n t = [] := by unfold ssL; rw [e1]; rfl
    rw [e1, e2]
    replace hE := hide hE
    replace hD := hide hD
    replace hDe := hide hDe
    clear e1 e2
    go_enter Tryz.func88, Tryz.ntmps88
    go_wp2_with (go_at_call 136; refine hs.out.mono ?_; rintro ee w1 ⟨v1, rfl, ho1, hX1⟩; have hX2 := hide hX1; obtain ⟨A1, c1, q1⟩ := own_form ho1; subst q1; clear ho1 hX1)
    go_returns
    exact ⟨_, rfl, World.ownsRow_nil _ _ _ _, hX2.out⟩
  by_cases c4 : 1125899906842624 < t
  · have e1 : ssE (eds L) n t = 13 := by unfold ssE; rw [if_pos (by omega), if_pos hE.symm, if_neg (by omega)]
    have e2 : ssL (eds L) n t = [] := by unfold ssL; rw [e1]; rfl
    rw [e1, e2]
    replace hE := hide hE
    replace hD := hide hD
    replace hDe := hide hDe
    clear e1 e2
    go_enter Tryz.func88, Tryz.ntmps88
    go_wp2_with (go_at_call 136; refine hs.out.mono ?_; rintro ee w1 ⟨v1, rfl, ho1, hX1⟩; have hX2 := hide hX1; obtain ⟨A1, c1, q1⟩ := own_form ho1; subst q1; clear ho1 hX1)
    go_returns
    exact ⟨_, rfl, World.ownsRow_nil _ _ _ _, hX2.out⟩
  have e1 : ssE (eds L) n t = 0 := by unfold ssE; rw [if_pos (by omega), if_pos hE.symm, if_pos (by omega)]
  have e2 : ssL (eds L) n t = D := by unfold ssL; rw [e1, if_pos rfl, hDe]
  rw [e1, e2]
  replace hE := hide hE
  replace hD := hide hD
  replace hDe := hide hDe
  clear e1 e2
  go_enter Tryz.func88, Tryz.ntmps88
  go_wp2_with (go_at_call 136; refine hs.out.mono ?_; rintro ee w1 ⟨v1, rfl, ho1, hX1⟩; have hX2 := hide hX1; have ho2 := hide ho1; obtain ⟨A1, c1, q1⟩ := own_form ho1; subst q1; clear ho1 hX1)
  go_returns
  exact ⟨_, rfl, ho2.out, hX2.out⟩
end Go.Proofs.YtljkneajdndgjaaGreat
set_option linter.unusedVariables false
set_option linter.unusedSimpArgs false
namespace Go.Proofs.YtljkneajdndgjaaGreat
open Go.RowKit
attribute [local go_sem] GW.cell GW.frozen In.eq_true In.le_true In.ne In.ne' In.ne_add In.ne_add' In.lt_add Upto.le_true Upto.le_add Upto.lt_add
theorem csR_len : ∀ (G : List Gp), (∀ g ∈ G, g.2.length ≤ 1024) → (csR G).length ≤ G.length * 1024
  | [], _ => by simp [csR]
  | g :: G, h => by
    have h1 := csR_len G (fun x hx => h x (List.mem_cons_of_mem _ hx))
    have h2 := h g (by simp)
    have h3 := incL_len g.2
    rw [show csR (g :: G) = (incL g.2).map Prod.fst ++ csR G from rfl, List.length_append, List.length_map, List.length_cons]
    omega
theorem csT_asc (l : List Ed) : (csT l).Pairwise (· < ·) := insAll_asc _
theorem csT_len {l : List Ed} (hm : mayE l = true) : (csT l).length ≤ 4194304 := by
  have h1 := nodup_len (csT l) (csR (grp l)) (asc_nodup (csT_asc l)) (fun x hx => (insAll_mem _ x).1 hx)
  have h2 := csR_len (grp l) (fun g hg => mayJ_len ((mayE_iff.1 hm).2.2 g hg))
  have h3 := grp_len2 l
  have h4 := mayE_len hm
  omega
def coI (D : List Int) (n t : Int) : Nat := sbN D t - (n - 1).toNat
def coV (l : List Ed) (n t : Int) : Int := if ssE l n t = 0 then (if t = 1125899906842624 then 1125899906842624 else if coI (csT l) n t < sbN (csT l) t then (csT l).getD (coI (csT l) n t) 0 else t) else 0
theorem ssE_ok {l : List Ed} {n t : Int} (h : ssE l n t = 0) : (1 ≤ n ∧ n ≤ 64) ∧ (mayE l = true ∧ tabE l = true) ∧ (0 ≤ t ∧ t ≤ 1125899906842624) := by
  unfold ssE at h
  split at h
  case isFalse => exact absurd h (by decide)
  rename_i h1
  split at h
  case isFalse h2 => exact absurd h h2
  rename_i h2
  split at h
  case isFalse => exact absurd h (by decide)
  rename_i h3
  refine ⟨h1, ?_, h3⟩
  unfold csE at h2
  split at h2
  case isFalse => exact absurd h2 (by decide)
  rename_i h4
  split at h2
  case isFalse => exact absurd h2 (by decide)
  exact ⟨h4, by assumption⟩
set_option maxHeartbeats 4000000 in
set_option maxRecDepth 100000 in
theorem copen_c (L : List Ve) (n t : Int) (v : Value) (w : World) (hC : Ew w [] v L) : Calls Tryz.prog 34 #[v, .int .i64 n, .int .i64 t] w fun e w' => e = .returned (.tuple #[.int .i64 (coV (eds L) n t), .int .i64 (ssE (eds L) n t)]) ∧ Ext w w' := by
  have hs := hide (startsFor_c L n t v w hC)
  obtain ⟨A, cap, rfl, hlc, hlm, -⟩ := ew_form hC
  clear hC
  obtain ⟨E, hE⟩ : ∃ E, E = ssE (eds L) n t := ⟨_, rfl⟩
  obtain ⟨D, hD⟩ : ∃ D, D = ssL (eds L) n t := ⟨_, rfl⟩
  rw [← hE, ← hD] at hs
  rw [← hE]
  by_cases hE0 : E = 0
  case neg =>
    have e1 : coV (eds L) n t = 0 := by unfold coV; rw [← hE, if_neg hE0]
    rw [e1]
    have hb : (E != 0) = true := by simpa using hE0
    replace hE := hide hE
    replace hD := hide hD
    clear e1
    go_enter Tryz.func34, Tryz.ntmps34
    go_wp2_with (go_at_call 88; refine hs.out.mono ?_; rintro ee w1 ⟨v1, rfl, ho1, hX1⟩; have hX2 := hide hX1; obtain ⟨A1, c1, q1⟩ := own_form ho1; subst q1; clear ho1 hX1)
    go_returns
    exact ⟨by first | rfl | simp, hX2.out⟩
  subst hE0
  obtain ⟨⟨n1, n2⟩, ⟨hm, -⟩, t1, t2⟩ := ssE_ok hE.symm
  have hDe : D = csT (eds L) := by rw [hD]; unfold ssL; rw [← hE, if_pos rfl]
  have hDl : D.length ≤ 4194304 := by rw [hDe]; exact csT_len hm
  have hDa : Hid (D.Pairwise (· < ·)) := by rw [hDe]; exact csT_asc _
  by_cases c1 : t = 1125899906842624
  · have e1 : coV (eds L) n t = 1125899906842624 := by unfold coV; rw [← hE, if_pos rfl, if_pos c1]
    rw [e1]
    subst c1
    replace hE := hide hE
    replace hD := hide hD
    replace hDe := hide hDe
    replace hm := hide hm
    clear e1
    go_enter Tryz.func34, Tryz.ntmps34
    go_wp2_with (go_at_call 88; refine hs.out.mono ?_; rintro ee w1 ⟨v1, rfl, ho1, hX1⟩; have hX2 := hide hX1; obtain ⟨A1, c1, q1⟩ := own_form ho1; subst q1; clear ho1 hX1)
    go_returns
    exact ⟨by first | rfl | simp, hX2.out⟩
  have hb : (t == 1125899906842624) = false := by simpa using c1
  have hv : coV (eds L) n t = if coI D n t < sbN D t then D.getD (coI D n t) 0 else t := by unfold coV; rw [← hE, if_pos rfl, if_neg c1, hDe]
  have hcl : sbN D t ≤ D.length := List.countP_le_length
  obtain ⟨c, hc⟩ : ∃ c, c = sbN D t := ⟨_, rfl⟩
  obtain ⟨i, hi⟩ : ∃ i, i = coI D n t := ⟨_, rfl⟩
  have hi2 : i = c - (n - 1).toNat := by rw [hi, hc]; rfl
  rw [← hi, ← hc] at hv
  rw [← hc] at hcl
  have hbs := hide (fun v w' (h : OwnZ w' w.heap.size v D) => ibin_c w.heap.size D t v w' h (by omega) (hDa.out.imp fun {a b} h => by omega))
  rw [← hc] at hbs
  have hmax : max ((c : Int) - (n - 1)) 0 = (i : Int) := by omega
  rw [hv]
  replace hE := hide hE
  replace hD := hide hD
  replace hDe := hide hDe
  replace hm := hide hm
  replace hc := hide hc
  replace hi := hide hi
  replace hi2 := hide hi2
  clear hv
  by_cases hlt : i < c
  · have hgd : D[i]? = some (D.getD i 0) := by rw [List.getD_eq_getElem?_getD, List.getElem?_eq_getElem (by omega)]; rfl
    obtain ⟨x, hx⟩ : ∃ x, x = D.getD i 0 := ⟨_, rfl⟩
    rw [if_pos hlt, ← hx]
    rw [← hx] at hgd
    replace hx := hide hx
    go_enter Tryz.func34, Tryz.ntmps34
    go_wp2_with (first | (go_at_call 88; refine hs.out.mono ?_; rintro ee w1 ⟨v1, rfl, ho1, hX1⟩; have hX2 := hide hX1; have ho2 := hide ho1; have hb2 := hide (hbs.out v1 w1 ho1); obtain ⟨A1, cp1, q1⟩ := own_form ho1; subst q1; clear ho1 hX1) | (go_at_call 89; refine hb2.out.mono ?_; rintro ee w2 ⟨rfl, hX3⟩; obtain ⟨A', cp', e', -, -, hat⟩ := zw_form (own_zw (own_ext ho2.out hX3)); simp only [Value.slice.injEq] at e'; obtain ⟨rfl, -, rfl⟩ := e'; obtain ⟨g, o, rfl, -, hgl, k0⟩ := hat i x hgd; (haveI : In g w2 := ⟨hgl⟩); replace hX3 := hide hX3; clear hat))
    go_returns
    exact ⟨by first | rfl | simp, hX2.out.trans hX3.out⟩
  · rw [if_neg hlt]
    go_enter Tryz.func34, Tryz.ntmps34
    go_wp2_with (first | (go_at_call 88; refine hs.out.mono ?_; rintro ee w1 ⟨v1, rfl, ho1, hX1⟩; have hX2 := hide hX1; have ho2 := hide ho1; have hb2 := hide (hbs.out v1 w1 ho1); obtain ⟨A1, cp1, q1⟩ := own_form ho1; subst q1; clear ho1 hX1) | (go_at_call 89; refine hb2.out.mono ?_; rintro ee w2 ⟨rfl, hX3⟩; replace hX3 := hide hX3))
    go_returns
    exact ⟨by first | rfl | simp, hX2.out.trans hX3.out⟩
end Go.Proofs.YtljkneajdndgjaaGreat
