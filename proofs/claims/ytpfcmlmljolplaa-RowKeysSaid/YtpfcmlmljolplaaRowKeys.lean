/-
  Layer 6 (row), 6.5: two rows have one key just if they are the same: for every two rows. No condition.
-/
import Derived.Test.YtpfcmlmljolplaaRowL
import Derived.Test.YtpfcmlmljolplaaArgV
import Derived.Test.YtpfcmlmljolplaaRowY
import Derived.WalkKit
import Derived.ProofKit
import Derived.OpenShut
import Derived.ShutString
import Derived.ChangeOld
import Derived.Below
import Derived.Lib.SmallJoins
import Derived.SizedLaws
import Derived.Deep.CondSized
import Derived.JoinedCond
set_option linter.unusedVariables false
set_option linter.unusedSimpArgs false
namespace Go.Proofs.Ytpfcmlmljolplaa.rowKeys
open Go.ChangeShapes Go.WideShapes Go.ChangeAt Go.RowKit Go.Joins
open Go.ChangeMaps (open_string shut_string)
attribute [local go_sem] GW.cell GW.frozen In.eq_true In.le_true In.ne In.ne' In.ne_add In.ne_add' In.lt_add Upto.le_true Upto.le_add Upto.lt_add

set_option maxHeartbeats 8000000 in
set_option maxRecDepth 100000 in
theorem walk (a b : List Vl) (v1 v2 : Value) (w : World) (ha : Rw w [] v1 a) (hb : Rw w [] v2 b) (na : ∀ x ∈ a, inI x.2.1) (nb : ∀ x ∈ b, inI x.2.1) : Calls Try.prog 7 #[v1, v2] w fun e w' => e = .returned (.bool true) ∧ Ext w w' := by
  have ma := hide (fun w' (hX : Ext w w') => rowMay_c a v1 w' (Sl.ext ha hX))
  have mb := hide (fun w' (hX : Ext w w') => rowMay_c b v2 w' (Sl.ext hb hX))
  have ka := hide (fun w' (hX : Ext w w') => rowKey_c a na v1 w' (Sl.ext ha hX))
  have kb := hide (fun w' (hX : Ext w w') => rowKey_c b nb v2 w' (Sl.ext hb hX))
  have hq := hide (fun w' (hX : Ext w w') => refRowSame_c (Sl.ext ha hX) (Sl.ext hb hX))
  clear ha hb
  cases h1 : mayR a
  · rw [h1] at ma
    clear h1
    go_enter Try.func7, Try.ntmps7
    go_wp2_with (first | (go_at_call 15; (first | (with_reducible refine seq_gw' (ma.out _ (by repeat (first | exact Ext.refl _ | with_reducible assumption | refine Ext.alloc ?_ _ | refine Ext.drew ?_ | refine ext_gw ?_ _))) ?_) | (with_reducible refine seq_gw (ma.out _ (by repeat (first | exact Ext.refl _ | with_reducible assumption | refine Ext.alloc ?_ _ | refine Ext.drew ?_ | refine ext_gw ?_ _))) ?_) | (with_reducible refine seq_gw' (mb.out _ (by repeat (first | exact Ext.refl _ | with_reducible assumption | refine Ext.alloc ?_ _ | refine Ext.drew ?_ | refine ext_gw ?_ _))) ?_) | (with_reducible refine seq_gw (mb.out _ (by repeat (first | exact Ext.refl _ | with_reducible assumption | refine Ext.alloc ?_ _ | refine Ext.drew ?_ | refine ext_gw ?_ _))) ?_)); intro g) | (go_at_call 27; (first | (with_reducible refine seq_gw' (ka.out _ (by repeat (first | exact Ext.refl _ | with_reducible assumption | refine Ext.alloc ?_ _ | refine Ext.drew ?_ | refine ext_gw ?_ _))) ?_) | (with_reducible refine seq_gw (ka.out _ (by repeat (first | exact Ext.refl _ | with_reducible assumption | refine Ext.alloc ?_ _ | refine Ext.drew ?_ | refine ext_gw ?_ _))) ?_) | (with_reducible refine seq_gw' (kb.out _ (by repeat (first | exact Ext.refl _ | with_reducible assumption | refine Ext.alloc ?_ _ | refine Ext.drew ?_ | refine ext_gw ?_ _))) ?_) | (with_reducible refine seq_gw (kb.out _ (by repeat (first | exact Ext.refl _ | with_reducible assumption | refine Ext.alloc ?_ _ | refine Ext.drew ?_ | refine ext_gw ?_ _))) ?_)); intro g) | (go_at_call 18; (first | (with_reducible refine seq_gw' (hq.out _ (by repeat (first | exact Ext.refl _ | with_reducible assumption | refine Ext.alloc ?_ _ | refine Ext.drew ?_ | refine ext_gw ?_ _))) ?_) | (with_reducible refine seq_gw (hq.out _ (by repeat (first | exact Ext.refl _ | with_reducible assumption | refine Ext.alloc ?_ _ | refine Ext.drew ?_ | refine ext_gw ?_ _))) ?_)); intro g) | (go_at_call 17; (first | (with_reducible refine seq_gw' (rowLive_c _) ?_) | (with_reducible refine seq_gw (rowLive_c _) ?_)); intro g))
    go_returns
    exact ⟨rfl, g.grown⟩
  cases h2 : mayR b
  · rw [h1] at ma
    rw [h2] at mb
    clear h1 h2
    go_enter Try.func7, Try.ntmps7
    go_wp2_with (first | (go_at_call 15; (first | (with_reducible refine seq_gw' (ma.out _ (by repeat (first | exact Ext.refl _ | with_reducible assumption | refine Ext.alloc ?_ _ | refine Ext.drew ?_ | refine ext_gw ?_ _))) ?_) | (with_reducible refine seq_gw (ma.out _ (by repeat (first | exact Ext.refl _ | with_reducible assumption | refine Ext.alloc ?_ _ | refine Ext.drew ?_ | refine ext_gw ?_ _))) ?_) | (with_reducible refine seq_gw' (mb.out _ (by repeat (first | exact Ext.refl _ | with_reducible assumption | refine Ext.alloc ?_ _ | refine Ext.drew ?_ | refine ext_gw ?_ _))) ?_) | (with_reducible refine seq_gw (mb.out _ (by repeat (first | exact Ext.refl _ | with_reducible assumption | refine Ext.alloc ?_ _ | refine Ext.drew ?_ | refine ext_gw ?_ _))) ?_)); intro g) | (go_at_call 27; (first | (with_reducible refine seq_gw' (ka.out _ (by repeat (first | exact Ext.refl _ | with_reducible assumption | refine Ext.alloc ?_ _ | refine Ext.drew ?_ | refine ext_gw ?_ _))) ?_) | (with_reducible refine seq_gw (ka.out _ (by repeat (first | exact Ext.refl _ | with_reducible assumption | refine Ext.alloc ?_ _ | refine Ext.drew ?_ | refine ext_gw ?_ _))) ?_) | (with_reducible refine seq_gw' (kb.out _ (by repeat (first | exact Ext.refl _ | with_reducible assumption | refine Ext.alloc ?_ _ | refine Ext.drew ?_ | refine ext_gw ?_ _))) ?_) | (with_reducible refine seq_gw (kb.out _ (by repeat (first | exact Ext.refl _ | with_reducible assumption | refine Ext.alloc ?_ _ | refine Ext.drew ?_ | refine ext_gw ?_ _))) ?_)); intro g) | (go_at_call 18; (first | (with_reducible refine seq_gw' (hq.out _ (by repeat (first | exact Ext.refl _ | with_reducible assumption | refine Ext.alloc ?_ _ | refine Ext.drew ?_ | refine ext_gw ?_ _))) ?_) | (with_reducible refine seq_gw (hq.out _ (by repeat (first | exact Ext.refl _ | with_reducible assumption | refine Ext.alloc ?_ _ | refine Ext.drew ?_ | refine ext_gw ?_ _))) ?_)); intro g) | (go_at_call 17; (first | (with_reducible refine seq_gw' (rowLive_c _) ?_) | (with_reducible refine seq_gw (rowLive_c _) ?_)); intro g))
    go_returns
    exact ⟨rfl, g.grown⟩
  have hinj := rowB_inj h1 h2 na nb
  have hk : ((⟨(rowB a).toArray⟩ : ByteArray).toList == (⟨(rowB b).toArray⟩ : ByteArray).toList) = decide (a = b) := by
    rw [Lib.toList_data, Lib.toList_data]
    by_cases h : a = b
    · subst h; simp
    · rw [decide_eq_false h, beq_eq_false_iff_ne]
      intro e
      exact h (hinj.1 (by simpa using e))
  generalize (⟨(rowB a).toArray⟩ : ByteArray) = A at *
  generalize (⟨(rowB b).toArray⟩ : ByteArray) = B at *
  generalize decide (a = b) = q at *
  rw [h1] at ma
  rw [h2] at mb
  clear h1 h2 hinj na nb
  cases q
  all_goals
    go_enter Try.func7, Try.ntmps7
    go_wp2_with (first | (go_at_call 15; (first | (with_reducible refine seq_gw' (ma.out _ (by repeat (first | exact Ext.refl _ | with_reducible assumption | refine Ext.alloc ?_ _ | refine Ext.drew ?_ | refine ext_gw ?_ _))) ?_) | (with_reducible refine seq_gw (ma.out _ (by repeat (first | exact Ext.refl _ | with_reducible assumption | refine Ext.alloc ?_ _ | refine Ext.drew ?_ | refine ext_gw ?_ _))) ?_) | (with_reducible refine seq_gw' (mb.out _ (by repeat (first | exact Ext.refl _ | with_reducible assumption | refine Ext.alloc ?_ _ | refine Ext.drew ?_ | refine ext_gw ?_ _))) ?_) | (with_reducible refine seq_gw (mb.out _ (by repeat (first | exact Ext.refl _ | with_reducible assumption | refine Ext.alloc ?_ _ | refine Ext.drew ?_ | refine ext_gw ?_ _))) ?_)); intro g) | (go_at_call 27; (first | (with_reducible refine seq_gw' (ka.out _ (by repeat (first | exact Ext.refl _ | with_reducible assumption | refine Ext.alloc ?_ _ | refine Ext.drew ?_ | refine ext_gw ?_ _))) ?_) | (with_reducible refine seq_gw (ka.out _ (by repeat (first | exact Ext.refl _ | with_reducible assumption | refine Ext.alloc ?_ _ | refine Ext.drew ?_ | refine ext_gw ?_ _))) ?_) | (with_reducible refine seq_gw' (kb.out _ (by repeat (first | exact Ext.refl _ | with_reducible assumption | refine Ext.alloc ?_ _ | refine Ext.drew ?_ | refine ext_gw ?_ _))) ?_) | (with_reducible refine seq_gw (kb.out _ (by repeat (first | exact Ext.refl _ | with_reducible assumption | refine Ext.alloc ?_ _ | refine Ext.drew ?_ | refine ext_gw ?_ _))) ?_)); intro g) | (go_at_call 18; (first | (with_reducible refine seq_gw' (hq.out _ (by repeat (first | exact Ext.refl _ | with_reducible assumption | refine Ext.alloc ?_ _ | refine Ext.drew ?_ | refine ext_gw ?_ _))) ?_) | (with_reducible refine seq_gw (hq.out _ (by repeat (first | exact Ext.refl _ | with_reducible assumption | refine Ext.alloc ?_ _ | refine Ext.drew ?_ | refine ext_gw ?_ _))) ?_)); intro g) | (go_at_call 17; (first | (with_reducible refine seq_gw' (rowLive_c _) ?_) | (with_reducible refine seq_gw (rowLive_c _) ?_)); intro g))
    go_returns
    exact ⟨by first | rfl | simp, g.grown⟩

theorem own : ownKnob Try.prog.godebug = none := by kernel_rfl
theorem laidOut : laidOutB Try.prog = true := by kernel_rfl
set_option maxRecDepth 100000 in
theorem lifted (os : Os) (started : os.Started) (H : Type) (enc : TypeId × Value → H) :
    ReturnsInHanded {} Try.checked os 7 .any (Rows.rowKeysSpec.pre6 enc Try.prog Try.f7 Rows.rowKeysRow.domain false) (Rows.rowKeysSpec.post enc Try.prog Try.f7 false true false false) := by
  refine returnsInHanded_of_change_sized (C := Try.checked) own started (by kernel_rfl) Try.func7
    (ChangeSpec.witness6 (enc := enc) (C := Try.checked) false ⟨#[], #[.slice none 0 0, .slice none 0 0], []⟩ 8 (by kernel_rfl) (by kernel_rfl) (by kernel_rfl) (by kernel_rfl)) ?_
  intro W base args ds gs before hval0 hW hcnd hsz0 _
  have hsz : (DataW.weightsEach Try.prog (Try.f7.params.toList ++ Rows.rowKeysSpec.plain.varTypes Try.prog) (ds ++ gs)).all (· ≤ reachBytes) = true := hsz0
  clear hsz0
  have hval : ∀ (j : Nat) t v, Try.f7.params[j]? = some t → args[j]? = some v → Value.okWide Try.prog W .any base t v := hval0
  have hW' := hW
  obtain ⟨p, q, hA0, hV, rfl, hfz, hnd⟩ := hW
  have hA : DataW.TrodAll enc Try.prog W 0 (fun _ => true) true Try.f7.params.toList args.toList ds p := hA0
  rw [Try.params7] at hA hval hsz
  obtain ⟨v0, vs0, d0, ds0, p0, q0, hargs, rfl, rfl, h0, r0⟩ := trodAll_cons hA
  obtain ⟨v1, vs1, d1, ds1, p1, q1, rfl, rfl, rfl, h1, r1⟩ := trodAll_cons r0
  obtain ⟨rfl, rfl, rfl⟩ := trodAll_nil r1
  obtain rfl : args = #[v0, v1] := by cases args; simp_all
  obtain ⟨rfl, rfl⟩ := trodVars_none hV
  have k0 := h0
  have lt0 : ∀ x ∈ p0, x.block < W.heap.size := by obtain ⟨m, hm⟩ := k0; exact DataW.trod_lt m _ _ _ hm
  obtain ⟨A0, n0, c0, rfl⟩ := okWide_slice Try.underlying23 (hval 0 23 v0 rfl rfl)
  have ⟨m0, hm0⟩ := h0
  obtain ⟨a, la, ha, qa⟩ := open_row Try.underlying23 Try.underlying32 (by kernel_rfl) rfl rfl rfl (by kernel_rfl) (by kernel_rfl) (by kernel_rfl) Try.underlying30 Try.underlying3 Try.underlying9 hm0
  have za : a.length * 32 ≤ 140737488351232 := by rw [la]; exact sized_elems hsz (j := 0) (t := 23) (e := 32) rfl rfl Try.underlying23 (by kernel_rfl)
  have k1 := h1
  have lt1 : ∀ x ∈ p1, x.block < W.heap.size := by obtain ⟨m, hm⟩ := k1; exact DataW.trod_lt m _ _ _ hm
  obtain ⟨A1, n1, c1, rfl⟩ := okWide_slice Try.underlying23 (hval 1 23 v1 rfl rfl)
  have ⟨m1, hm1⟩ := h1
  obtain ⟨b, lb, hb, qb⟩ := open_row Try.underlying23 Try.underlying32 (by kernel_rfl) rfl rfl rfl (by kernel_rfl) (by kernel_rfl) (by kernel_rfl) Try.underlying30 Try.underlying3 Try.underlying9 hm1
  have zb : b.length * 32 ≤ 140737488351232 := by rw [lb]; exact sized_elems hsz (j := 1) (t := 23) (e := 32) rfl rfl Try.underlying23 (by kernel_rfl)
  clear hA0 hval0
  refine (walk a b _ _ W ha hb qa qb).mono fun e W' ⟨he, bel⟩ => ?_
  subst he
  exact ⟨_, rfl, _, _, _, [], _, [], hW', trodAll_mk1 (shut_bool Try.underlying4 _), (trodAll_cons_mk (Below.trod laidOut (by kernel_rfl) (of_decide_eq_true (by kernel_rfl)) k0 bel lt0) (trodAll_cons_mk (Below.trod laidOut (by kernel_rfl) (of_decide_eq_true (by kernel_rfl)) k1 bel lt1) trodAll_mk0)), rfl, bel.frame _, fun h => by cases h⟩

theorem over : Rows.rowKeysRow.holds Try.pinned (OpenSpec.ofChange Rows.rowKeysSpec) :=
  OpenClaim.holds_of_wide 7 Try.f7 rfl rfl rfl rfl rfl rfl rfl ⟨rfl, rfl, rfl, rfl, rfl⟩ rfl rfl rfl rfl rfl (by kernel_rfl) Try.func7 (by kernel_rfl)
    (of_decide_eq_true (by kernel_rfl)) (by unfold Func.isWrapper; first | (rw [if_pos (by decide +kernel)]; kernel_rfl) | (rw [if_neg (by decide +kernel)]; exact ⟨rfl, rfl⟩))
    (fun os started H enc _ => lifted os started H enc)

theorem rowKeys_holds : Rows.RowKeysSaid := over
end Go.Proofs.Ytpfcmlmljolplaa.rowKeys
