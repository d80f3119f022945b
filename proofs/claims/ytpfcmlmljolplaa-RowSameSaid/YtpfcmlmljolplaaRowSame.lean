/-
  Layer 6 (row), 6.1: for every two rows, whether they are the same is as the document says; a copy is the same, in memory of its own. No condition.
-/
import Derived.Test.YtpfcmlmljolplaaRowL
import Derived.Test.YtpfcmlmljolplaaArgV
import Derived.Test.YtpfcmlmljolplaaRowB
import Derived.WalkKit
import Derived.ProofKit
import Derived.OpenShut
import Derived.ShutString
import Derived.ChangeOld
import Derived.Below
import Derived.Lib.SmallJoins
import Derived.SizedLaws
import Derived.Deep.CondSized
import Derived.JoinedCond
set_option linter.unusedVariables false
set_option linter.unusedSimpArgs false
namespace Go.Proofs.Ytpfcmlmljolplaa.rowSame
open Go.ChangeShapes Go.WideShapes Go.ChangeAt Go.RowKit Go.Joins
open Go.ChangeMaps (open_string shut_string)
attribute [local go_sem] GW.cell GW.frozen In.eq_true In.le_true In.ne In.ne' In.ne_add In.ne_add' In.lt_add Upto.le_true Upto.le_add Upto.lt_add

theorem own_block {w : World} {B : Nat} {v : Value} {l : List Vl} (h : OwnR w B v l) (hne : l ≠ []) : ∃ g cap cs, v = .slice (some ⟨g, 0, none⟩) l.length cap ∧ B ≤ g ∧ Ob w g 32 cs ∧ l.length * 3 ≤ cs.length ∧ l.length ≤ cap ∧ cap ≤ maxLen := by
  have hpos := List.length_pos_iff.2 hne
  rcases h.2 with ⟨_, hz⟩ | ⟨g, cap, cur, rfl, hb, hg, hn, hc, hcs, ht⟩
  · omega
  · refine ⟨g, cap, cur.toList, rfl, hb, by unfold Ob; simpa using hg, ?_, hn, hc⟩
    have e : cur.toList.length = cur.size := Array.length_toList
    omega
theorem cell_fr {w w' : World} {S : List Nat} (h : Fr S w w') {b o : Nat} {u : Value} (hb : b ∉ S) (hc : w.cell? ⟨b, o, none⟩ = some u) : w'.cell? ⟨b, o, none⟩ = some u :=
  (World.cell?_of_block (a := ⟨b, o, none⟩) (h.block b (block_lt_of_cell hc) hb)).trans hc
set_option maxHeartbeats 8000000 in
set_option maxRecDepth 100000 in
theorem walk (a b : List Vl) (v1 v2 : Value) (w : World) (ha : Rw w [] v1 a) (hb : Rw w [] v2 b) (hz : a.length * 32 ≤ 140737488351232) : Calls Try.prog 4 #[v1, v2] w fun e w' => e = .returned (.bool true) ∧ Ext w w' := by
  have hs := hide (rowSame_c ha hb)
  have hr := hide (fun w' (hX : Ext w w') => refRowSame_c (Sl.ext ha hX) (Sl.ext hb hX))
  have hc := hide (fun w' (hX : Ext w w') => rowCopy_c a v1 w' (Sl.ext ha hX) hz)
  have ha' := hide ha
  obtain ⟨A, cap, rfl, hlc, hlm, hat⟩ := rw_form ha
  unfold maxLen at hlm
  replace hat := hide hat
  generalize decide (a = b) = q at *
  clear ha hb
  by_cases hne : a = []
  · subst hne
    go_enter Try.func4, Try.ntmps4
    go_wp2_with (first
      | (go_at_call 19; (with_reducible refine seq_gw hs.out ?_); intro g1)
      | (go_at_call 18; first | ((with_reducible refine seq_gw' (hr.out _ g1.grown) ?_); intro g2) | ((with_reducible refine seq_gw (refRowSame_c cr3 (Sl.ext ha'.out (g2.grown.trans x3))) ?_); rw [decide_eq_true rfl]; intro g4))
      | (go_at_call 20; refine (hc.out _ g2.grown).mono ?_; rintro ee w3 ⟨u3, rfl, o3, x3⟩; have cr3 : Rw w3 [] u3 [] := own_rw (S := []) o3 (by simp); obtain ⟨C, c3, rfl⟩ := own_form o3))
    have hX0 := (g2.grown.trans x3).trans g4.grown
    go_loopg [6] 0 (fun gh i wr => gh = 0 ∧ i = .int .i64 0 ∧ Ext w wr)
    case atStart => exact ⟨rfl, rfl, hX0⟩
    case round =>
      obtain ⟨rfl, rfl, hX⟩ := hrel
      go_wp2_with (go_at_call 17; (with_reducible refine seq_gw (rowLive_c _) ?_); intro g5)
      go_returns
      exact ⟨rfl, hX.trans g5.grown⟩
  · replace hne := hide hne
    go_enter Try.func4, Try.ntmps4
    go_wp2_with (first
      | (go_at_call 19; (with_reducible refine seq_gw hs.out ?_); intro g1)
      | (go_at_call 18; first | ((with_reducible refine seq_gw' (hr.out _ g1.grown) ?_); intro g2) | ((with_reducible refine seq_gw (refRowSame_c cr3 (Sl.ext ha'.out (g2.grown.trans x3))) ?_); rw [decide_eq_true rfl]; intro g4))
      | (go_at_call 20; refine (hc.out _ g2.grown).mono ?_; rintro ee w3 ⟨u3, rfl, o3, x3⟩; have cr3 : Rw w3 [] u3 a := own_rw (S := []) o3 (by simp); obtain ⟨gb, c3, cs0, rfl, hBg, hO, hcs, hc1, hc2⟩ := own_block o3 hne.out))
    unfold maxLen at hc2
    have hX0 := (g2.grown.trans x3).trans g4.grown
    have hO0 := hO.ext g4.grown
    have hgb : w.heap.size ≤ gb := by have := GW.size g2; omega
    clear hO cr3 o3 hBg
    go_loopg [6] a.length (fun gh i wr => ∃ (k : Nat) (cs : List Value), i = .int .i64 k ∧ k + gh = a.length ∧ Ob wr gb 32 cs ∧ a.length * 3 ≤ cs.length ∧ Ext w wr)
    case atStart => exact ⟨0, cs0, rfl, by omega, hO0, hcs, hX0⟩
    case round =>
      obtain ⟨k, cs, rfl, hk, hOb, hcl, hX⟩ := hrel
      clear hO0 hX0 hcs
      by_cases hlt : k < a.length
      · obtain ⟨x, hx⟩ : ∃ x, a[k]? = some x := ⟨_, List.getElem?_eq_getElem hlt⟩
        obtain ⟨b, o, rfl, -, hb', e0, e1, e2⟩ := hat.out k x hx
        have k0 := cell_later hX e0
        have k1 := cell_later hX e1
        have k2 := cell_later hX e2
        have hbr : b < wr.heap.size := block_lt_of_cell k0
        have hOb' := hOb
        have O1 := hide (hOb'.alloc (.cells #[.int .i64 x.1, .int .i64 x.2.1, .string x.2.2] 32))
        have n0 := hOb.cell (k * 3) (List.getElem?_eq_getElem (by omega))
        have n1 := hOb.cell (k * 3 + 1) (List.getElem?_eq_getElem (by omega))
        have n2 := hOb.cell (k * 3 + 2) (List.getElem?_eq_getElem (by omega))
        have z0 := hOb.free (k * 3)
        have z1 := hOb.free (k * 3 + 1)
        have z2 := hOb.free (k * 3 + 2)
        have hgl := hOb.lt
        obtain ⟨xk, xn, xs⟩ := x
        haveI : In gb wr := ⟨hgl⟩
        haveI : In b wr := ⟨hbr⟩
        clear e0 e1 e2 hx
        go_wp2_with fail
        have hF3 : Fr [gb] wr (((wr.setCell ⟨gb, k * 3, none⟩ (.int .i64 7)).setCell ⟨gb, k * 3 + 1, none⟩ (.int .i64 0)).setCell ⟨gb, k * 3 + 2, none⟩ (.string ⟨#[]⟩)) := (((Fr.refl [gb] wr).setCell _ _ (.inl (by simp))).setCell _ _ (.inl (by simp))).setCell _ _ (.inl (by simp))
        have hF4 := hF3.alloc (.cells #[.int .i64 xk, .int .i64 xn, .string xs] 32)
        have hne' : b ∉ [gb] := by simp; omega
        have q0 := cell_fr hF4 hne' k0
        have q1 := cell_fr hF4 hne' k1
        have q2 := cell_fr hF4 hne' k2
        have hOg := (((hOb.set (k * 3) (.int .i64 7)).set (k * 3 + 1) (.int .i64 0)).set (k * 3 + 2) (.string ⟨#[]⟩)).alloc (.cells #[.int .i64 xk, .int .i64 xn, .string xs] 32)
        have hO7 := Ob.new (((wr.setCell ⟨gb, k * 3, none⟩ (.int .i64 7)).setCell ⟨gb, k * 3 + 1, none⟩ (.int .i64 0)).setCell ⟨gb, k * 3 + 2, none⟩ (.string ⟨#[]⟩)) 32 [.int .i64 xk, .int .i64 xn, .string xs]
        have e7 : (((wr.setCell ⟨gb, k * 3, none⟩ (.int .i64 7)).setCell ⟨gb, k * 3 + 1, none⟩ (.int .i64 0)).setCell ⟨gb, k * 3 + 2, none⟩ (.string ⟨#[]⟩)).heap.size = wr.heap.size := by simp
        rw [e7] at hO7
        have hXW := ext_fr hX hF4 (by intro y hy; simp at hy; omega)
        have hsz4 := hF4.size
        generalize ((((wr.setCell ⟨gb, k * 3, none⟩ (.int .i64 7)).setCell ⟨gb, k * 3 + 1, none⟩ (.int .i64 0)).setCell ⟨gb, k * 3 + 2, none⟩ (.string ⟨#[]⟩)).alloc (.cells #[.int .i64 xk, .int .i64 xn, .string xs] 32)) = W4 at *
        have p0 := hO7.cell 0 rfl
        have p1 := hO7.cell 1 rfl
        have p2 := hO7.cell 2 rfl
        have hlt7 := hO7.lt
        have hb4 : b < W4.heap.size := by omega
        have hns := neq_same xk xn xs
        clear n0 n1 n2 z0 z1 z2 k0 k1 k2 O1 hOb hOb' hF3 hF4 e7 hX
        go_quiet (fail)
        go_wp2_with fail
        go_roundg (a.length - (k + 1))
        case measure => omega
        case rel => exact ⟨k + 1, _, by go_num, by omega, hOg, by simp only [List.length_set]; exact hcl, hXW.drewN _⟩
      · have hk' : k = a.length := by omega
        have hge : (a.length : Int) ≤ k := by omega
        replace hk' := hide hk'
        go_wp2_with (go_at_call 17; (with_reducible refine seq_gw (rowLive_c _) ?_); intro g5)
        go_returns
        exact ⟨rfl, hX.trans g5.grown⟩

theorem own : ownKnob Try.prog.godebug = none := by kernel_rfl
theorem laidOut : laidOutB Try.prog = true := by kernel_rfl
set_option maxRecDepth 100000 in
theorem lifted (os : Os) (started : os.Started) (H : Type) (enc : TypeId × Value → H) :
    ReturnsInHanded {} Try.checked os 4 .any (Rows.rowSameSpec.pre6 enc Try.prog Try.f4 Rows.rowSameRow.domain false) (Rows.rowSameSpec.post enc Try.prog Try.f4 false true false false) := by
  refine returnsInHanded_of_change_sized (C := Try.checked) own started (by kernel_rfl) Try.func4
    (ChangeSpec.witness6 (enc := enc) (C := Try.checked) false ⟨#[], #[.slice none 0 0, .slice none 0 0], []⟩ 8 (by kernel_rfl) (by kernel_rfl) (by kernel_rfl) (by kernel_rfl)) ?_
  intro W base args ds gs before hval0 hW hcnd hsz0 _
  have hsz : (DataW.weightsEach Try.prog (Try.f4.params.toList ++ Rows.rowSameSpec.plain.varTypes Try.prog) (ds ++ gs)).all (· ≤ reachBytes) = true := hsz0
  clear hsz0
  have hval : ∀ (j : Nat) t v, Try.f4.params[j]? = some t → args[j]? = some v → Value.okWide Try.prog W .any base t v := hval0
  have hW' := hW
  obtain ⟨p, q, hA0, hV, rfl, hfz, hnd⟩ := hW
  have hA : DataW.TrodAll enc Try.prog W 0 (fun _ => true) true Try.f4.params.toList args.toList ds p := hA0
  rw [Try.params4] at hA hval hsz
  obtain ⟨v0, vs0, d0, ds0, p0, q0, hargs, rfl, rfl, h0, r0⟩ := trodAll_cons hA
  obtain ⟨v1, vs1, d1, ds1, p1, q1, rfl, rfl, rfl, h1, r1⟩ := trodAll_cons r0
  obtain ⟨rfl, rfl, rfl⟩ := trodAll_nil r1
  obtain rfl : args = #[v0, v1] := by cases args; simp_all
  obtain ⟨rfl, rfl⟩ := trodVars_none hV
  have k0 := h0
  have lt0 : ∀ x ∈ p0, x.block < W.heap.size := by obtain ⟨m, hm⟩ := k0; exact DataW.trod_lt m _ _ _ hm
  obtain ⟨A0, n0, c0, rfl⟩ := okWide_slice Try.underlying23 (hval 0 23 v0 rfl rfl)
  have ⟨m0, hm0⟩ := h0
  obtain ⟨a, la, ha, qa⟩ := open_row Try.underlying23 Try.underlying32 (by kernel_rfl) rfl rfl rfl (by kernel_rfl) (by kernel_rfl) (by kernel_rfl) Try.underlying30 Try.underlying3 Try.underlying9 hm0
  have za : a.length * 32 ≤ 140737488351232 := by rw [la]; exact sized_elems hsz (j := 0) (t := 23) (e := 32) rfl rfl Try.underlying23 (by kernel_rfl)
  have k1 := h1
  have lt1 : ∀ x ∈ p1, x.block < W.heap.size := by obtain ⟨m, hm⟩ := k1; exact DataW.trod_lt m _ _ _ hm
  obtain ⟨A1, n1, c1, rfl⟩ := okWide_slice Try.underlying23 (hval 1 23 v1 rfl rfl)
  have ⟨m1, hm1⟩ := h1
  obtain ⟨b, lb, hb, qb⟩ := open_row Try.underlying23 Try.underlying32 (by kernel_rfl) rfl rfl rfl (by kernel_rfl) (by kernel_rfl) (by kernel_rfl) Try.underlying30 Try.underlying3 Try.underlying9 hm1
  have zb : b.length * 32 ≤ 140737488351232 := by rw [lb]; exact sized_elems hsz (j := 1) (t := 23) (e := 32) rfl rfl Try.underlying23 (by kernel_rfl)
  clear hA0 hval0
  refine (walk a b _ _ W ha hb za).mono fun e W' ⟨he, bel⟩ => ?_
  subst he
  exact ⟨_, rfl, _, _, _, [], _, [], hW', trodAll_mk1 (shut_bool Try.underlying4 _), (trodAll_cons_mk (Below.trod laidOut (by kernel_rfl) (of_decide_eq_true (by kernel_rfl)) k0 bel lt0) (trodAll_cons_mk (Below.trod laidOut (by kernel_rfl) (of_decide_eq_true (by kernel_rfl)) k1 bel lt1) trodAll_mk0)), rfl, bel.frame _, fun h => by cases h⟩

theorem over : Rows.rowSameRow.holds Try.pinned (OpenSpec.ofChange Rows.rowSameSpec) :=
  OpenClaim.holds_of_wide 4 Try.f4 rfl rfl rfl rfl rfl rfl rfl ⟨rfl, rfl, rfl, rfl, rfl⟩ rfl rfl rfl rfl rfl (by kernel_rfl) Try.func4 (by kernel_rfl)
    (of_decide_eq_true (by kernel_rfl)) (by unfold Func.isWrapper; first | (rw [if_pos (by decide +kernel)]; kernel_rfl) | (rw [if_neg (by decide +kernel)]; exact ⟨rfl, rfl⟩))
    (fun os started H enc _ => lifted os started H enc)

theorem rowSame_holds : Rows.RowSameSaid := over
end Go.Proofs.Ytpfcmlmljolplaa.rowSame
