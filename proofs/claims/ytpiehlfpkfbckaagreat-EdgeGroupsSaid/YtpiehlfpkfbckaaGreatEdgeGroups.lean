/-
  Layer 10 (edge), 10.2: the rows that are told, each with its function, are all there are, in their order; put together again they are the edges: for every list of edges (of which those of up to 60 count). No condition.
-/
import Derived.Test.YtpiehlfpkfbckaaGreatEdgL
import Derived.Test.YtpiehlfpkfbckaaGreatArgE
import Derived.Test.YtpiehlfpkfbckaaGreatEdgGs
import Derived.Test.YtpiehlfpkfbckaaGreatEdgPg
import Derived.Test.YtpiehlfpkfbckaaGreatEdgMy
import Derived.WalkKit
import Derived.ProofKit
import Derived.OpenShut
import Derived.ShutString
import Derived.ChangeOld
import Derived.Below
import Derived.Lib.SmallJoins
import Derived.SizedLaws
import Derived.Deep.CondSized
import Derived.JoinedCond
set_option linter.unusedVariables false
set_option linter.unusedSimpArgs false
namespace Go.Proofs.YtpiehlfpkfbckaaGreat.edgeGroups
open Go.ChangeShapes Go.WideShapes Go.ChangeAt Go.RowKit Go.Joins
open Go.ChangeMaps (open_string shut_string)
attribute [local go_sem] GW.cell GW.frozen In.eq_true In.le_true In.ne In.ne' In.ne_add In.ne_add' In.lt_add Upto.le_true Upto.le_add Upto.lt_add Oper.semAt_some wide_depth wide_fn

set_option maxHeartbeats 1000000 in
theorem few_c (L : List Ve) (v : Value) (w : World) (h : Ew w [] v L) : Calls Tryz.prog 10 #[v] w fun e w' => e = .returned (.bool (decide (L.length ≤ 60))) ∧ Ext w w' := by
  obtain ⟨A, cap, rfl, -, -, -⟩ := ew_form h
  clear h
  by_cases hl : L.length ≤ 60
  · have hI : (L.length : Int) ≤ 60 := by omega
    rw [decide_eq_true hl]
    go_enter Tryz.func10, Tryz.ntmps10
    go_wp2_with fail
    go_returns
    exact ⟨by first | rfl | simp, Ext.refl w⟩
  · have hI : ¬ (L.length : Int) ≤ 60 := by omega
    rw [decide_eq_false hl]
    go_enter Tryz.func10, Tryz.ntmps10
    go_wp2_with fail
    go_returns
    exact ⟨by first | rfl | simp, Ext.refl w⟩

theorem run_equalIn_func_nil {P : Program} {w : World} (d : Nat) (t : TypeId) {a b c} (f : Fn) (ts lb : Array Value) (h : P.underlying t = some (.func a b c)) : (Op.equalIn (d + 1) t (.func f ts lb) .nilFunc).run P w = .ok false w := by
  simp [Op.equalIn, run_underlying h]
theorem run_eql_func_nil {P : Program} {w : World} (t : TypeId) {a b c} (f : Fn) (ts lb : Array Value) (h : P.underlying t = some (.func a b c)) : (binOp .eql t (.func f ts lb) .nilFunc).run P w = .ok (.bool false) w := by
  have h2 : (Op.equal t (.func f ts lb) .nilFunc).run P w = .ok false w := run_equalIn_func_nil 9999 t f ts lb h
  simp only [binOp]
  simp [h2]
theorem run_told (f : Nat) (lb : Array Value) (w : World) : (binOp .eql 46 (.func (.func f) #[] lb) .nilFunc).run Tryz.prog w = .ok (.bool false) w := run_eql_func_nil _ _ _ _ Tryz.underlying46
attribute [local go_sem] run_told
/-- A row lies in no box of a slice. -/
theorem rw_box {W : World} {S : List Nat} {v : Value} {r : List Vl} {b : Nat} {T : TypeId} {A : Option Addr} {n cap : Nat} (h : Rw W S v r) (o : Ob W b T [.slice A n cap]) : Rw W (b :: S) v r := by
  obtain ⟨B, k, rfl, h1, h2, h3, h4⟩ := h
  refine ⟨B, k, rfl, h1, h2, h3, ?_⟩
  rcases h4 with h4 | ⟨c, p, e, hcS, hc⟩
  · exact .inl h4
  · rcases r with _ | ⟨x, r⟩
    · exact .inl rfl
    · refine .inr ⟨c, p, e, ?_, hc⟩
      intro hcb
      rcases List.mem_cons.1 hcb with hcb | hcb
      · subst hcb
        have q := hc 0 (.int .i64 x.1) rfl
        rw [cell_of_row W c (p + 0) _ T (0, 0) o] at q
        rcases p with _ | p
        · simp at q
        · simp at q
      · exact hcS hcb
theorem own_set {w : World} {base e size n : Nat} {v : Value} {xs : List Value} (h : w.ownsRow base e size v n xs) {b : Nat} (hb : v.ownBlock ≠ some b) (u : Value) : (w.setCell ⟨b, 0, none⟩ u).ownsRow base e size v n xs := by
  refine ⟨h.1, ?_⟩
  rcases h.2 with h2 | ⟨g, cap, cur, rfl, hbg, hg, hr⟩
  · exact .inl h2
  · exact .inr ⟨g, cap, cur, rfl, hbg, (Below.heap_setCell w ⟨b, 0, none⟩ u g (fun e => hb (by simp [Value.ownBlock]; exact e))).trans hg, hr⟩
/-- Blocks that are none of the loop's. -/
def Fb (bx : Nat) (b : Nat) (W : World) : Prop := ∃ mv, Ob W bx 22 [mv] ∧ (b ≠ bx ∧ (mv.ownBlock ≠ some b ∧ b < W.heap.size))
theorem Fb.stab (B bx b : Nat) : Stab B (Fb bx b) := Stab.ex fun mv => (Stab.ob _ _ _).and ((Stab.pure _).and ((Stab.pure _).and ⟨fun A C h e => Nat.lt_of_lt_of_le h e.size, fun A l o o' h _ _ _ => by simpa using h⟩))
abbrev I (w : World) (B0 bx : Nat) (G : List Gp) (k : Nat) (W : World) : Prop :=
  (∃ mv, ∃ N : List Ve, (Ob W bx 22 [mv] ∧ (OwnE W B0 mv N ∧ ∀ p, ∀ (_ : p ∈ N), Rw W (ob mv ++ List.range B0) p.1 p.2.1)) ∧ (eds N = evL (fun f => (0, f)) (G.take k) ∧ N.length ≤ 1024 * k)) ∧ Ext w W
theorem I.stab (w : World) (B0 bx : Nat) (G : List Gp) (k B : Nat) (hB : w.heap.size ≤ B) : Stab B (I w B0 bx G k) :=
  (Stab.ex fun mv => Stab.ex fun N => ((Stab.ob _ _ _).and ((Stab.own _ _ _ _ _ _).and (Stab.all fun p => Stab.all fun _ => Stab.sl _ _ _ _ _))).and (Stab.pure _)).and (Stab.of_ext hB)
set_option maxHeartbeats 8000000 in
set_option maxRecDepth 100000 in
theorem walk (l : List Ve) (v : Value) (w : World) (ha : Ew w [] v l) : Calls Tryz.prog 6 #[v] w fun e w' => e = .returned (.bool true) ∧ Ext w w' := by
  have hfew := hide (few_c l v w ha)
  by_cases hl : l.length ≤ 60
  · rw [decide_eq_true hl] at hfew
    have hgr := hide (fun w' (hX : Ext w w') => groups_c l v w' (ha.ext hX))
    have hMl := hide (fun w' (hX : Ext w w') => edgeMay_c l v w' (ha.ext hX))
    have ha' := hide ha
    obtain ⟨VA, acap, rfl, -, -, -⟩ := ew_form ha
    clear ha
    refine calls_marks Tryz.func6 rfl ?_
    simp only [Tryz.ntmps6, List.size_toArray, List.length_cons, List.length_nil, Nat.reduceAdd, Nat.reduceSub, Array.replicate_succ, Array.replicate_zero, List.push_toArray, List.append_toArray, List.nil_append, List.cons_append]
    go_wp2_with (first | (go_at_call 10; (with_reducible refine seq_gw hfew.out ?_); intro g0) | (go_at_call 30; refine (hgr.out _ g0.grown).mono ?_; rintro ee w1 ⟨b, rfl, v1, M, hb, hM, hMe, hX1⟩))
    have hlit := World.ownsRow_lit (base := w1.heap.size) (e := 56) (size := 3) w1 #[] 0 (Nat.le_refl _) (by decide) rfl
    obtain ⟨Wb, hWb⟩ : ∃ Wb, Wb = (w1.alloc (.cells #[] 56)).alloc (.cells #[.slice (some ⟨w1.heap.size, 0, none⟩) 0 0] 22) := ⟨_, rfl⟩
    have hXb : Ext w1 Wb := by rw [hWb]; exact ((Ext.refl w1).alloc _).alloc _
    have hzB : Wb.heap.size = w1.heap.size + 2 := by rw [hWb]; simp
    have ob0 : Ob Wb (w1.heap.size + 1) 22 [.slice (some ⟨w1.heap.size, 0, none⟩) 0 0] := by rw [hWb]; have := Ob.new (w1.alloc (.cells #[] 56)) 22 [.slice (some ⟨w1.heap.size, 0, none⟩) 0 0]; rwa [World.size_alloc] at this
    have hlb : Wb.ownsRow w1.heap.size 56 3 (.slice (some ⟨w1.heap.size, 0, none⟩) 0 0) 0 [] := by rw [hWb]; exact own_ext hlit ((Ext.refl _).alloc _)
    have hXw1 : Ext w w1 := g0.grown.trans hX1
    have hXw : Ext w Wb := hXw1.trans hXb
    rw [← hWb]
    have hGl := grp_len2 (eds M)
    have hMl2 : (eds M).length ≤ 60 := by
      rw [hM]; split
      · simpa [eds] using hl
      · simp
    have hG8 : Hid (∀ g ∈ grp (eds M), g.1.length ≤ 8 ∧ g.2.length ≤ 1024) := by
      intro g hg
      rw [hM] at hg
      split at hg
      · rename_i h; exact ⟨grp_r8 h g hg, mayJ_len ((mayE_iff.1 h).2.2 g hg)⟩
      · simp [grp] at hg
    have hML : M.length ≤ 60 := by simpa [eds] using hMl2
    have hbk : Hid (evL (fun f => (0, f)) (grp (eds M)) = eds M) := grp_back (eds M)
    obtain ⟨bx, hbx⟩ : ∃ bx, bx = w1.heap.size + 1 := ⟨_, rfl⟩
    rw [← hbx] at ob0 ⊢
    clear hWb hlit
    replace hbx := hide hbx
    refine wp_range2 (xs := grp (eds M)) rfl (enters_of Tryz.func66 (by kernel_rfl) rfl) (groups_seq2 M v1 w1 w1 b hMe (by omega) (fun g hg => Nat.le_trans (hG8.out g hg).1 (by omega)) (Ext.refl _) hb) hXb hXb.size (fun x vs W h => h.size) (fun x vs => Hgg.stab x vs)
      (Fb bx) (fun b => Fb.stab _ bx b)
      (I w w1.heap.size bx (grp (eds M)))
      (fun k A o ⟨⟨mv, N, ⟨o1, o2, _⟩, _⟩, _⟩ => ⟨mv, o1.alloc o, (by have := o1.lt; omega), (fun h => by have := (o2.lt _ h).2; omega), by simp⟩)
      (fun c k W => False ∧ Ext w W)
      (fun k => I.stab w _ bx _ k _ hXw.size)
      (fun c k => (Stab.pure _).and (Stab.of_ext hXw.size))
      ⟨⟨_, [], ⟨ob0, hlb, by simp⟩, by simp [evL, eds], by simp⟩, hXw⟩
      (fun k x vs a' _ => ∃ r f, vs = #[r, f] ∧ a' = { tmps := #[.slice VA l.length acap, undef, .bool false, .func (.func 66) #[] #[.pointer (some ⟨b, 0, none⟩)], .pointer (some ⟨bx, 0, none⟩), r, f, .slice VA l.length acap, .bool true, .bool false, undef, .slice VA l.length acap, .func (.func 66) #[] #[.pointer (some ⟨b, 0, none⟩)], .func (.func 66) #[] #[.pointer (some ⟨b, 0, none⟩)], .bool false, .slice (some ⟨w1.heap.size, 0, none⟩) 0 0, .func (.func 66) #[] #[.pointer (some ⟨b, 0, none⟩)], r, f, undef, undef, undef, undef, undef, undef, undef, undef, undef, undef, undef, undef, undef, undef, undef, undef, undef, undef, undef], defers := [] })
      (fun k x vs a' => Stab.pure _) ?assign ?body ?done ?stop
    case assign =>
      rintro LL k x vs W K _ ⟨r, f, rfl, -, -⟩ hK
      gi_wp2
      exact hK _ _ (Ext.refl _) ⟨r, f, rfl, rfl⟩
    case body =>
      rintro LL k x vs a' W hx ⟨⟨mv, N, ⟨o1, hNo, hNr⟩, hNe, hNl⟩, hXk⟩ ⟨r', f', e', hr, hf⟩ ⟨r, f, rfl, rfl⟩
      obtain ⟨rfl, rfl⟩ : r = r' ∧ f = f' := by simpa using e'
      obtain ⟨q, Jq⟩ := x
      have hgm := hG8.out (q, Jq) (List.mem_of_getElem? hx)
      simp only at hgm
      have hkl := (List.getElem?_eq_some_iff.1 hx).1
      have hnx := hide (show evL (fun f => (0, f)) ((grp (eds M)).take (k + 1)) = evL (fun f => (0, f)) ((grp (eds M)).take k) ++ Jq.map fun j => (q, j) by rw [List.take_add_one, hx, Option.toList_some, evL_snoc])
      have hzW := hXk.size
      have h1z : w1.heap.size ≤ W.heap.size := by have := o1.lt; have := hbx.out; omega
      have hnb := o1.not_own hNo (by decide)
      have hput := hide (refPutG_c (ob mv) w1.heap.size N q Jq mv r f W ⟨hNo, fun p hp => hNr p hp⟩ h1z (fun q hq => by simp [ob, hq]) (own_apart hr hNo (by decide)) (by omega) (own_apart hf hNo (by decide)) (by omega))
      have hgeN := hide (ob_ge hNo)
      have hobN := hide (ob_obj hNo)
      have q1 := o1.cell 0 rfl
      have hlt1 := o1.lt
      obtain ⟨RA, rcap, rfl⟩ := own_form hr
      obtain ⟨JA, jcap, rfl⟩ := own_form hf
      obtain ⟨C, ccap, rfl⟩ := own_form hNo
      haveI : In bx W := ⟨hlt1⟩
      have hno : bx ∉ ob (Value.slice C N.length ccap) := by intro h; exact hnb (by simpa [ob] using h)
      replace hNe := hide hNe
      have o1' := hide o1
      replace hnb := hide hnb
      clear hx hr hf hNo hNr o1
      gi_wp2_with (gi_at_call 27; refine (in_round hput.out).mono ?_; rintro ee w2 ⟨v2, M2, rfl, hM2, ho2, hF2, hb2⟩; have o2 := o1'.out.fr hF2 hno; have hlt2 := o2.lt; have k2 := o2.cell 0 rfl; have hfr2 := o2.free 0; obtain ⟨C2, c2, q2⟩ := own_form ho2.1; generalize hn2 : (N ++ M2).length = n2 at *; subst q2; replace hn2 := hide hn2; replace ho2 := hide ho2; haveI : In bx w2 := ⟨hlt2⟩)
      replace ho2 := ho2.out
      have e2 := hn2.out
      subst e2
      obtain ⟨v2, hv2⟩ : ∃ v2, v2 = Value.slice C2 (N ++ M2).length c2 := ⟨_, rfl⟩
      rw [← hv2] at ho2 hb2 ⊢
      have hnb2 := o2.not_own ho2.1 (by decide)
      have hF3 : Fr (bx :: ob (Value.slice C N.length ccap)) W (w2.setCell ⟨bx, 0, none⟩ v2) := (hF2.more (fun _ _ h => List.mem_cons_of_mem _ h)).setCell _ _ (.inl (by simp))
      have hge3 : ∀ y ∈ bx :: ob (Value.slice C N.length ccap), w1.heap.size ≤ y := by
        intro y hy
        rcases List.mem_cons.1 hy with rfl | hy
        · have := hbx.out; omega
        · exact (hgeN.out y hy).1
      have hM2l : M2.length = Jq.length := by have := congrArg List.length hM2; simpa [eds] using this
      refine ⟨keeps_fr hF3 (fun y hy => ?_), below_fr hF3 h1z hge3, ⟨⟨v2, N ++ M2, ⟨o2.set 0 _, own_set ho2.1 hnb2 _, fun p hp => ?_⟩, by rw [eds_app, hM2, hNe.out, hnx.out], by rw [List.length_append]; omega⟩, ext_fr hXk hF3 (fun y hy => Nat.le_trans hXw1.size (hge3 y hy))⟩, ?_⟩
      · rcases List.mem_cons.1 hy with rfl | hy
        · exact ⟨_, _, o1'.out⟩
        · exact hobN.out y hy
      · exact Sl.less (Sl.set (rw_box (ho2.2 p hp) o2) ⟨bx, 0, none⟩ _ (by simp)) (fun y hy => List.mem_cons_of_mem _ hy)
      · rintro y T us ⟨mv', om, hy1, hy2, hy3⟩ oy
        obtain rfl : mv' = .slice C N.length ccap := by
          have e1 := om
          unfold Ob at e1
          have e2 := o1'.out
          unfold Ob at e2
          rw [e2] at e1
          simpa using e1.symm
        have hyS : y ∉ bx :: ob (Value.slice C N.length ccap) := by
          intro h
          rcases List.mem_cons.1 h with h | h
          · exact hy1 h
          · exact hy2 (by simpa [ob] using h)
        refine ⟨⟨v2, o2.set 0 _, hy1, fun h => ?_, by have := hF3.size; omega⟩, oy.fr hF3 hyS⟩
        rcases hb2 y h with h | h
        · exact hyS (List.mem_cons_of_mem _ h)
        · omega
    case done =>
      rintro D W hD ⟨⟨mv, N, ⟨o1, hNo, hNr⟩, hNe, hNl⟩, hXk⟩ hK
      rw [List.take_of_length_le (Nat.le_refl _), hbk.out] at hNe
      have hew := hide (show Ew W [] mv N from ⟨Sl.own hNo (by simp), fun p hp => Sl.less (hNr p hp) (by simp)⟩)
      have q1 := hide (o1.cell 0 rfl)
      have hlt1 := o1.lt
      have hDl := lt_of_block hK
      obtain ⟨C, ccap, rfl⟩ := own_form hNo
      have o1' := hide o1
      have hK' := hide hK
      clear hNo hNr o1 hK
      have hMm := hide (hMl.out W hXk)
      cases hm : mayE (eds l)
      · rw [hm] at hM hMm
        have hN0 : N = [] := by
          have : eds N = [] := by rw [hNe, hM]; rfl
          simpa [eds] using this
        subst hN0
        haveI : In bx W := ⟨hlt1⟩
        go_wp2_with (first | (go_at_call 15; (with_reducible refine seq_gw hMm.out ?_); intro g5) | (go_at_call 11; (with_reducible refine seq_gw' (edgLive_c _) ?_); intro g6; have k6 := cell_later g6.grown q1.out))
        have hK6 : g6.val.heap[D]? = some (.deferred (some [])) := (g6.grown.block D hDl).trans hK'.out
        refine ret_mark hK6 (v := .bool true) ?_ ⟨rfl, put_ext (hXk.trans g6.grown) (by have := hXw.size; omega) _⟩
        simp [results, Tryz.f6, go_sem]
      · rw [hm] at hM hMm
        have hNl2 : eds N = eds l := by rw [hNe, hM]; rfl
        have hsm := hide (fun w' (hX : Ext W w') => refEdgeSame_c (hew.out.ext hX) (ha'.out.ext (hXk.trans hX)))
        rw [decide_eq_true hNl2] at hsm
        haveI : In bx W := ⟨hlt1⟩
        replace hNl2 := hide hNl2
        go_wp2_with (first | (go_at_call 15; (with_reducible refine seq_gw hMm.out ?_); intro g5) | (go_at_call 11; (with_reducible refine seq_gw' (edgLive_c _) ?_); intro g6; have k6 := cell_later g6.grown q1.out) | (go_at_call 14; (with_reducible refine seq_gw' (hsm.out _ g6.grown) ?_); intro g7))
        have hK7 : g7.val.heap[D]? = some (.deferred (some [])) := (g7.grown.block D hDl).trans hK'.out
        refine ret_mark hK7 (v := .bool true) ?_ ⟨rfl, put_ext (hXk.trans g7.grown) (by have := hXw.size; omega) _⟩
        simp [results, Tryz.f6, go_sem]
    case stop =>
      rintro D c k W hD hk ⟨hF, -⟩ hK
      exact hF.elim
  · rw [decide_eq_false hl] at hfew
    obtain ⟨VA, acap, rfl, -, -, -⟩ := ew_form ha
    clear ha hl
    go_enter Tryz.func6, Tryz.ntmps6
    go_wp2_with (first | (go_at_call 10; (with_reducible refine seq_gw hfew.out ?_); intro g0) | (go_at_call 11; (with_reducible refine seq_gw' (edgLive_c _) ?_); intro g1))
    go_returns
    exact ⟨by first | rfl | simp, g1.grown⟩

theorem own : ownKnob Tryz.prog.godebug = none := by kernel_rfl
theorem laidOut : laidOutB Tryz.prog = true := by kernel_rfl
set_option maxRecDepth 100000 in
theorem lifted (os : Os) (started : os.Started) (H : Type) (enc : TypeId × Value → H) :
    ReturnsInHanded {} Tryz.checked os 6 .any (Rows.edgeGroupsSpec.pre6 enc Tryz.prog Tryz.f6 Rows.edgeGroupsRow.domain false) (Rows.edgeGroupsSpec.post enc Tryz.prog Tryz.f6 false true false false) := by
  refine returnsInHanded_of_change_sized (C := Tryz.checked) own started (by kernel_rfl) Tryz.func6
    (ChangeSpec.witness6 (enc := enc) (C := Tryz.checked) false ⟨#[], #[.slice none 0 0], []⟩ 8 (by kernel_rfl) (by kernel_rfl) (by kernel_rfl) (by kernel_rfl)) ?_
  intro W base args ds gs before hval0 hW hcnd hsz0 _
  have hsz : (DataW.weightsEach Tryz.prog (Tryz.f6.params.toList ++ Rows.edgeGroupsSpec.plain.varTypes Tryz.prog) (ds ++ gs)).all (· ≤ reachBytes) = true := hsz0
  clear hsz0
  have hval : ∀ (j : Nat) t v, Tryz.f6.params[j]? = some t → args[j]? = some v → Value.okWide Tryz.prog W .any base t v := hval0
  have hW' := hW
  obtain ⟨p, q, hA0, hV, rfl, hfz, hnd⟩ := hW
  have hA : DataW.TrodAll enc Tryz.prog W 0 (fun _ => true) true Tryz.f6.params.toList args.toList ds p := hA0
  rw [Tryz.params6] at hA hval hsz
  obtain ⟨v0, vs0, d0, ds0, p0, q0, hargs, rfl, rfl, h0, r0⟩ := trodAll_cons hA
  obtain ⟨rfl, rfl, rfl⟩ := trodAll_nil r0
  obtain rfl : args = #[v0] := by cases args; simp_all
  obtain ⟨rfl, rfl⟩ := trodVars_none hV
  have k0 := h0
  have lt0 : ∀ x ∈ p0, x.block < W.heap.size := by obtain ⟨m, hm⟩ := k0; exact DataW.trod_lt m _ _ _ hm
  obtain ⟨A0, n0, c0, rfl⟩ := okWide_slice Tryz.underlying22 (hval 0 22 v0 rfl rfl)
  have ⟨m0, hm0⟩ := h0
  obtain ⟨l, ll, hl⟩ := open_edges Tryz.underlying22 Tryz.underlying56 (by kernel_rfl) rfl rfl rfl (by kernel_rfl) (by kernel_rfl) (by kernel_rfl) Tryz.underlying31 Tryz.underlying3 Tryz.underlying3 Tryz.underlying54 (by kernel_rfl) rfl rfl rfl (by kernel_rfl) (by kernel_rfl) (by kernel_rfl) Tryz.underlying52 Tryz.underlying3 Tryz.underlying9 hm0
  have zl : l.length * 40 ≤ 140737488351232 := by rw [ll]; exact sized_elems hsz (j := 0) (t := 22) (e := 56) rfl rfl Tryz.underlying22 (by kernel_rfl)
  clear hA0 hval0
  refine (walk l _ W hl).mono fun e W' ⟨he, bel⟩ => ?_
  subst he
  exact ⟨_, rfl, _, _, _, [], _, [], hW', trodAll_mk1 (shut_bool Tryz.underlying4 _), (trodAll_cons_mk (Below.trod laidOut (by kernel_rfl) (of_decide_eq_true (by kernel_rfl)) k0 bel lt0) trodAll_mk0), rfl, bel.frame _, fun h => by cases h⟩

theorem over : Rows.edgeGroupsRow.holds Tryz.pinned (OpenSpec.ofChange Rows.edgeGroupsSpec) :=
  OpenClaim.holds_of_wide 6 Tryz.f6 rfl rfl rfl rfl rfl rfl rfl ⟨rfl, rfl, rfl, rfl, rfl⟩ rfl rfl rfl rfl rfl (by kernel_rfl) Tryz.func6 (by kernel_rfl)
    (of_decide_eq_true (by kernel_rfl)) (by unfold Func.isWrapper; first | (rw [if_pos (by decide +kernel)]; kernel_rfl) | (rw [if_neg (by decide +kernel)]; exact ⟨rfl, rfl⟩))
    (fun os started H enc _ => lifted os started H enc)

theorem edgeGroups_holds : Rows.EdgeGroupsSaid := over
end Go.Proofs.YtpiehlfpkfbckaaGreat.edgeGroups
