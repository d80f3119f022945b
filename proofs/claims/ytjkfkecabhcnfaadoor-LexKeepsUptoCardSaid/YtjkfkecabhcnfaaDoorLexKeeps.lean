/-
  Layer 19 (lex), 19.4: what is split is all there: its parts are tokens, and joined they have the text's bytes, but for blanks outside of quotes: every text of bulk up to 1,048,576. Tied to the tables of the library.
-/
import Derived.Test.YtjkfkecabhcnfaaDoorLexG
import Derived.Test.YtjkfkecabhcnfaaDoorLexH
import Derived.Test.YtjkfkecabhcnfaaDoorArgK
import Derived.Test.YtjkfkecabhcnfaaDoorCards
import Derived.Test.YtjkfkecabhcnfaaDoorTie
import Derived.Deep.DeepHandedRow
import Derived.Lib.LaidTab
import Derived.LaidMore
import Derived.Stop.Joined
import Derived.SevenTiedAt
import Derived.WalkKit
import Derived.ProofKit
import Derived.OpenShut
import Derived.ShutString
import Derived.ChangeOld
import Derived.Below
import Derived.Lib.SmallJoins
import Derived.SizedLaws
import Derived.Deep.CondSized
import Derived.JoinedCond
set_option linter.unusedVariables false
set_option linter.unusedSimpArgs false
namespace Go.Proofs.YtjkfkecabhcnfaaDoor.lexKeeps
open Go.ChangeShapes Go.WideShapes Go.ChangeAt Go.RowKit Go.Joins
open Go.ChangeMaps (open_string shut_string)
attribute [local go_sem] GW.cell GW.frozen In.eq_true In.le_true In.ne In.ne' In.ne_add In.ne_add' In.lt_add Upto.le_true Upto.le_add Upto.lt_add
set_option maxHeartbeats 8000000 in
set_option maxRecDepth 100000 in
theorem walk (s : ByteArray) (hs : s.size ≤ 1099511627776) (w : World) : Calls Tryd.prog 6 #[.string s] w fun e w' => e = .returned (.bool true) ∧ Ext w w' := by
  have h1 := hide (split_c s hs w)
  cases hR : spl s.data.toList with
  | error z =>
    have hz0 : (z != 0) = true := by rw [bne_iff_ne]; exact spl_err hR
    have hpos : 0 < s.size := by
      rcases Nat.eq_zero_or_pos s.size with h | h
      · rw [nil_bytes h, spl_nil] at hR; cases hR
      · exact h
    have nE := pos_size hpos
    rw [hR] at h1
    replace h1 := hide (show Calls Tryd.prog 8 #[.string s] w fun e w' => ∃ v', e = .returned (.tuple #[v', .int .i64 z]) ∧ OwnK w' w.heap.size v' [] ∧ Ext w w' from h1.out)
    clear hR hpos
    go_enter Tryd.func6, Tryd.ntmps6
    go_wp2_with (first | (go_at_call 8; refine h1.out.mono ?_; rintro ee w1 ⟨v1, rfl, ho1, hx1⟩; obtain ⟨A, cap, rfl⟩ : ∃ A cap, v1 = .slice A ([] : List Tk).length cap := own_form ho1) | (go_at_call 7; (with_reducible refine seq_gw (lexLive_c _) ?_); intro g))
    go_returns
    exact ⟨by first | rfl | simp, hx1.trans g.grown⟩
  | ok t =>
    have hmay := hide (spl_may hR)
    have hbare := spl_bare hR
    obtain ⟨hjl, htl⟩ := spl_lens hR
    rw [str_len] at hjl htl
    rw [hR] at h1
    replace h1 := hide (show Calls Tryd.prog 8 #[.string s] w fun e w' => ∃ v', e = .returned (.tuple #[v', .int .i64 0]) ∧ OwnK w' w.heap.size v' t ∧ Ext w w' from h1.out)
    have hmem := hide (fun (x : Tk) (hx : x ∈ t) => (show x.2.length ≤ 2199023255552 from by have := mem_joinB (t.map (·.2)) x.2 (List.mem_map.2 ⟨x, hx, rfl⟩); omega))
    have hb1 := hide (fun w => bare_c s (by omega) w)
    have hb2 := hide (fun w => bare_c ⟨(joinB (t.map (·.2))).toArray⟩ (by rw [str_size]; omega) w)
    rw [str_back, hbare] at hb2
    obtain ⟨B, hB⟩ : ∃ B : ByteArray, B = ⟨(bareB false s.data.toList).toArray⟩ := ⟨_, rfl⟩
    rw [← hB] at hb1 hb2
    obtain ⟨J, hJ⟩ : ∃ J : ByteArray, J = ⟨(joinB (t.map (·.2))).toArray⟩ := ⟨_, rfl⟩
    have hjc := hide (fun v w' (hv : Tw w' [] v t) => join_c t v w' hv (by omega) (by omega))
    rw [← hJ] at hb2 hjc
    clear hR hbare hB hJ hjl
    go_enter Tryd.func6, Tryd.ntmps6
    go_wp2_with (first | (go_at_call 8; refine h1.out.mono ?_; rintro ee w1 ⟨v1, rfl, ho1, hx1⟩; have htw := own_tw (S := []) ho1 (by simp)))
    have htwh := hide htw
    obtain ⟨A, cap, rfl, -, -, hat⟩ := tw_form htw
    replace hat := hide hat
    have hx1h := hide hx1
    clear h1 ho1 htw hx1
    obtain ⟨n, hn⟩ : ∃ n, n = t.length := ⟨_, rfl⟩
    rw [← hn] at htl htwh ⊢
    replace hn := hide hn
    go_loopg [5] n (fun gh iv wr => ∃ (k : Nat), iv = .int .i64 k ∧ k + gh = n ∧ Ext w1 wr)
    case atStart => exact ⟨0, rfl, by omega, Ext.refl w1⟩
    case round =>
      obtain ⟨k, rfl, hk, hX⟩ := hrel
      by_cases hlt : k < n
      · obtain ⟨x, hx⟩ : ∃ x, t[k]? = some x := ⟨_, List.getElem?_eq_getElem (by have := hn.out; omega)⟩
        obtain ⟨b, o, rfl, -, hb, c0, c1⟩ := hat.out k x hx
        have k0 := cell_later' hX c0
        have k1 := cell_later' hX c1
        have hbr : b < wr.heap.size := block_lt_of_cell k0
        have hm := hmay.out x (List.mem_of_getElem? hx)
        have hxl := hmem.out x (List.mem_of_getElem? hx)
        have hmc := hide (fun w => may_c x.1 ⟨x.2.toArray⟩ (by rw [str_size]; omega) w)
        rw [str_back, show ((x.1, x.2) : Tk) = x from rfl, hm] at hmc
        obtain ⟨xk, xs⟩ := x
        simp only at k0 k1 hmc
        generalize (⟨xs.toArray⟩ : ByteArray) = sx at *
        clear hat hx c0 c1 hmay hm hxl
        go_wp2_with (first | (go_at_call 11; (with_reducible refine seq_gw (hmc.out _) ?_); intro g))
        go_roundg (n - (k + 1))
        case measure => omega
        case rel => exact ⟨k + 1, by go_num, by omega, hX.trans g.grown⟩
      · have hge : (n : Int) ≤ k := by omega
        have htw2 := hide (fun w' (hX' : Ext wr w') => hjc.out _ w' (Sl.ext (by have := htwh.out; rw [hn.out] at this; exact this) (hX.trans hX')))
        have hnt := hn.out
        clear hat hlt hmay
        rw [← hnt] at htw2
        clear hnt
        go_wp2_with (first | (go_at_call 7; (with_reducible refine seq_gw (lexLive_c _) ?_); intro g1) | (go_at_call 13; (with_reducible refine seq_gw' (htw2.out _ g1.grown) ?_); intro g2) | (go_at_call 16; first | ((with_reducible refine seq_gw' (hb2.out _) ?_); intro g3) | ((with_reducible refine seq_gw' (hb1.out _) ?_); intro g4)))
        go_returns
        exact ⟨by first | rfl | simp, (hx1h.out.trans hX).trans g4.grown⟩

theorem own : ownKnob Tryd.prog.godebug = none := by kernel_rfl
theorem laidOut : laidOutB Tryd.prog = true := by kernel_rfl
/-- The variables that the row lists. -/
def laidL : List (String × DataW Unit) := [("unicode/utf8.acceptRanges", Rows.laid_unicode_utf8_acceptRanges), ("unicode/utf8.first", Rows.laid_unicode_utf8_first)]
/-- A world for the witness: what the door lays, and the library's pinned table. -/
noncomputable def laidW (os : Os) : World := { World.doorLaid Tryd.prog 19 os with heap := (World.doorLaid Tryd.prog 19 os).heap.modify 1 fun
  | .cells _ t frozen => .cells (Go.Pinned.utf8FirstZ.map fun (n : Nat) => Value.int .u8 (n : Int)).toArray t frozen
  | o => o }
theorem laid_met (os : Os) : laidMetH Tryd.prog laidL ((laidW os).forCall (fun _ _ => 0) ⟨#[], #[.string ByteArray.empty], []⟩).memory := laidMetH_of_parts3 (fuel := 8) (laidMet_of_run' 8 (by kernel_rfl) (by kernel_rfl)) (by kernel_rfl) (by kernel_rfl)
theorem reads (os : Os) {H : Type} (enc : TypeId × Value → H) : ∃ places, DataW.whole enc Tryd.prog ((laidW os).forCall (fun _ _ => 0) ⟨#[], #[.string ByteArray.empty], []⟩).memory Tryd.f6.params.toList Rows.lexKeepsSpec.vars false #[.string ByteArray.empty].toList 8 = some ([.lit (.string [])], [], places) := ⟨[], by kernel_rfl⟩
set_option maxRecDepth 100000 in
theorem lifted (os : Os) (started : os.Started) (H : Type) (enc : TypeId × Value → H) (F : Stop.Interp) :
    ReturnsInHanded {} Tryd.checked os 6 .any ((Rows.OpenSpec.upto Rows.lexKeepsSpec).preRow enc Tryd.prog Tryd.f6 Rows.lexKeepsUptoRow.domain false laidL) (((Rows.OpenSpec.upto Rows.lexKeepsSpec).at F).post enc Tryd.prog Tryd.f6 false true false false) := by
  obtain ⟨places, hx⟩ := reads os enc
  refine returnsInHanded_of_row (C := Tryd.checked) (s := (Rows.OpenSpec.upto Rows.lexKeepsSpec)) own started (by kernel_rfl) Tryd.func6
    (witness_row_at (enc := enc) (C := Tryd.checked) false (laidW os) #[.string ByteArray.empty] rfl (by kernel_rfl) (by kernel_rfl) (by kernel_rfl)
      (OpenSpec.preRow_of_cond 8 hx (by kernel_rfl) (fun k hk => by cases hk; kernel_rfl) (by kernel_rfl) (laid_met os))) ?_
  intro W base args ds gs before hval0 hW hcnd hcond hsz0 hL _ _
  have hsz : (DataW.weightsEach Tryd.prog (Tryd.f6.params.toList ++ (Rows.OpenSpec.upto Rows.lexKeepsSpec).bare.plain.varTypes Tryd.prog) (ds ++ gs)).all (· ≤ reachBytes) = true := hsz0
  clear hsz0
  have hbulk : Rows.uptoSmall H (ds ++ gs) = true := hcond _ rfl
  have hval : ∀ (j : Nat) t v, Tryd.f6.params[j]? = some t → args[j]? = some v → Value.okWide Tryd.prog W .any base t v := hval0
  have hW' := hW
  obtain ⟨p, q, hA0, hV, rfl, hfz, hnd⟩ := hW
  have hA : DataW.TrodAll enc Tryd.prog W 0 (fun _ => true) true Tryd.f6.params.toList args.toList ds p := hA0
  rw [Tryd.params6] at hA hval hsz
  obtain ⟨v0, vs0, d0, ds0, p0, q0, hargs, rfl, rfl, h0, r0⟩ := trodAll_cons hA
  obtain ⟨rfl, rfl, rfl⟩ := trodAll_nil r0
  obtain rfl : args = #[v0] := by cases args; simp_all
  obtain ⟨rfl, rfl⟩ := trodVars_none hV
  have k0 := h0
  have lt0 : ∀ x ∈ p0, x.block < W.heap.size := by obtain ⟨m, hm⟩ := k0; exact DataW.trod_lt m _ _ _ hm
  obtain ⟨s, rfl, es, _, ws⟩ := open_string Tryd.underlying9 (hval 0 9 v0 rfl rfl) h0
  subst es
  have zs : s.size ≤ 140737488351232 := sized_text hsz (j := 0) (t := 9) rfl rfl
  clear hA0 hval0
  have hbk : Rows.uptoBulk (DataW.lit (H := H) (.string s.data.toList)) ≤ 1048576 := by
    have h := of_decide_eq_true hbulk
    simp only [Rows.uptoBulkAll, List.append_nil] at h
    omega
  refine (walk s (by simp only [Rows.uptoBulk] at hbk; rw [← str_len]; omega) W).mono fun e W' ⟨he, bel⟩ => ?_
  subst he
  exact ⟨_, rfl, _, _, _, [], _, [], hW', trodAll_mk1 (shut_bool Tryd.underlying4 _), (trodAll_cons_mk (Below.trod laidOut (by kernel_rfl) (of_decide_eq_true (by kernel_rfl)) k0 bel lt0) trodAll_mk0), rfl, bel.frame _, fun h => by cases h⟩

theorem over : Rows.LexKeepsUptoSaid :=
  OpenClaim.holds_of_cond 6 Tryd.f6 rfl rfl rfl rfl rfl rfl rfl ⟨rfl, rfl, rfl, rfl, rfl⟩ rfl rfl rfl rfl rfl (by kernel_rfl) Tryd.func6 (by kernel_rfl)
    (of_decide_eq_true (by kernel_rfl)) (by unfold Func.isWrapper; first | (rw [if_pos (by decide +kernel)]; kernel_rfl) | (rw [if_neg (by decide +kernel)]; exact ⟨rfl, rfl⟩))
    (fun os started H enc _ F => by rw [OpenClaim.pre_eq_preRow]; exact lifted os started H enc F)

theorem plain (f : FuncId) (fn : Func) (hf : Tryd.pinned.checked.prog.funcNamed "rescind/rescindlaw19.LexKeeps" = some f) (hfn : Tryd.pinned.checked.prog.funcs[f]? = some fn) :
    false = Tryd.pinned.checked.prog.looks [] ∧ ∀ (j : Nat) t, fn.params[j]? = some t → Tryd.pinned.checked.prog.wantsStandIn t = false := by
  obtain rfl : f = 6 := Option.some.inj ((show Tryd.prog.funcNamed "rescind/rescindlaw19.LexKeeps" = some 6 by kernel_rfl).symm.trans hf) |>.symm
  obtain rfl : fn = Tryd.f6 := (Option.some.inj (Tryd.func6.symm.trans hfn)).symm
  refine ⟨by kernel_rfl, fun j t ht => ?_⟩
  rw [Tryd.params6] at ht
  have hm : t ∈ [9] := by simpa using Array.mem_of_getElem? ht
  have hall : ([9].all fun u => !Tryd.prog.wantsStandIn u) = true := by kernel_rfl
  exact (show Tryd.prog.wantsStandIn t = false by simpa using List.all_eq_true.1 hall t hm)
theorem lexKeepsUpto_card : Rows.LexKeepsUptoCardSaid :=
  Claim7.holds_tied_plain_at .later [] _ _ _ _ over (fun _ h => by cases h) (by kernel_rfl) (fun _ h => by cases h) lexKeepsUpto_row_tie rfl ⟨rfl, rfl⟩ (by kernel_rfl) rfl plain (by kernel_rfl)
end Go.Proofs.YtjkfkecabhcnfaaDoor.lexKeeps
