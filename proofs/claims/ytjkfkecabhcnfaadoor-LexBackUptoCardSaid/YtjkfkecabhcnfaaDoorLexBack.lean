/-
  Layer 19 (lex), 19.3: joined tokens are split into the same tokens: every list of tokens of bulk up to 1,048,576. Tied to the tables of the library.
-/
import Derived.Test.YtjkfkecabhcnfaaDoorLexG
import Derived.Test.YtjkfkecabhcnfaaDoorLexH
import Derived.Test.YtjkfkecabhcnfaaDoorArgK
import Derived.Test.YtjkfkecabhcnfaaDoorCards
import Derived.Test.YtjkfkecabhcnfaaDoorTie
import Derived.Deep.DeepHandedRow
import Derived.Lib.LaidTab
import Derived.LaidMore
import Derived.Stop.Joined
import Derived.SevenTiedAt
import Derived.WalkKit
import Derived.ProofKit
import Derived.OpenShut
import Derived.ShutString
import Derived.ChangeOld
import Derived.Below
import Derived.Lib.SmallJoins
import Derived.SizedLaws
import Derived.Deep.CondSized
import Derived.JoinedCond
set_option linter.unusedVariables false
set_option linter.unusedSimpArgs false
namespace Go.Proofs.YtjkfkecabhcnfaaDoor.lexBack
open Go.ChangeShapes Go.WideShapes Go.ChangeAt Go.RowKit Go.Joins
open Go.ChangeMaps (open_string shut_string)
attribute [local go_sem] GW.cell GW.frozen In.eq_true In.le_true In.ne In.ne' In.ne_add In.ne_add' In.lt_add Upto.le_true Upto.le_add Upto.lt_add
set_option maxHeartbeats 8000000 in
set_option maxRecDepth 100000 in
theorem walk (l : List Tk) (hb : (joinB (l.map (·.2))).length + l.length ≤ 1048576) (v : Value) (w : World) (h : Tw w [] v l) : Calls Tryd.prog 5 #[v] w fun e w' => e = .returned (.bool true) ∧ Ext w w' := by
  have hmay := hide (fun (x : Tk) (hx : x ∈ l) w => may_c x.1 ⟨x.2.toArray⟩ (by rw [str_size]; have := mem_joinB (l.map (·.2)) x.2 (List.mem_map.2 ⟨x, hx, rfl⟩); omega) w)
  have hjc := hide (fun w' (hX : Ext w w') => join_c l v w' (Sl.ext h hX) (by omega) (by omega))
  have hsame := hide (fun u w' (hX : Ext w w') (hu : Tw w' [] u l) => tokSame_c (Sl.ext h hX) hu)
  rw [decide_eq_true rfl] at hsame
  have hsp := hide (fun (ha : ∀ t ∈ l, mayT t = true) w' => (by
    have := split_c ⟨(joinB (l.map (·.2))).toArray⟩ (by rw [str_size]; omega) w'
    rw [str_back, spl_join l ha] at this
    exact this : Calls Tryd.prog 8 #[.string ⟨(joinB (l.map (·.2))).toArray⟩] w' fun e w'' => ∃ v', e = .returned (.tuple #[v', .int .i64 0]) ∧ OwnK w'' w'.heap.size v' l ∧ Ext w' w''))
  obtain ⟨J, hJ⟩ : ∃ J : ByteArray, J = ⟨(joinB (l.map (·.2))).toArray⟩ := ⟨_, rfl⟩
  rw [← hJ] at hjc hsp
  clear hJ
  obtain ⟨A, cap, rfl, hl, hm, hat⟩ := tw_form h
  replace hat := hide hat
  obtain ⟨n, hn⟩ : ∃ n, n = l.length := ⟨_, rfl⟩
  have hn1 : n ≤ 1048576 := by omega
  rw [← hn] at hl hjc hsame ⊢
  replace hn := hide hn
  clear h hm hb
  go_enter Tryd.func5, Tryd.ntmps5
  go_wp2_with fail
  go_loopg [3] n (fun gh iv wr => ∃ (k : Nat), iv = .int .i64 k ∧ k + gh = n ∧ Hid (∀ t ∈ l.take k, mayT t = true) ∧ Ext w wr)
  case atStart => exact ⟨0, rfl, by omega, (by intro t ht; simp at ht), Ext.refl w⟩
  case round =>
    obtain ⟨k, rfl, hk, hall, hX⟩ := hrel
    by_cases hlt : k < n
    · obtain ⟨x, hx⟩ : ∃ x, l[k]? = some x := ⟨_, List.getElem?_eq_getElem (by have := hn.out; omega)⟩
      obtain ⟨b, o, rfl, -, hb, c0, c1⟩ := hat.out k x hx
      have k0 := cell_later' hX c0
      have k1 := cell_later' hX c1
      have hbr : b < wr.heap.size := block_lt_of_cell k0
      have hmc := hide (hmay.out x (List.mem_of_getElem? hx))
      rw [show ((x.1, x.2) : Tk) = x from rfl] at hmc
      have hnx : mayT x = true → Hid (∀ t ∈ l.take (k + 1), mayT t = true) := by
        intro hm t ht
        rw [List.take_add_one, hx] at ht
        rcases List.mem_append.1 ht with ht | ht
        · exact hall.out t ht
        · simp at ht; rw [ht]; exact hm
      replace hnx := hide hnx
      cases hm : mayT x with
      | false =>
        rw [hm] at hmc
        obtain ⟨xk, xs⟩ := x
        simp only at k0 k1 hmc
        generalize (⟨xs.toArray⟩ : ByteArray) = sx at *
        clear hat hx c0 c1 hmay hm hnx
        go_wp2_with (first | (go_at_call 11; (with_reducible refine seq_gw (hmc.out _) ?_); intro g) | (go_at_call 7; (with_reducible refine seq_gw' (lexLive_c _) ?_); intro g1))
        go_returns
        exact ⟨rfl, hX.trans g1.grown⟩
      | true =>
        rw [hm] at hmc
        have hn2 := hnx.out hm
        obtain ⟨xk, xs⟩ := x
        simp only at k0 k1 hmc
        generalize (⟨xs.toArray⟩ : ByteArray) = sx at *
        clear hat hx c0 c1 hmay hm hnx
        go_wp2_with (first | (go_at_call 11; (with_reducible refine seq_gw (hmc.out _) ?_); intro g))
        go_roundg (n - (k + 1))
        case measure => omega
        case rel => exact ⟨k + 1, by go_num, by omega, hn2, hX.trans g.grown⟩
    · have hge : (n : Int) ≤ k := by omega
      have hall2 : ∀ t ∈ l, mayT t = true := by
        have := hall.out
        rwa [List.take_of_length_le (by have := hn.out; omega)] at this
      have hs2 := hide (hsp.out hall2)
      clear hat hlt hmay hall hall2 hsp
      go_wp2_with (first | (go_at_call 13; (with_reducible refine seq_gw (hjc.out _ hX) ?_); intro g1) | (go_at_call 8; refine (hs2.out _).mono ?_; rintro ee w2 ⟨v2, rfl, ho2, hx2⟩; have hX2 := hide ((hX.trans g1.grown).trans hx2); have htw2 := hide (own_tw (S := []) ho2 (by simp)); obtain ⟨A2, cap2, rfl⟩ : ∃ A cap, v2 = .slice A l.length cap := own_form ho2; rw [← hn.out] at htw2; rw [← hn.out]) | (go_at_call 7; (with_reducible refine seq_gw (lexLive_c _) ?_); intro g3) | (go_at_call 15; (with_reducible refine seq_gw' (hsame.out _ _ (hX2.out.trans g3.grown) (Sl.ext htw2.out g3.grown)) ?_); intro g4))
      go_returns
      exact ⟨by first | rfl | simp, hX2.out.trans g4.grown⟩

theorem own : ownKnob Tryd.prog.godebug = none := by kernel_rfl
theorem laidOut : laidOutB Tryd.prog = true := by kernel_rfl
/-- The variables that the row lists. -/
def laidL : List (String × DataW Unit) := [("unicode/utf8.acceptRanges", Rows.laid_unicode_utf8_acceptRanges), ("unicode/utf8.first", Rows.laid_unicode_utf8_first)]
/-- A world for the witness: what the door lays, and the library's pinned table. -/
noncomputable def laidW (os : Os) : World := { World.doorLaid Tryd.prog 19 os with heap := (World.doorLaid Tryd.prog 19 os).heap.modify 1 fun
  | .cells _ t frozen => .cells (Go.Pinned.utf8FirstZ.map fun (n : Nat) => Value.int .u8 (n : Int)).toArray t frozen
  | o => o }
theorem laid_met (os : Os) : laidMetH Tryd.prog laidL ((laidW os).forCall (fun _ _ => 0) ⟨#[], #[.slice none 0 0], []⟩).memory := laidMetH_of_parts3 (fuel := 8) (laidMet_of_run' 8 (by kernel_rfl) (by kernel_rfl)) (by kernel_rfl) (by kernel_rfl)
theorem reads (os : Os) {H : Type} (enc : TypeId × Value → H) : ∃ places, DataW.whole enc Tryd.prog ((laidW os).forCall (fun _ _ => 0) ⟨#[], #[.slice none 0 0], []⟩).memory Tryd.f5.params.toList Rows.lexBackSpec.vars false #[.slice none 0 0].toList 8 = some ([.nil], [], places) := ⟨[], by kernel_rfl⟩
set_option maxRecDepth 100000 in
theorem lifted (os : Os) (started : os.Started) (H : Type) (enc : TypeId × Value → H) (F : Stop.Interp) :
    ReturnsInHanded {} Tryd.checked os 5 .any ((Rows.OpenSpec.upto Rows.lexBackSpec).preRow enc Tryd.prog Tryd.f5 Rows.lexBackUptoRow.domain false laidL) (((Rows.OpenSpec.upto Rows.lexBackSpec).at F).post enc Tryd.prog Tryd.f5 false true false false) := by
  obtain ⟨places, hx⟩ := reads os enc
  refine returnsInHanded_of_row (C := Tryd.checked) (s := (Rows.OpenSpec.upto Rows.lexBackSpec)) own started (by kernel_rfl) Tryd.func5
    (witness_row_at (enc := enc) (C := Tryd.checked) false (laidW os) #[.slice none 0 0] rfl (by kernel_rfl) (by kernel_rfl) (by kernel_rfl)
      (OpenSpec.preRow_of_cond 8 hx (by kernel_rfl) (fun k hk => by cases hk; kernel_rfl) (by kernel_rfl) (laid_met os))) ?_
  intro W base args ds gs before hval0 hW hcnd hcond hsz0 hL _ _
  have hsz : (DataW.weightsEach Tryd.prog (Tryd.f5.params.toList ++ (Rows.OpenSpec.upto Rows.lexBackSpec).bare.plain.varTypes Tryd.prog) (ds ++ gs)).all (· ≤ reachBytes) = true := hsz0
  clear hsz0
  have hbulk : Rows.uptoSmall H (ds ++ gs) = true := hcond _ rfl
  have hval : ∀ (j : Nat) t v, Tryd.f5.params[j]? = some t → args[j]? = some v → Value.okWide Tryd.prog W .any base t v := hval0
  have hW' := hW
  obtain ⟨p, q, hA0, hV, rfl, hfz, hnd⟩ := hW
  have hA : DataW.TrodAll enc Tryd.prog W 0 (fun _ => true) true Tryd.f5.params.toList args.toList ds p := hA0
  rw [Tryd.params5] at hA hval hsz
  obtain ⟨v0, vs0, d0, ds0, p0, q0, hargs, rfl, rfl, h0, r0⟩ := trodAll_cons hA
  obtain ⟨rfl, rfl, rfl⟩ := trodAll_nil r0
  obtain rfl : args = #[v0] := by cases args; simp_all
  obtain ⟨rfl, rfl⟩ := trodVars_none hV
  have k0 := h0
  have lt0 : ∀ x ∈ p0, x.block < W.heap.size := by obtain ⟨m, hm⟩ := k0; exact DataW.trod_lt m _ _ _ hm
  obtain ⟨A0, n0, c0, rfl⟩ := okWide_slice Tryd.underlying23 (hval 0 23 v0 rfl rfl)
  have ⟨m0, hm0⟩ := h0
  obtain ⟨l, ll, hl, bl⟩ := open_toks Tryd.underlying23 Tryd.underlying33 (by kernel_rfl) rfl rfl (by kernel_rfl) (by kernel_rfl) Tryd.underlying3 Tryd.underlying9 hm0
  clear hA0 hval0
  have hbk : Rows.uptoBulk d0 ≤ 1048576 := by
    have h := of_decide_eq_true hbulk
    simp only [Rows.uptoBulkAll, List.append_nil] at h
    omega
  refine (walk l (bulk_of_toks bl hbk) _ W hl).mono fun e W' ⟨he, bel⟩ => ?_
  subst he
  exact ⟨_, rfl, _, _, _, [], _, [], hW', trodAll_mk1 (shut_bool Tryd.underlying4 _), (trodAll_cons_mk (Below.trod laidOut (by kernel_rfl) (of_decide_eq_true (by kernel_rfl)) k0 bel lt0) trodAll_mk0), rfl, bel.frame _, fun h => by cases h⟩

theorem over : Rows.LexBackUptoSaid :=
  OpenClaim.holds_of_cond 5 Tryd.f5 rfl rfl rfl rfl rfl rfl rfl ⟨rfl, rfl, rfl, rfl, rfl⟩ rfl rfl rfl rfl rfl (by kernel_rfl) Tryd.func5 (by kernel_rfl)
    (of_decide_eq_true (by kernel_rfl)) (by unfold Func.isWrapper; first | (rw [if_pos (by decide +kernel)]; kernel_rfl) | (rw [if_neg (by decide +kernel)]; exact ⟨rfl, rfl⟩))
    (fun os started H enc _ F => by rw [OpenClaim.pre_eq_preRow]; exact lifted os started H enc F)

theorem plain (f : FuncId) (fn : Func) (hf : Tryd.pinned.checked.prog.funcNamed "rescind/rescindlaw19.LexBack" = some f) (hfn : Tryd.pinned.checked.prog.funcs[f]? = some fn) :
    false = Tryd.pinned.checked.prog.looks [] ∧ ∀ (j : Nat) t, fn.params[j]? = some t → Tryd.pinned.checked.prog.wantsStandIn t = false := by
  obtain rfl : f = 5 := Option.some.inj ((show Tryd.prog.funcNamed "rescind/rescindlaw19.LexBack" = some 5 by kernel_rfl).symm.trans hf) |>.symm
  obtain rfl : fn = Tryd.f5 := (Option.some.inj (Tryd.func5.symm.trans hfn)).symm
  refine ⟨by kernel_rfl, fun j t ht => ?_⟩
  rw [Tryd.params5] at ht
  have hm : t ∈ [23] := by simpa using Array.mem_of_getElem? ht
  have hall : ([23].all fun u => !Tryd.prog.wantsStandIn u) = true := by kernel_rfl
  exact (show Tryd.prog.wantsStandIn t = false by simpa using List.all_eq_true.1 hall t hm)
theorem lexBackUpto_card : Rows.LexBackUptoCardSaid :=
  Claim7.holds_tied_plain_at .later [] _ _ _ _ over (fun _ h => by cases h) (by kernel_rfl) (fun _ h => by cases h) lexBackUpto_row_tie rfl ⟨rfl, rfl⟩ (by kernel_rfl) rfl plain (by kernel_rfl)
end Go.Proofs.YtjkfkecabhcnfaaDoor.lexBack
