/-
  Layer 19 (lex), 19.1, 19.2: which things are tokens, and how tokens are joined, is as the document says: every list of tokens of bulk up to 1,048,576. Tied to the tables of the library.
-/
import Derived.Test.YtjkfkecabhcnfaaDoorLexV
import Derived.Test.YtjkfkecabhcnfaaDoorLexH
import Derived.Test.YtjkfkecabhcnfaaDoorArgK
import Derived.Test.YtjkfkecabhcnfaaDoorCards
import Derived.Test.YtjkfkecabhcnfaaDoorTie
import Derived.Deep.DeepHandedRow
import Derived.Lib.LaidTab
import Derived.LaidMore
import Derived.Stop.Joined
import Derived.SevenTiedAt
import Derived.WalkKit
import Derived.ProofKit
import Derived.OpenShut
import Derived.ShutString
import Derived.ChangeOld
import Derived.Below
import Derived.Lib.SmallJoins
import Derived.SizedLaws
import Derived.Deep.CondSized
import Derived.JoinedCond
set_option linter.unusedVariables false
set_option linter.unusedSimpArgs false
namespace Go.Proofs.YtjkfkecabhcnfaaDoor.lexMay
open Go.ChangeShapes Go.WideShapes Go.ChangeAt Go.RowKit Go.Joins
open Go.ChangeMaps (open_string shut_string)
attribute [local go_sem] GW.cell GW.frozen In.eq_true In.le_true In.ne In.ne' In.ne_add In.ne_add' In.lt_add Upto.le_true Upto.le_add Upto.lt_add
/-- A block that was made. -/
def newB (n : Nat) : Fact := .st (fun v w => ∃ b, v = .pointer (some ⟨b, 0, none⟩) ∧ n ≤ b ∧ Ob w b 34 [.int .i64 0, .string ⟨#[]⟩]) (fun _ _ _ ⟨b, e, h1, h2⟩ k => ⟨b, e, h1, h2.ext k⟩)
set_option maxHeartbeats 8000000 in
set_option maxRecDepth 100000 in
theorem walk (l : List Tk) (hb : (joinB (l.map (·.2))).length + l.length ≤ 1048576) (v : Value) (w : World) (h : Tw w [] v l) : Calls Tryd.prog 4 #[v] w fun e w' => e = .returned (.bool true) ∧ Ext w w' := by
  have hszx := hide (fun (x : Tk) (hx : x ∈ l) => (show (⟨x.2.toArray⟩ : ByteArray).size ≤ 9223372036854775806 by rw [str_size]; have := mem_joinB (l.map (·.2)) x.2 (List.mem_map.2 ⟨x, hx, rfl⟩); omega))
  have hmay := hide (fun (x : Tk) (hx : x ∈ l) w => may_c x.1 ⟨x.2.toArray⟩ (hszx.out x hx) w)
  have hrma := hide (fun (x : Tk) (hx : x ∈ l) w => refMayT_c x.1 ⟨x.2.toArray⟩ (hszx.out x hx) w)
  have hjc := hide (fun w' (hX : Ext w w') => join_c l v w' (Sl.ext h hX) (by omega) (by omega))
  have hrj := hide (fun u w' (hu : Tw w' [] u l) => refJoin_c l u w' hu hb)
  have hsame := hide (fun w' (hX : Ext w w') => tokSame_c (Sl.ext h hX) (Sl.ext h hX))
  rw [decide_eq_true rfl] at hsame
  obtain ⟨J, hJ⟩ : ∃ J : ByteArray, J = ⟨(joinB (l.map (·.2))).toArray⟩ := ⟨_, rfl⟩
  rw [← hJ] at hjc hrj
  clear hJ
  obtain ⟨A, cap, rfl, hl, hm, hat⟩ := tw_form h
  replace hat := hide hat
  obtain ⟨n, hn⟩ : ∃ n, n = l.length := ⟨_, rfl⟩
  have hn1 : n ≤ 1048576 := by omega
  rw [← hn] at hl hjc hsame ⊢
  have hlit := hide (World.ownsRow_lit (base := w.heap.size) (e := 34) (size := 2) w #[] 0 (Nat.le_refl _) (by decide) rfl)
  replace hn := hide hn
  clear h hm hb
  go_enter Tryd.func4, Tryd.ntmps4
  go_wp2_with fail
  go_loopg [3, 4] n (fun gh mv iv wr => ∃ (k : Nat), iv = .int .i64 k ∧ k + gh = n ∧ OwnQ wr w.heap.size mv (l.take k) ∧ Ext w wr)
  case atStart => exact ⟨0, rfl, by omega, (by have h := hlit.out; exact h), (Ext.refl w).alloc _⟩
  case round =>
    obtain ⟨k, rfl, hk, ho, hX⟩ := hrel
    clear hlit
    have hzX := hX.size
    by_cases hlt : k < n
    · obtain ⟨x, hx⟩ : ∃ x, l[k]? = some x := ⟨_, List.getElem?_eq_getElem (by have := hn.out; omega)⟩
      obtain ⟨b, o, rfl, -, hb, c0, c1⟩ := hat.out k x hx
      have k0 := cell_later' hX c0
      have k1 := cell_later' hX c1
      have hbr : b < wr.heap.size := block_lt_of_cell k0
      haveI : In b wr := ⟨hbr⟩
      have hmem := List.mem_of_getElem? hx
      have hmc := hide (hmay.out x hmem)
      have hrc := hide (hrma.out x hmem)
      have hsn : l.take (k + 1) = l.take k ++ [x] := by rw [List.take_add_one, hx, Option.toList_some]
      have hlk : (l.take k).length = k := by rw [List.length_take]; have := hn.out; omega
      have hkI : (k : Int) < n := by omega
      obtain ⟨M, hM⟩ : ∃ M, M = l.take k := ⟨_, rfl⟩
      rw [← hM] at ho hlk hsn
      replace hsn := hide hsn
      obtain ⟨xk, xs⟩ := x
      simp only at k0 k1 hmc hrc
      obtain ⟨sx, hsx⟩ : ∃ sx : ByteArray, sx = ⟨xs.toArray⟩ := ⟨_, rfl⟩
      have hsl := hide (show sx.data.toList = xs by rw [hsx])
      rw [← hsx] at k1 hmc hrc
      generalize mayT (xk, sx.data.toList) = bb at *
      clear hat hx c0 c1 hmay hrma hszx hmem hM hsx
      go_wp2_with fail
      have hOb0 := hide (Ob.new wr 34 [.int .i64 0, .string ⟨#[]⟩])
      refine wp_region_list_tail 12 [.is (.slice (some ⟨b, o, none⟩) n cap), .is (.int .i64 (k : Int)), .is (.pointer (some ⟨b, o + k * 2, none⟩)), .is (.pointer (some ⟨b, o + k * 2, none⟩)), .is (.int .i64 xk), .is (.slice (some ⟨b, o, none⟩) n cap), .is (.int .i64 (k : Int)), .is (.pointer (some ⟨b, o + k * 2, none⟩)), .is (.pointer (some ⟨b, o + k * 2 + 1, none⟩)), .is (.string sx), .is (.agg #[.int .i64 xk, .string sx]), newB wr.heap.size] (by kernel_rfl) (by kernel_rfl) (by kernel_rfl) (by kernel_rfl) (by kernel_rfl) (by kernel_rfl) (by kernel_rfl) ?_ ?_
      · refine ⟨?_, ?_, ?_, ?_, ?_, ?_, ?_, ?_, ?_, ?_, ?_, ?_, trivial⟩
        · intro bb w' h hE
          have f0 : bb.tmps.getD 0 undef = .slice (some ⟨b, o, none⟩) n cap := hE 0 (of_decide_eq_true (by kernel_rfl))
          exact good_move (wanted_none rfl) rfl f0
        · intro bb w' h hE
          have f4 : bb.tmps.getD 4 undef = .int .i64 (k : Int) := hE 4 (of_decide_eq_true (by kernel_rfl))
          exact good_move (wanted_none rfl) rfl f4
        · intro bb w' h hE
          have f13 : bb.tmps.getD 13 undef = .slice (some ⟨b, o, none⟩) n cap := h.dep 0 _ 13 (by kernel_rfl) rfl rfl
          have f14 : bb.tmps.getD 14 undef = .int .i64 (k : Int) := h.dep 1 _ 14 (by kernel_rfl) rfl rfl
          exact good_index (wanted_none rfl) rfl f13 f14 (by simp [go_sem, hkI, hlt]) rfl
        · intro bb w' h hE
          have f15 : bb.tmps.getD 15 undef = .pointer (some ⟨b, o + k * 2, none⟩) := h.dep 2 _ 15 (by kernel_rfl) rfl rfl
          exact good_field (wanted_none rfl) rfl f15 (by simp [go_sem]) rfl
        · intro bb w' h hE
          have f16 : bb.tmps.getD 16 undef = .pointer (some ⟨b, o + k * 2, none⟩) := h.dep 3 _ 16 (by kernel_rfl) rfl rfl
          have q0 := cell_later' h.ext k0
          exact good_load (wanted_none rfl) rfl f16 (by simp [go_sem, q0]) rfl
        · intro bb w' h hE
          have f0 : bb.tmps.getD 0 undef = .slice (some ⟨b, o, none⟩) n cap := hE 0 (of_decide_eq_true (by kernel_rfl))
          exact good_move (wanted_none rfl) rfl f0
        · intro bb w' h hE
          have f4 : bb.tmps.getD 4 undef = .int .i64 (k : Int) := hE 4 (of_decide_eq_true (by kernel_rfl))
          exact good_move (wanted_none rfl) rfl f4
        · intro bb w' h hE
          have f18 : bb.tmps.getD 18 undef = .slice (some ⟨b, o, none⟩) n cap := h.dep 5 _ 18 (by kernel_rfl) rfl rfl
          have f19 : bb.tmps.getD 19 undef = .int .i64 (k : Int) := h.dep 6 _ 19 (by kernel_rfl) rfl rfl
          exact good_index (wanted_none rfl) rfl f18 f19 (by simp [go_sem, hkI, hlt]) rfl
        · intro bb w' h hE
          have f20 : bb.tmps.getD 20 undef = .pointer (some ⟨b, o + k * 2, none⟩) := h.dep 7 _ 20 (by kernel_rfl) rfl rfl
          exact good_field (wanted_none rfl) rfl f20 (by simp [go_sem]) rfl
        · intro bb w' h hE
          have f21 : bb.tmps.getD 21 undef = .pointer (some ⟨b, o + k * 2 + 1, none⟩) := h.dep 8 _ 21 (by kernel_rfl) rfl rfl
          have q1 := cell_later' h.ext k1
          exact good_load (wanted_none rfl) rfl f21 (by simp [go_sem, q1]) rfl
        · intro bb w' h hE
          have f17 : bb.tmps.getD 17 undef = .int .i64 xk := h.dep 4 _ 17 (by kernel_rfl) rfl rfl
          have f22 : bb.tmps.getD 22 undef = .string sx := h.dep 9 _ 22 (by kernel_rfl) rfl rfl
          refine good_run (wanted_none rfl) (v := .agg #[.int .i64 xk, .string sx]) ?_ rfl
          have g17 : bb.tmps[17]?.getD undef = .int .i64 xk := by rw [← Array.getD_eq_getD_getElem?]; exact f17
          have g22 : bb.tmps[22]?.getD undef = .string sx := by rw [← Array.getD_eq_getD_getElem?]; exact f22
          simp [execOp, Act.eval, g17, g22, go_sem]
        · intro bb w' h hE
          refine good_grow (w' := w'.alloc (.cells #[.int .i64 0, .string ⟨#[]⟩] 34)) (v := .pointer (some ⟨w'.heap.size, 0, none⟩)) (wanted_none rfl) ?_ ⟨w'.heap.size, rfl, h.ext.size, Ob.new w' 34 [.int .i64 0, .string ⟨#[]⟩]⟩ ((Ext.refl w').alloc _)
          simp [execOp, Act.eval, go_sem]
      · intro bb w2 hX2 hd2 hz2 he' hf
        have e13 : bb.tmps.getD 13 undef = .slice (some ⟨b, o, none⟩) n cap := hf 0 _ 13 (by omega) rfl rfl
        have e14 : bb.tmps.getD 14 undef = .int .i64 (k : Int) := hf 1 _ 14 (by omega) rfl rfl
        have e15 : bb.tmps.getD 15 undef = .pointer (some ⟨b, o + k * 2, none⟩) := hf 2 _ 15 (by omega) rfl rfl
        have e16 : bb.tmps.getD 16 undef = .pointer (some ⟨b, o + k * 2, none⟩) := hf 3 _ 16 (by omega) rfl rfl
        have e17 : bb.tmps.getD 17 undef = .int .i64 xk := hf 4 _ 17 (by omega) rfl rfl
        have e18 : bb.tmps.getD 18 undef = .slice (some ⟨b, o, none⟩) n cap := hf 5 _ 18 (by omega) rfl rfl
        have e19 : bb.tmps.getD 19 undef = .int .i64 (k : Int) := hf 6 _ 19 (by omega) rfl rfl
        have e20 : bb.tmps.getD 20 undef = .pointer (some ⟨b, o + k * 2, none⟩) := hf 7 _ 20 (by omega) rfl rfl
        have e21 : bb.tmps.getD 21 undef = .pointer (some ⟨b, o + k * 2 + 1, none⟩) := hf 8 _ 21 (by omega) rfl rfl
        have e22 : bb.tmps.getD 22 undef = .string sx := hf 9 _ 22 (by omega) rfl rfl
        have e23 : bb.tmps.getD 23 undef = .agg #[.int .i64 xk, .string sx] := hf 10 _ 23 (by omega) rfl rfl
        have f5 : ∃ b0, bb.tmps.getD 5 undef = .pointer (some ⟨b0, 0, none⟩) ∧ wr.heap.size ≤ b0 ∧ Ob w2 b0 34 [.int .i64 0, .string ⟨#[]⟩] := hf 11 _ 5 (by omega) rfl rfl
        have e := frame_puts hd2 hz2 he'
        obtain ⟨X, hXx⟩ : ∃ X : Nat → Value, ∀ d, bb.tmps.getD d undef = X d := ⟨_, fun _ => rfl⟩
        rw [hXx] at e13 e14 e15 e16 e17 e18 e19 e20 e21 e22 e23 f5
        obtain ⟨b0, e5, hb0, hO2⟩ := f5
        rw [show dstsOf _ = [13, 14, 15, 16, 17, 18, 19, 20, 21, 22, 23, 5] from rfl] at e
        simp only [List.foldl_cons, List.foldl_nil, hXx, Act.put, List.setIfInBounds_toArray, List.set_cons_succ, List.set_cons_zero] at e
        rw [e13, e14, e15, e16, e17, e18, e19, e20, e21, e22, e23, e5] at e
        clear hf he' hz2 hd2 hXx e13 e14 e15 e16 e17 e18 e19 e20 e21 e22 e23 e5
        subst e
        have hO3 := hide ((hO2.set 0 (.int .i64 xk)).set 1 (.string sx))
        have hX3 := hide ((hX2.setCell (p := ⟨b0, 0, none⟩) hb0 (.int .i64 xk)).setCell (p := ⟨b0, 1, none⟩) hb0 (.string sx))
        have p0 := hO2.cell 0 rfl
        have p1 := hO2.cell 1 rfl
        have pf := fun i => hO2.free i
        have pl := hO2.lt
        simp only [List.drop_succ_cons, List.drop_zero]
        go_wp2_with fail
        obtain ⟨w3, hw3⟩ : ∃ x, x = (w2.setCell ⟨b0, 0, none⟩ (.int .i64 xk)).setCell ⟨b0, 1, none⟩ (.string sx) := ⟨_, rfl⟩
        rw [← hw3] at hO3 hX3 ⊢
        clear hw3 p0 p1 pf pl hO2 hX2
        have m0 := cell_later' hX3.out k0
        have m1 := cell_later' hX3.out k1
        have hb3 := block_lt_of_cell m0
        haveI : In b w3 := ⟨hb3⟩
        have t0 := hO3.out.cell 0 rfl
        have t1 := hO3.out.cell 1 rfl
        have hb03 := hO3.out.lt
        haveI : In b0 w3 := ⟨hb03⟩
        have hz3 := hX3.out.size
        refine wp_region_gw (by kernel_rfl) (by kernel_rfl) ?_
        repeat (go_big_quiet_step (first | (go_at_call 11; with_reducible exact quiet_gw (hmc.out _)) | (go_at_call 12; with_reducible exact quiet_gw (hrc.out _))))
        refine wpQuiet_nil ?_
        intro g
        have hzg := GW.size g
        go_wp2_with (first | (at_builtin; (refine wpl_app tTokR rfl (.tmp 32) (.tmp 34) rfl rfl (own_ext ho ((hX3.out.trans g.grown).alloc _)) rfl (src_tok Tryd.underlying27 g.val xk sx _ _ rfl) (by unfold maxLen; omega) (by omega) (by simp only [World.size_alloc]; omega) ?_; intro v2 w9 ho2 hg2 _)))
        go_roundg (n - (k + 1))
        case measure => omega
        case rel => exact ⟨k + 1, by go_num, by omega, (by have := own_snocQ ho2; rw [hsl.out, ← hsn.out] at this; exact this), ext_grown (((hX.trans hX3.out).trans g.grown).alloc _) hg2 (fun k hk => (ho.lt k hk).1)⟩
    · have hge : (n : Int) ≤ k := by omega
      rw [List.take_of_length_le (by have := hn.out; omega)] at ho
      have htw := hide (show Tw wr [] u3 l from Sl.own (S := []) ho (by simp))
      clear hat hlt hmay hrma hszx
      go_wp2_with (first | (go_at_call 7; (with_reducible refine seq_gw (lexLive_c _) ?_); intro g1) | (go_at_call 13; (with_reducible refine seq_gw' (hjc.out _ (hX.trans g1.grown)) ?_); intro g2) | (go_at_call 14; (with_reducible refine seq_gw' (hrj.out _ _ (Sl.ext htw.out g2.grown)) ?_); intro g3) | (go_at_call 15; (with_reducible refine seq_gw' (hsame.out _ (hX.trans g3.grown)) ?_); intro g4))
      go_returns
      exact ⟨by first | rfl | simp, hX.trans g4.grown⟩

theorem own : ownKnob Tryd.prog.godebug = none := by kernel_rfl
theorem laidOut : laidOutB Tryd.prog = true := by kernel_rfl
/-- The variables that the row lists. -/
def laidL : List (String × DataW Unit) := [("unicode/utf8.acceptRanges", Rows.laid_unicode_utf8_acceptRanges), ("unicode/utf8.first", Rows.laid_unicode_utf8_first)]
/-- A world for the witness: what the door lays, and the library's pinned table. -/
noncomputable def laidW (os : Os) : World := { World.doorLaid Tryd.prog 19 os with heap := (World.doorLaid Tryd.prog 19 os).heap.modify 1 fun
  | .cells _ t frozen => .cells (Go.Pinned.utf8FirstZ.map fun (n : Nat) => Value.int .u8 (n : Int)).toArray t frozen
  | o => o }
theorem laid_met (os : Os) : laidMetH Tryd.prog laidL ((laidW os).forCall (fun _ _ => 0) ⟨#[], #[.slice none 0 0], []⟩).memory := laidMetH_of_parts3 (fuel := 8) (laidMet_of_run' 8 (by kernel_rfl) (by kernel_rfl)) (by kernel_rfl) (by kernel_rfl)
theorem reads (os : Os) {H : Type} (enc : TypeId × Value → H) : ∃ places, DataW.whole enc Tryd.prog ((laidW os).forCall (fun _ _ => 0) ⟨#[], #[.slice none 0 0], []⟩).memory Tryd.f4.params.toList Rows.lexMaySpec.vars false #[.slice none 0 0].toList 8 = some ([.nil], [], places) := ⟨[], by kernel_rfl⟩
set_option maxRecDepth 100000 in
theorem lifted (os : Os) (started : os.Started) (H : Type) (enc : TypeId × Value → H) (F : Stop.Interp) :
    ReturnsInHanded {} Tryd.checked os 4 .any ((Rows.OpenSpec.upto Rows.lexMaySpec).preRow enc Tryd.prog Tryd.f4 Rows.lexMayUptoRow.domain false laidL) (((Rows.OpenSpec.upto Rows.lexMaySpec).at F).post enc Tryd.prog Tryd.f4 false true false false) := by
  obtain ⟨places, hx⟩ := reads os enc
  refine returnsInHanded_of_row (C := Tryd.checked) (s := (Rows.OpenSpec.upto Rows.lexMaySpec)) own started (by kernel_rfl) Tryd.func4
    (witness_row_at (enc := enc) (C := Tryd.checked) false (laidW os) #[.slice none 0 0] rfl (by kernel_rfl) (by kernel_rfl) (by kernel_rfl)
      (OpenSpec.preRow_of_cond 8 hx (by kernel_rfl) (fun k hk => by cases hk; kernel_rfl) (by kernel_rfl) (laid_met os))) ?_
  intro W base args ds gs before hval0 hW hcnd hcond hsz0 hL _ _
  have hsz : (DataW.weightsEach Tryd.prog (Tryd.f4.params.toList ++ (Rows.OpenSpec.upto Rows.lexMaySpec).bare.plain.varTypes Tryd.prog) (ds ++ gs)).all (· ≤ reachBytes) = true := hsz0
  clear hsz0
  have hbulk : Rows.uptoSmall H (ds ++ gs) = true := hcond _ rfl
  have hval : ∀ (j : Nat) t v, Tryd.f4.params[j]? = some t → args[j]? = some v → Value.okWide Tryd.prog W .any base t v := hval0
  have hW' := hW
  obtain ⟨p, q, hA0, hV, rfl, hfz, hnd⟩ := hW
  have hA : DataW.TrodAll enc Tryd.prog W 0 (fun _ => true) true Tryd.f4.params.toList args.toList ds p := hA0
  rw [Tryd.params4] at hA hval hsz
  obtain ⟨v0, vs0, d0, ds0, p0, q0, hargs, rfl, rfl, h0, r0⟩ := trodAll_cons hA
  obtain ⟨rfl, rfl, rfl⟩ := trodAll_nil r0
  obtain rfl : args = #[v0] := by cases args; simp_all
  obtain ⟨rfl, rfl⟩ := trodVars_none hV
  have k0 := h0
  have lt0 : ∀ x ∈ p0, x.block < W.heap.size := by obtain ⟨m, hm⟩ := k0; exact DataW.trod_lt m _ _ _ hm
  obtain ⟨A0, n0, c0, rfl⟩ := okWide_slice Tryd.underlying23 (hval 0 23 v0 rfl rfl)
  have ⟨m0, hm0⟩ := h0
  obtain ⟨l, ll, hl, bl⟩ := open_toks Tryd.underlying23 Tryd.underlying33 (by kernel_rfl) rfl rfl (by kernel_rfl) (by kernel_rfl) Tryd.underlying3 Tryd.underlying9 hm0
  clear hA0 hval0
  have hbk : Rows.uptoBulk d0 ≤ 1048576 := by
    have h := of_decide_eq_true hbulk
    simp only [Rows.uptoBulkAll, List.append_nil] at h
    omega
  refine (walk l (bulk_of_toks bl hbk) _ W hl).mono fun e W' ⟨he, bel⟩ => ?_
  subst he
  exact ⟨_, rfl, _, _, _, [], _, [], hW', trodAll_mk1 (shut_bool Tryd.underlying4 _), (trodAll_cons_mk (Below.trod laidOut (by kernel_rfl) (of_decide_eq_true (by kernel_rfl)) k0 bel lt0) trodAll_mk0), rfl, bel.frame _, fun h => by cases h⟩

theorem over : Rows.LexMayUptoSaid :=
  OpenClaim.holds_of_cond 4 Tryd.f4 rfl rfl rfl rfl rfl rfl rfl ⟨rfl, rfl, rfl, rfl, rfl⟩ rfl rfl rfl rfl rfl (by kernel_rfl) Tryd.func4 (by kernel_rfl)
    (of_decide_eq_true (by kernel_rfl)) (by unfold Func.isWrapper; first | (rw [if_pos (by decide +kernel)]; kernel_rfl) | (rw [if_neg (by decide +kernel)]; exact ⟨rfl, rfl⟩))
    (fun os started H enc _ F => by rw [OpenClaim.pre_eq_preRow]; exact lifted os started H enc F)

theorem plain (f : FuncId) (fn : Func) (hf : Tryd.pinned.checked.prog.funcNamed "rescind/rescindlaw19.LexMay" = some f) (hfn : Tryd.pinned.checked.prog.funcs[f]? = some fn) :
    false = Tryd.pinned.checked.prog.looks [] ∧ ∀ (j : Nat) t, fn.params[j]? = some t → Tryd.pinned.checked.prog.wantsStandIn t = false := by
  obtain rfl : f = 4 := Option.some.inj ((show Tryd.prog.funcNamed "rescind/rescindlaw19.LexMay" = some 4 by kernel_rfl).symm.trans hf) |>.symm
  obtain rfl : fn = Tryd.f4 := (Option.some.inj (Tryd.func4.symm.trans hfn)).symm
  refine ⟨by kernel_rfl, fun j t ht => ?_⟩
  rw [Tryd.params4] at ht
  have hm : t ∈ [23] := by simpa using Array.mem_of_getElem? ht
  have hall : ([23].all fun u => !Tryd.prog.wantsStandIn u) = true := by kernel_rfl
  exact (show Tryd.prog.wantsStandIn t = false by simpa using List.all_eq_true.1 hall t hm)
theorem lexMayUpto_card : Rows.LexMayUptoCardSaid :=
  Claim7.holds_tied_plain_at .later [] _ _ _ _ over (fun _ h => by cases h) (by kernel_rfl) (fun _ h => by cases h) lexMayUpto_row_tie rfl ⟨rfl, rfl⟩ (by kernel_rfl) rfl plain (by kernel_rfl)
end Go.Proofs.YtjkfkecabhcnfaaDoor.lexMay
