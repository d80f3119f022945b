/-
  Layer 17 (expr), 17.1, 17.4: the parts, one behind the other, and the last word are the expression; each is in form, and they are as many as the word takes: every list of words. No condition.
-/
import Derived.Test.YtldepealkomjlaaExpL
import Derived.Test.YtldepealkomjlaaExpM
import Derived.Test.YtldepealkomjlaaArgV
import Derived.Test.YtldepealkomjlaaExpC
import Derived.WalkKit
import Derived.ProofKit
import Derived.OpenShut
import Derived.ShutString
import Derived.ChangeOld
import Derived.Below
import Derived.Lib.SmallJoins
import Derived.SizedLaws
import Derived.Deep.CondSized
import Derived.JoinedCond
set_option linter.unusedVariables false
set_option linter.unusedSimpArgs false
namespace Go.Proofs.Ytldepealkomjlaa.exprParts
open Go.ChangeShapes Go.WideShapes Go.ChangeAt Go.RowKit Go.Joins
open Go.ChangeMaps (open_string shut_string)
attribute [local go_sem] GW.cell GW.frozen In.eq_true In.le_true In.ne In.ne' In.ne_add In.ne_add' In.lt_add Upto.le_true Upto.le_add Upto.lt_add

theorem parts_at {w : World} {base : Nat} {v : Value} {L : List (List Vl)} (h : PartsIn w base v L) (i : Nat) (l : List Vl) (hl : L[i]? = some l) : ∃ (g cap : Nat) (A : Option Addr) (c : Nat), v = .slice (some ⟨g, 0, none⟩) L.length cap ∧ g < w.heap.size ∧ w.cell? ⟨g, i, none⟩ = some (.slice A l.length c) ∧ Rw w [] (.slice A l.length c) l := by
  obtain ⟨us, ho, hr⟩ := h
  obtain ⟨u, hu, hw⟩ := hr i l hl
  obtain ⟨A, c, rfl, -⟩ := rw_form hw
  have hi := (List.getElem?_eq_some_iff.1 hl).1
  rcases ho.2 with ⟨_, h0⟩ | ⟨g, cap, cur, rfl, _⟩
  · omega
  · have c1 := ho.cells (g := g) rfl i _ hu
    rw [add_plain, Nat.zero_add] at c1
    exact ⟨g, cap, A, c, rfl, block_lt_of_cell c1, c1, hw⟩
theorem flats_take (K : List Tr) (i : Nat) (t : Tr) (h : K[i]? = some t) : flats (K.take (i + 1)) = flats (K.take i) ++ t.flat := by
  rw [List.take_add_one, h, Option.toList_some, flats_app]; simp [flats]
theorem flats_le (K : List Tr) (i : Nat) : (flats (K.take i)).length ≤ (flats K).length := by
  have : flats K = flats (K.take i) ++ flats (K.drop i) := by rw [← flats_app, List.take_append_drop]
  rw [this, List.length_append]; omega
set_option maxHeartbeats 8000000 in
set_option maxRecDepth 100000 in
theorem walk (l : List Vl) (v : Value) (w : World) (h : Rw w [] v l) : Calls Try.prog 5 #[v] w fun e w' => e = .returned (.bool true) ∧ Ext w w' := by
  have h1 := hide (parts_c l v w h)
  have h2 := hide (fun w' (hX : Ext w w') => form_c l v w' (Sl.ext h hX))
  by_cases hz : formE l = 0
  · obtain ⟨t, tg, rfl, h64⟩ := formE_tree hz
    have hpt := hide (fun L (hL : partsE t.flat L) => parts_tree tg h64 hL)
    rw [hz] at h1 h2
    have hsm := hide (fun u w' (hX : Ext w w') (hu : Rw w' [] u t.flat) => exprSame_c hu (Sl.ext h hX))
    have hsr := hide (fun u w' (hX : Ext w w') (hu : Rw w' [] u t.flat) => refExprSame_c hu (Sl.ext h hX))
    rw [decide_eq_true rfl] at hsm hsr
    obtain ⟨A, cap, rfl, hl, hm, hat⟩ := rw_form h
    have hkl := t.kids_len tg
    have hkg := t.kids_good tg
    have hfl : t.flat = flats t.kids ++ [t.top] := by rw [Tr.flat_kids]; rfl
    have hlen : t.flat.length = (flats t.kids).length + 1 := by rw [hfl]; simp
    obtain ⟨b, off, rfl, -, hb, c0, c1, c2⟩ := hat (flats t.kids).length t.top (by rw [hfl]; simp)
    have htk := hide (fun w => refTakes_c t.top.1 w)
    rw [hkl] at htk
    have hform := hide (fun (i : Nat) (s : Tr) (hi : t.kids[i]? = some s) u w' (hu : Rw w' [] u s.flat) => form_c s.flat u w' hu)
    have hforz : Hid (∀ (i : Nat) (s : Tr), t.kids[i]? = some s → formE s.flat = 0 ∧ s.flat.length ≤ 64) := by
      intro i s hi
      have hmem := List.mem_of_getElem? hi
      have h1 := flats_le t.kids (i + 1)
      rw [flats_take _ _ _ hi, List.length_append] at h1
      exact ⟨formE_of (hkg s hmem) (by omega), by omega⟩
    have hk2 : t.kids.length ≤ 2 := by cases t <;> simp [Tr.kids]
    generalize t.kids = K at *
    generalize t.top = o at *
    replace hfl := hide hfl
    replace hkg := hide hkg
    clear hz hkl hm hat h
    generalize hq : (flats K).length = m at *
    replace hq := hide hq
    generalize t.flat = F at *
    generalize hN : F.length = N at *
    replace hN := hide hN
    subst hlen
    obtain ⟨oc, on, os⟩ := o
    simp only at c0 c1 c2 htk
    have hm1 : (m : Int) < m + 1 := by omega
    go_enter Try.func5, Try.ntmps5
    go_wp2_with (first | (go_at_call 17; refine h1.out.mono ?_; rintro ee w1 ⟨v1, L, rfl, hL, hP, hx1⟩; obtain rfl := hpt.out L hL; replace hP := hide hP; obtain ⟨P, pc, rfl⟩ : ∃ P pc, v1 = .slice P (K.map Tr.flat).length pc := (let ⟨us, ho, _⟩ := hP.out; own_form ho); have k0 := cell_later hx1 c0; have k1 := cell_later hx1 c1; have k2 := cell_later hx1 c2; have hbr := block_lt_of_cell k0; haveI : In b w1 := ⟨hbr⟩) | (go_at_call 11; (with_reducible refine seq_gw (h2.out _ hx1) ?_); intro g2))
    clear h1 h2 hpt c0 c1 c2 k0 k1 k2
    have hXA := hide (Ext.refl (g2.val.alloc (.cells #[.int .i64 oc, .int .i64 on, .string os] 40)))
    have hwA := hide ((hx1.trans g2.grown).alloc (.cells #[.int .i64 oc, .int .i64 on, .string os] 40))
    have h1A := hide (g2.grown.alloc (.cells #[.int .i64 oc, .int .i64 on, .string os] 40))
    have hlit := hide (World.ownsRow_lit (base := g2.val.heap.size + 1) (e := 40) (size := 3) (g2.val.alloc (.cells #[.int .i64 oc, .int .i64 on, .string os] 40)) #[] 0 (by simp only [World.size_alloc]; omega) (by decide) rfl)
    rw [World.size_alloc] at hlit
    have hOb := hide (Ob.new g2.val 40 [.int .i64 oc, .int .i64 on, .string os])
    go_loopg [6, 7] K.length (fun gh wv iv wr => ∃ (i : Nat), iv = .int .i64 i ∧ i + gh = K.length ∧ OwnX wr (g2.val.heap.size + 1) wv (flats (K.take i)) ∧ Ext (g2.val.alloc (.cells #[.int .i64 oc, .int .i64 on, .string os] 40)) wr)
    case atStart => exact ⟨0, rfl, by omega, (by have h := hlit.out; exact h), (Ext.refl _).alloc _⟩
    case round =>
      obtain ⟨i, rfl, hi, ho, hX⟩ := hrel
      clear hlit
      by_cases hlt : i < K.length
      · obtain ⟨s, hs⟩ : ∃ s, K[i]? = some s := ⟨_, List.getElem?_eq_getElem hlt⟩
        obtain ⟨gp, pcap, A1, c1, e, hgp, hcell, hrw⟩ := parts_at (hP.out.ext (h1A.out.trans hX)) i s.flat (by rw [List.getElem?_map, hs]; rfl)
        obtain ⟨rfl, -, rfl⟩ := Value.slice.inj e
        obtain ⟨hz0, h64s⟩ := hforz.out i s hs
        have hfc := hide (hform.out i s hs _ wr hrw)
        rw [hz0] at hfc
        haveI : In gp wr := ⟨hgp⟩
        have hacc := flats_take K i s hs
        have hle := flats_le K i
        rw [hq.out] at hle
        have hltI : (i : Int) < K.length := by omega
        replace hrw := hide hrw
        have hzX := hX.size
        rw [World.size_alloc] at hzX
        replace hacc := hide hacc
        clear e hs hP hz0
        go_wp2_with (first | (go_at_call 11; (with_reducible refine seq_gw hfc.out ?_); intro g5) | (at_builtin; (refine wpl_app tOp rfl (.tmp 44) (.tmp 48) rfl rfl (own_ext ho g5.grown) rfl (src_sl Try.underlying23 (Sl.ext hrw.out g5.grown) (rc_one _) (by omega)) (by unfold maxLen; omega) (by omega) (by have := GW.size g5; omega) ?_; intro v6 w6 ho6 hg6 _)))
        go_roundg (K.length - (i + 1))
        case measure => omega
        case rel =>
          have ho7 := own_appX ho6
          rw [← hacc.out] at ho7
          exact ⟨i + 1, by go_num, by omega, ho7, ext_grown (hX.trans g5.grown) hg6 (fun k hk => (by have := (ho.lt k hk).1; rw [World.size_alloc]; exact this))⟩
      · have hge : (K.length : Int) ≤ i := by omega
        rw [List.take_of_length_le (by omega)] at ho
        have hzX := hX.size
        rw [World.size_alloc] at hzX
        have q0 := (hOb.out.ext hX).cell 0 rfl
        have q1 := (hOb.out.ext hX).cell 1 rfl
        have q2 := (hOb.out.ext hX).cell 2 rfl
        have hbo : g2.val.heap.size < wr.heap.size := by omega
        haveI : In g2.val.heap.size wr := ⟨hbo⟩
        obtain ⟨gs, hgs⟩ : ∃ gs, gs = g2.val.heap.size := ⟨_, rfl⟩
        have hwr := hide (hwA.out.trans hX)
        have hqK : (flats K).length ≤ 64 := by have := hq.out; omega
        clear hform hforz hP hlt
        go_wp2_with (first | (at_builtin; (refine wpl_app tOp rfl (.tmp 50) (.tmp 52) rfl rfl (own_ext ho ((Ext.refl wr).alloc _)) rfl (src_word Try.underlying23 wr (oc, on, os) _) (by unfold maxLen; omega) (by omega) (by simp only [World.size_alloc]; omega) ?_; intro v8 w8 ho8 hg8 _; have ho9 : OwnX w8 (g2.val.heap.size + 1) v8 F := (by have := own_appX (m := [(oc, on, os)]) (by simpa [rc] using ho8); rw [← hfl.out] at this; exact this); have hX8 := hide (ext_grown (hwr.out.alloc (.cells #[.int .i64 oc, .int .i64 on, .string os] 40)) hg8 (fun k hk => (by have := (ho.lt k hk).1; have := hwA.out.size; rw [World.size_alloc] at this; omega))); have r0 := (((hOb.out.ext hX).alloc (.cells #[.int .i64 oc, .int .i64 on, .string os] 40)).grown hg8 (by intro e; have := (ho.lt _ e.symm).1; omega)).cell 0 rfl; have hb8 := block_lt_of_cell r0; haveI : In g2.val.heap.size w8 := ⟨hb8⟩; have hw8 := hide (own_xw (S := []) ho9 (by simp)))) | (go_at_call 10; (with_reducible refine seq_gw (expLive_c _) ?_); intro g9) | (go_at_call 14; (with_reducible refine seq_gw' (htk.out _) ?_); intro g10) | (go_at_call 18; (with_reducible refine seq_gw' (hsr.out _ _ (hX8.out.trans g10.grown) (Sl.ext hw8.out g10.grown)) ?_); intro g11) | (go_at_call 19; (with_reducible refine seq_gw' (hsm.out _ _ (hX8.out.trans g11.grown) (Sl.ext hw8.out g11.grown)) ?_); intro g12))
        go_returns
        exact ⟨by first | rfl | simp, hX8.out.trans g12.grown⟩
  · have hzI : (formE l != 0) = true := by simpa using hz
    have hLz : Hid (∀ L, partsE l L → L = []) := by
      intro L hL
      rcases hL with ⟨-, e⟩ | ⟨t, tg, rfl, h64, -⟩
      · exact e
      · exact absurd (formE_of tg h64) hz
    obtain ⟨A, cap, rfl, -, -, -⟩ := rw_form h
    generalize formE l = E at *
    clear h hz
    go_enter Try.func5, Try.ntmps5
    go_wp2_with (first | (go_at_call 17; refine h1.out.mono ?_; rintro ee w1 ⟨v1, L, rfl, hL, hP, hx1⟩; obtain rfl := hLz.out L hL; obtain ⟨P, pc, rfl⟩ : ∃ P pc, v1 = .slice P ([] : List (List Vl)).length pc := (let ⟨us, ho, _⟩ := hP; own_form ho)) | (go_at_call 11; (with_reducible refine seq_gw (h2.out _ hx1) ?_); intro g2) | (go_at_call 10; (with_reducible refine seq_gw' (expLive_c _) ?_); intro g3))
    go_returns
    exact ⟨by first | rfl | simp, hx1.trans g3.grown⟩

theorem own : ownKnob Try.prog.godebug = none := by kernel_rfl
theorem laidOut : laidOutB Try.prog = true := by kernel_rfl
set_option maxRecDepth 100000 in
theorem lifted (os : Os) (started : os.Started) (H : Type) (enc : TypeId × Value → H) :
    ReturnsInHanded {} Try.checked os 5 .any (Rows.exprPartsSpec.pre6 enc Try.prog Try.f5 Rows.exprPartsRow.domain false) (Rows.exprPartsSpec.post enc Try.prog Try.f5 false true false false) := by
  refine returnsInHanded_of_change_sized (C := Try.checked) own started (by kernel_rfl) Try.func5
    (ChangeSpec.witness6 (enc := enc) (C := Try.checked) false ⟨#[], #[.slice none 0 0], []⟩ 8 (by kernel_rfl) (by kernel_rfl) (by kernel_rfl) (by kernel_rfl)) ?_
  intro W base args ds gs before hval0 hW hcnd hsz0 _
  have hsz : (DataW.weightsEach Try.prog (Try.f5.params.toList ++ Rows.exprPartsSpec.plain.varTypes Try.prog) (ds ++ gs)).all (· ≤ reachBytes) = true := hsz0
  clear hsz0
  have hval : ∀ (j : Nat) t v, Try.f5.params[j]? = some t → args[j]? = some v → Value.okWide Try.prog W .any base t v := hval0
  have hW' := hW
  obtain ⟨p, q, hA0, hV, rfl, hfz, hnd⟩ := hW
  have hA : DataW.TrodAll enc Try.prog W 0 (fun _ => true) true Try.f5.params.toList args.toList ds p := hA0
  rw [Try.params5] at hA hval hsz
  obtain ⟨v0, vs0, d0, ds0, p0, q0, hargs, rfl, rfl, h0, r0⟩ := trodAll_cons hA
  obtain ⟨rfl, rfl, rfl⟩ := trodAll_nil r0
  obtain rfl : args = #[v0] := by cases args; simp_all
  obtain ⟨rfl, rfl⟩ := trodVars_none hV
  have k0 := h0
  have lt0 : ∀ x ∈ p0, x.block < W.heap.size := by obtain ⟨m, hm⟩ := k0; exact DataW.trod_lt m _ _ _ hm
  obtain ⟨A0, n0, c0, rfl⟩ := okWide_slice Try.underlying23 (hval 0 23 v0 rfl rfl)
  have ⟨m0, hm0⟩ := h0
  obtain ⟨l, ll, hl, ql⟩ := open_row Try.underlying23 Try.underlying40 (by kernel_rfl) rfl rfl rfl (by kernel_rfl) (by kernel_rfl) (by kernel_rfl) Try.underlying24 Try.underlying3 Try.underlying9 hm0
  have zl : l.length * 32 ≤ 140737488351232 := by rw [ll]; exact sized_elems hsz (j := 0) (t := 23) (e := 40) rfl rfl Try.underlying23 (by kernel_rfl)
  clear hA0 hval0
  refine (walk l _ W hl).mono fun e W' ⟨he, bel⟩ => ?_
  subst he
  exact ⟨_, rfl, _, _, _, [], _, [], hW', trodAll_mk1 (shut_bool Try.underlying4 _), (trodAll_cons_mk (Below.trod laidOut (by kernel_rfl) (of_decide_eq_true (by kernel_rfl)) k0 bel lt0) trodAll_mk0), rfl, bel.frame _, fun h => by cases h⟩

theorem over : Rows.exprPartsRow.holds Try.pinned (OpenSpec.ofChange Rows.exprPartsSpec) :=
  OpenClaim.holds_of_wide 5 Try.f5 rfl rfl rfl rfl rfl rfl rfl ⟨rfl, rfl, rfl, rfl, rfl⟩ rfl rfl rfl rfl rfl (by kernel_rfl) Try.func5 (by kernel_rfl)
    (of_decide_eq_true (by kernel_rfl)) (by unfold Func.isWrapper; first | (rw [if_pos (by decide +kernel)]; kernel_rfl) | (rw [if_neg (by decide +kernel)]; exact ⟨rfl, rfl⟩))
    (fun os started H enc _ => lifted os started H enc)

theorem exprParts_holds : Rows.ExprPartsSaid := over
end Go.Proofs.Ytldepealkomjlaa.exprParts
