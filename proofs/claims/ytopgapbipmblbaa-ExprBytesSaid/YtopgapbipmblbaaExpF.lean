/-
  A helper of ours: no claim of its own. Layer 17 (expr): the parts of an expression, by the code.
-/
import Derived.Test.YtopgapbipmblbaaExpE
set_option linter.unusedVariables false
set_option linter.unusedSimpArgs false
namespace Go.Proofs.Ytopgapbipmblbaa
open Go.RowKit
attribute [-go_sem] sliced
attribute [local go_sem] sliced_eq
attribute [local go_sem] GW.cell GW.frozen In.eq_true In.le_true In.ne In.ne' In.ne_add In.ne_add' In.lt_add Upto.le_true Upto.le_add Upto.lt_add
/-- The values from place a to place b. -/
theorem rw_mid {w : World} {S : List Nat} {A : Option Addr} {cap : Nat} {l : List Vl} (h : Rw w S (.slice A l.length cap) l) (a b : Nat) (hab : a ≤ b) (hb : b ≤ l.length) (m : List Vl) (hm : (l.take b).drop a = m) : Rw w S (.slice (cutA A a b 3) (b - a) (b - a)) m := by
  obtain ⟨A', cap', e, hl, hmx, -⟩ := rw_form h
  obtain ⟨rfl, -, rfl⟩ : A = A' ∧ True ∧ cap = cap' := by simpa using e
  have hc := Sl.cut h a b b hab hb (Nat.le_refl _) (by omega)
  rw [sliced_eq, rc_take, rc_drop, hm] at hc
  have hlen : m.length = b - a := by rw [← hm, List.length_drop, List.length_take, Nat.min_eq_left hb]
  show Sl _ _ _ _ _ _
  rw [hlen]
  exact hc
set_option maxHeartbeats 4000000 in
set_option maxRecDepth 100000 in
theorem parts_c (l : List Vl) (v : Value) (w : World) (h : Rw w [] v l) : Calls Try.prog 23 #[v] w fun e w' => ∃ v' L, e = .returned (.tuple #[v', .int .i64 (formE l)]) ∧ partsE l L ∧ PartsIn w' w.heap.size v' L ∧ Ext w w' := by
  have hform := hide (form_c l v w h)
  by_cases hz : formE l = 0
  · obtain ⟨t, tg, rfl, h64⟩ := formE_tree hz
    have hL : Hid (partsE t.flat (t.kids.map Tr.flat)) := .inr ⟨t, tg, rfl, h64, rfl⟩
    rw [hz] at hform ⊢
    obtain ⟨A, cap, rfl, hl, hm, hat⟩ := rw_form h
    have hkg := t.kids_good tg
    have hkl := t.kids_len tg
    have hk2 : t.kids.length ≤ 2 := by cases t <;> simp [Tr.kids]
    have hfl : t.flat = flats t.kids ++ [t.top] := by rw [Tr.flat_kids]; rfl
    have hlen : t.flat.length = (flats t.kids).length + 1 := by rw [hfl]; simp
    have htop : t.flat[(flats t.kids).length]? = some t.top := by rw [hfl]; simp
    have htake : ∀ (ks rs : List Tr), t.kids = ks ++ rs → t.flat.take (flats ks).length = flats ks := by
      intro ks rs e
      rw [hfl, e, flats_app, List.append_assoc]
      exact List.take_left' rfl
    generalize t.kids = K at *
    generalize t.top = o at *
    generalize t.flat = l at *
    generalize hmK : (flats K).length = m at *
    replace hmK := hide hmK
    obtain ⟨b, off, rfl, -, hb, c0, -, -⟩ := hat m o htop
    clear hat hz hfl htop
    have h' := hide h
    clear h
    have htk := hide (fun w => takes_c o.1 w)
    rw [hkl] at htk
    have hcap : l.length ≤ cap := hl
    have hN : (l.length : Int) - 1 = m := by omega
    obtain ⟨N, hNe⟩ : ∃ N, N = l.length := ⟨_, rfl⟩
    replace hkg := hide hkg
    replace htake := hide htake
    have hNh := hide hNe
    rw [← hNe] at hl h64 hlen hcap hN ⊢
    rw [← hNe] at hform
    subst hlen
    clear hNe hN hm
    generalize hd : K.length = d at *
    replace hd := hide hd
    obtain ⟨oc, on, os⟩ := o
    simp only at c0 htk
    clear hkl
    have hmI : wrap64 (m : Int) = m := by unfold wrap64; omega
    have hm1 : (m : Int) < m + 1 := by omega
    go_enter Try.func23, Try.ntmps23
    go_wp2_with (first | (go_at_call 11; (with_reducible refine seq_gw hform.out ?_); intro g; have k0 := cell_later g.grown c0; have hbr := block_lt_of_cell k0) | (go_at_call 31; (with_reducible refine seq_gw' (htk.out _) ?_); intro g2))
    clear hform htk k0 hbr c0
    go_loopg [5, 6, 22] d (fun gh pv ev iv wr => ∃ (ks done : List Tr) (us : List Value) (q i : Nat), ev = .int .i64 q ∧ iv = .int .i64 i ∧ q ≤ m ∧ i + gh = d ∧ i = us.length ∧ Hid (K = ks ++ done.reverse) ∧ Hid (q = (flats ks).length) ∧ Hid (i = done.length) ∧ PartsS wr w.heap.size pv us (done.map Tr.flat) ∧ Ext w wr)
    case atStart => exact ⟨K, [], [], m, 0, rfl, rfl, Nat.le_refl _, by omega, rfl, (by show _ = _; simp), hmK.out.symm, rfl, PartsS.none _ _, g2.grown⟩
    case round =>
      obtain ⟨ks, done, us, q, i, rfl, rfl, hq, hi, hiu, hK, hqe, hid, hP, hX⟩ := hrel
      clear g g2
      by_cases hlt : i < d
      · have hltI : (i : Int) < d := by omega
        obtain ⟨ks, t', rfl⟩ : ∃ us t, ks = us ++ [t] := by
          rcases List.eq_nil_or_concat ks with rfl | ⟨us, t, e⟩
          · have := congrArg List.length hK.out
            have e1 := hd.out
            have e2 := hid.out
            rw [List.length_append, List.length_reverse] at this
            simp at this; omega
          · exact ⟨us, t, by simpa using e⟩
        have hg' := hkg.out t' (by rw [hK.out]; simp)
        have htq := htake.out _ _ hK.out
        rw [← hqe.out] at htq
        have e3 : flats (ks ++ [t']) = flats ks ++ t'.flat := by rw [flats_app]; simp [flats]
        rw [e3] at htq hqe
        have hq2 : q = (flats ks).length + t'.flat.length := by have := hqe.out; rwa [List.length_append] at this
        have hbg := hide (fun w' (hx : Ext w w') => begin_c l _ w' (Sl.ext h'.out hx) (flats ks) t' hg' q htq (by have := hNh.out; omega))
        rw [← hNh.out] at hbg
        have hmid := hide (fun w' (hx : Ext w w') => rw_mid (Sl.ext h'.out hx) (flats ks).length q (by omega) (by have := hNh.out; omega) t'.flat (by rw [htq]; exact List.drop_left' rfl))
        have hcl := hide (fun u w' (hx : Rw w' [] u t'.flat) => exprClone_c t'.flat u w' hx (by omega))
        have hKn : Hid (K = ks ++ (done ++ [t']).reverse) := by show _ = _; rw [hK.out]; simp
        have hdn : Hid (i + 1 = (done ++ [t']).length) := by show _ = _; rw [hid.out]; simp
        have hmapn : done.map Tr.flat ++ [t'.flat] = (done ++ [t']).map Tr.flat := by simp
        generalize hp : (flats ks).length = p at *
        replace hp := hide hp
        have hpq : p ≤ q := by omega
        have hpqI : (p : Int) ≤ q := by omega
        have hqc : (q : Int) ≤ cap := by omega
        have hzX := hX.size
        have hus : us.length ≤ 2 := by omega
        clear hK hqe hid htq e3 hq2 hg' hkg htake
        go_wp2_with (first | (go_at_call 45; (with_reducible refine seq_gw (hbg.out _ hX) ?_); intro g3; clear hbg) | (go_at_call 46; refine (hcl.out _ _ (hmid.out _ (hX.trans g3.grown))).mono ?_; rintro ee w4 ⟨v4, rfl, o4, x4⟩; obtain ⟨P4, c4, rfl⟩ := own_form o4; have hP4 := hide ((hP.ext (g3.grown.trans x4)).ext ((Ext.refl w4).alloc (.cells #[.slice P4 t'.flat.length c4] 23)))) | (at_builtin; (refine wpl_app tPart rfl (.tmp 27) (.tmp 34) rfl rfl hP4.out.own rfl (src_cell1 Try.underlying52 w4 _ rfl _) (by unfold maxLen; omega) (by omega) (by simp only [World.size_alloc]; have := GW.size g3; have := x4.size; omega) ?_; intro v5 w5 ho5 hg5 hb5)))
        go_roundg (d - (i + 1))
        case measure => omega
        case rel =>
          have hu4 : Rw (w4.alloc (.cells #[.slice P4 t'.flat.length c4] 23)) u5.ownBlock.toList (.slice P4 t'.flat.length c4) t'.flat := Sl.alloc (own_xw (S := u5.ownBlock.toList) o4 (fun b hb => (by
            have hb' : u5.ownBlock = some b := by simpa using hb
            have := (hP.lt b hb').2
            have := GW.size g3
            omega))) _
          have hP5 := PartsS.snoc hP4.out hu4 ho5 hg5 hb5
          rw [hmapn] at hP5
          exact ⟨ks, done ++ [t'], _, p, i + 1, by go_num, by go_num, by omega, by omega, by rw [List.length_append, List.length_singleton]; omega, hKn, hp.out.symm, hdn, hP5, ext_grown ((hX.trans (g3.grown.trans x4)).alloc _) hg5 (fun k hk => (hP4.out.lt k hk).1)⟩
      · have hi' : i = d := by omega
        have hge : (d : Int) ≤ i := by omega
        have hks : done.reverse = K := by
          have := congrArg List.length hK.out
          have e1 := hd.out
          have e2 := hid.out
          rw [List.length_append, List.length_reverse] at this
          have : ks = [] := List.eq_nil_of_length_eq_zero (by omega)
          rw [hK.out, this]; rfl
        have hrv := hide (reverse_c hP (by omega) hX (Nat.le_refl _))
        rw [← List.map_reverse, hks] at hrv
        replace hi' := hide hi'
        clear hK hqe hid hks hP
        go_wp2_with (go_at_call 47; refine hrv.out.mono ?_; rintro ee w6 ⟨rfl, hP6, hX6⟩)
        go_returns
        exact ⟨_, K.map Tr.flat, rfl, hL.out, hP6.in_, hX6⟩
  · obtain ⟨A, cap, rfl, hl, hm, -⟩ := rw_form h
    have hL : partsE l [] := .inl ⟨hz, rfl⟩
    have hzI : (formE l != 0) = true := by simpa using hz
    generalize formE l = E at *
    replace hL := hide hL
    clear h hz
    go_enter Try.func23, Try.ntmps23
    go_wp2_with (first | (go_at_call 11; (with_reducible refine seq_gw hform.out ?_); intro g))
    go_returns
    exact ⟨_, [], rfl, hL.out, ⟨[], World.ownsRow_nil _ _ _ _, by simp⟩, g.grown⟩
end Go.Proofs.Ytopgapbipmblbaa
