/-
  A helper of ours: no claim of its own. Layer 14 (past): an event enters, leaves; those that end are cut off.
-/
import Derived.Test.YtajelkkiijdegaaGreatReg
import Derived.Test.YtajelkkiijdegaaGreatReg5
import Derived.Lib.LazyBuf
set_option linter.unusedVariables false
set_option linter.unusedSimpArgs false
namespace Go.Proofs.YtajelkkiijdegaaGreat
open Go.RowKit
attribute [local go_sem] GW.cell GW.frozen In.eq_true In.le_true In.ne In.ne' In.ne_add In.ne_add' In.lt_add Upto.le_true Upto.le_add Upto.lt_add
theorem blks_app (a b : List Pb) : blks (a ++ b) = blks a ++ blks b := by simp [blks]
theorem blks_take (a : List Pb) (k : Nat) : blks (a.take k) = (blks a).take k := by simp [blks, List.map_take]
theorem blks_drop (a : List Pb) (k : Nat) : blks (a.drop k) = (blks a).drop k := by simp [blks, List.map_drop]
theorem blks_len (a : List Pb) : (blks a).length = a.length := by simp [blks]
theorem powns_fr {w w' : World} {S : List Nat} {B e size n : Nat} {v : Value} {xs : List Value} (h : w.ownsRow B e size v n xs) (k : Fr S w w') (hne : ∀ r, v.ownBlock = some r → r ∉ S) : w'.ownsRow B e size v n xs :=
  ⟨h.1, h.2.imp id fun ⟨g, cap, cur, e, hb, hg, rest⟩ => ⟨g, cap, cur, e, hb, (k.block g (lt_of_block hg) (hne g (by rw [e]; rfl))).trans hg, rest⟩⟩
theorem pmown_far {w : World} {B e size n : Nat} {v : Value} {xs : List Value} {b : Nat} (h : w.ownsRow B e size v n xs) (o : Nat) (u : Value) (hne : v.ownBlock ≠ some b) : (w.setCell ⟨b, o, none⟩ u).ownsRow B e size v n xs :=
  h.kept (World.grownBy.mk (row := some b) rfl rfl rfl (by simp) fun i hi hn => Below.heap_setCell w ⟨b, o, none⟩ u i (fun e => hn (by rw [e]))) (.inr hne)
set_option maxHeartbeats 1000000 in
set_option maxRecDepth 100000 in
theorem pclone_c (l : List Nat) (v : Value) (w : World) (h : Sl w [] 1 v l.length (tg1 l)) (hz : l.length ≤ 1048576) : Calls Tryz.prog 147 #[v] w fun e w' => ∃ v', e = .returned v' ∧ w'.ownsRow w.heap.size 103 1 v' l.length (tg1 l) ∧ Ext w w' := by
  have hv := hide h
  obtain ⟨A, cap, rfl, h1, h2, h3, h4⟩ := h
  have hq := fun w => Lib.run_eql_slice_nil (P := Tryz.prog) w 89 103 A l.length cap 0 0 Tryz.underlying89
  cases A with
  | none =>
    have hl0 : l = [] := by
      rcases h4 with h4 | ⟨b, o, hb, _⟩
      · have := congrArg List.length h4; rw [tg1_length] at this; exact List.eq_nil_of_length_eq_zero (by simpa using this)
      · cases hb
    subst hl0
    clear hv hq h3 h4
    have hq0 := fun w => Lib.run_eql_slice_nil (P := Tryz.prog) w 89 103 none 0 cap 0 0 Tryz.underlying89
    show Calls Tryz.prog 147 #[.slice none 0 cap] w fun e w' => ∃ v', e = .returned v' ∧ w'.ownsRow w.heap.size 103 1 v' 0 [] ∧ Ext w w'
    go_enter Tryz.func147, Tryz.ntmps147
    go_wp2_with fail
    go_returns
    exact ⟨_, rfl, World.ownsRow_nil _ _ _ _, Ext.refl w⟩
  | some a =>
    have hlit := hide (World.ownsRow_lit (base := w.heap.size) (e := 103) (size := 1) w #[] 0 (Nat.le_refl _) (by decide) rfl)
    clear h3 h4
    go_enter Tryz.func147, Tryz.ntmps147
    go_wp2_with (at_builtin; (refine wpl_app tPev rfl (.tmp 5) (.tmp 6) rfl rfl hlit.out rfl (src_sl Tryz.underlying89 (Sl.ext hv.out ((Ext.refl w).alloc _)) (tg1_one _) (by omega)) (by unfold maxLen; omega) (by omega) (by simp) ?_; intro v1 w1 ho1 hg1 _))
    go_returns
    exact ⟨_, rfl, by simpa using ho1, ext_grown ((Ext.refl w).alloc _) hg1 (fun k hk => (hlit.out.lt k hk).1)⟩
theorem pdel0_c (A : Option Addr) (n cap : Nat) (hc : n ≤ cap) (h : A = none → n = 0 ∧ cap = 0) (w : World) : Calls Tryz.prog 148 #[.slice A n cap, .int .i64 0, .int .i64 0] w fun e w' => e = .returned (.slice A n cap) ∧ Ext w w' := by
  have hcI : (n : Int) ≤ cap := by omega
  cases A with
  | none =>
    obtain ⟨rfl, rfl⟩ := h rfl
    go_enter Tryz.func148, Tryz.ntmps148
    go_wp2_with fail
    go_returns
    exact ⟨rfl, Ext.refl w⟩
  | some a =>
    clear h
    go_enter Tryz.func148, Tryz.ntmps148
    go_wp2_with fail
    go_returns
    exact ⟨rfl, Ext.refl w⟩
section
variable {w : World} {base p : Nat} {sv : Value} {c ser : Int} {mb : Nat} {u : Value} {L : List Pb}
/-- The blocks that are a past's own and that it writes. -/
abbrev wrt (p : Nat) (u : Value) : List Nat := p :: u.ownBlock.toList
theorem evb_fr {w w' : World} {S : List Nat} {y : Pb} (h : Evb w y) (hP : Pst w base p sv c ser mb u L) (k : Fr S w w') (hS : ∀ b, b ∈ S → b ∈ wrt p u) : Evb w' y := by
  refine Ob.fr h k fun hm => ?_
  rcases List.mem_cons.1 (hS _ hm) with e | e
  · exact Ob.ne h hP.ob (by decide) e
  · exact Ob.not_own h hP.own (by decide) (by simpa using e)
theorem p_not_own (hP : Pst w base p sv c ser mb u L) : u.ownBlock ≠ some p := Ob.not_own hP.ob hP.own (by decide)
set_option maxHeartbeats 4000000 in
set_option maxRecDepth 100000 in
theorem penter_c (x : Pb) (w : World) (hP : Pst w base p sv c ser mb u L) (hs : Srt L) (hx : Evb w x) (hL : L.length ≤ 8192) (hb : base ≤ w.heap.size) :
    Calls Tryz.prog 95 #[.pointer (some ⟨p, 4, none⟩), pp x.2.1] w fun e w' => e = .returned (.tuple #[]) ∧ ∃ u', Pst w' base p sv c ser mb u' (insP L x) ∧ Fr (wrt p u) w w' ∧ ∀ b, u'.ownBlock = some b → b ∈ wrt p u ∨ w.heap.size ≤ b := by
  have hpl := hide (fun w' (hX : Ext w w') => pplace_c x w' (hP.ext hX) hs (hx.ext hX) (by omega))
  have hle := ld_le (fun y => befB y x) L
  have hnl : plN L x = ldN (fun y => befB y x) L := rfl
  rw [← hnl] at hle
  have hins : tg1 (blks (insP L x)) = tg1 ((blks L).take (plN L x) ++ x.2.1 :: (blks L).drop (plN L x)) := by
    unfold insP
    rw [blks_app, blks_take, ← blks_drop]
    rfl
  have hlen : (insP L x).length = L.length + 1 := by
    unfold insP
    rw [List.length_append, List.length_cons, List.length_take, List.length_drop]; omega
  have c4 := hP.ob.cell 4 rfl
  have f4 := hP.ob.free 4
  haveI : In p w := ⟨hP.ob.lt⟩
  have hpn := p_not_own hP
  have hPh := hide hP
  have hxh := hide hx
  obtain ⟨A, cap, hu⟩ := own_form hP.own
  clear hP hnl hx
  have hown := hPh.out.own
  have hins2 := hide (fun (w1 : World) (xb : Nat) (hX : Ext w w1) (hxb : Ob w1 xb 103 [pp x.2.1]) (hxw : w.heap.size ≤ xb) => pminsert_c base xb (plN L x) x.2.1 u (blks L) w1 (by rw [blks_len]; exact own_ext hown hX) (by have := hX.size; omega) (by rw [blks_len]; omega) (by rw [blks_len]; omega) hxb u.ownBlock.toList (fun b hb => by simp [hb]) (fun hm => by
    have := (hown.lt xb (by simpa using hm)).2
    omega))
  rw [← hins] at hins2
  rw [blks_len] at hins2
  have hfin : Hid (∀ w1 u', Ext w w1 → ∀ w2, Fr u.ownBlock.toList w1 w2 → w2.ownsRow base 103 1 u' (L.length + 1) (tg1 (blks (insP L x))) → (∀ b, u'.ownBlock = some b → b ∈ u.ownBlock.toList ∨ w1.heap.size ≤ b) →
      Pst (w2.setCell ⟨p, 4, none⟩ u') base p sv c ser mb u' (insP L x) ∧ Fr (wrt p u) w (w2.setCell ⟨p, 4, none⟩ u') ∧ ∀ b, u'.ownBlock = some b → b ∈ wrt p u ∨ w.heap.size ≤ b) := by
    intro w1 u' hX w2 hF ho hk
    have hF1 : Fr u.ownBlock.toList w w2 := (Fr.of_ext hX).trans hF
    have hF2 : Fr (wrt p u) w w2 := hF1.more fun b _ hb => List.mem_cons_of_mem _ hb
    have hob2 : Ob w2 p 93 [sv, .int .i64 c, .int .i64 ser, .map (some mb), u] := hPh.out.ob.fr hF1 (by simpa using hpn)
    have hF3 : Fr (wrt p u) w (w2.setCell ⟨p, 4, none⟩ u') := hF2.setCell _ _ (.inl (by simp))
    refine ⟨⟨hob2.set 4 _, ?_, fun y hy => ?_⟩, hF3, fun b hb => ?_⟩
    · rw [hlen]
      exact pmown_far ho 4 u' (Ob.not_own hob2 ho (by decide))
    · rcases mem_insP.1 hy with rfl | hy
      · exact evb_fr hxh.out hPh.out hF3 fun _ h => h
      · exact evb_fr (hPh.out.evs y hy) hPh.out hF3 fun _ h => h
    · rcases hk b hb with h | h
      · exact .inl (List.mem_cons_of_mem _ h)
      · exact .inr (Nat.le_trans hX.size h)
  clear hins hown hpn hlen hs
  generalize plN L x = N at *
  generalize blks (insP L x) = BL at *
  subst hu
  have c4h := hide c4
  obtain ⟨W0, hW0⟩ : ∃ W0, W0 = w := ⟨_, rfl⟩
  have c4h := hide c4
  obtain ⟨W0, hW0⟩ : ∃ W0, W0 = w := ⟨_, rfl⟩
  have c4h := hide c4
  obtain ⟨W0, hW0⟩ : ∃ W0, W0 = w := ⟨_, rfl⟩
  have c4h := hide c4
  obtain ⟨W0, hW0⟩ : ∃ W0, W0 = w := ⟨_, rfl⟩
  go_enter Tryz.func95, Tryz.ntmps95
  go_wp2_with fail
  -- REGION
  refine wp_region_loose_tail 10 [(.is ((.pointer (some ⟨p, 4, none⟩)))), (.is ((.pointer (some ⟨p, 4, none⟩)))), (.is ((.pointer (some ⟨p, 4, none⟩)))), (.is ((.pointer (some ⟨p, 4, none⟩)))), (.is ((.slice A L.length cap))), (.is ((.pointer (some ⟨p, 4, none⟩)))), (.is ((pp x.2.1))), (.is ((.int .i64 N))), (.is ((pp x.2.1))), (.st (fun v w => ∃ xb, v = .slice (some ⟨xb, 0, none⟩) 1 1 ∧ W0.heap.size ≤ xb ∧ Ob w xb 103 [pp x.2.1]) (fun v w w' ⟨xb, h1, h2, h3⟩ k => ⟨xb, h1, h2, h3.ext k⟩))] (by kernel_rfl) (by kernel_rfl) (by kernel_rfl) (by kernel_rfl) (by kernel_rfl) (by kernel_rfl) (by kernel_rfl) (by kernel_rfl) (by kernel_rfl) ?_ ?_
  · refine ⟨?_, ?_, ?_, ?_, ?_, ?_, ?_, ?_, ?_, ?_, trivial⟩
    · intro b w' h hE
      have f0 : b.tmps.getD 0 undef = (.pointer (some ⟨p, 4, none⟩)) := hE 0 (of_decide_eq_true (by kernel_rfl))
      exact good_move (wanted_none rfl) rfl f0
    · intro b w' h hE
      have f0 : b.tmps.getD 0 undef = (.pointer (some ⟨p, 4, none⟩)) := hE 0 (of_decide_eq_true (by kernel_rfl))
      exact good_move (wanted_none rfl) rfl f0
    · intro b w' h hE
      have f5 : b.tmps.getD 5 undef = (.pointer (some ⟨p, 4, none⟩)) := h.dep 1 _ 5 (by kernel_rfl) rfl rfl
      exact good_nilCheck (wanted_none rfl) rfl f5 rfl
    · intro b w' h hE
      have f6 : b.tmps.getD 6 undef = (.pointer (some ⟨p, 4, none⟩)) := h.dep 2 _ 6 (by kernel_rfl) rfl rfl
      exact good_field (wanted_none rfl) rfl f6 (by simp [go_sem]) rfl
    · intro b w' h hE
      have f7 : b.tmps.getD 7 undef = (.pointer (some ⟨p, 4, none⟩)) := h.dep 3 _ 7 (by kernel_rfl) rfl rfl
      have c0 := cell_later h.ext c4h.out
      exact good_load (wanted_none rfl) rfl f7 (by simp [go_sem, c0]) rfl
    · intro b w' h hE
      have f0 : b.tmps.getD 0 undef = (.pointer (some ⟨p, 4, none⟩)) := hE 0 (of_decide_eq_true (by kernel_rfl))
      exact good_move (wanted_none rfl) rfl f0
    · intro b w' h hE
      have f1 : b.tmps.getD 1 undef = (pp x.2.1) := hE 1 (of_decide_eq_true (by kernel_rfl))
      exact good_move (wanted_none rfl) rfl f1
    · intro b w' h hE
      have f9 : b.tmps.getD 9 undef = (.pointer (some ⟨p, 4, none⟩)) := h.dep 5 _ 9 (by kernel_rfl) rfl rfl
      have g9 : b.tmps[9]?.getD undef = (.pointer (some ⟨p, 4, none⟩)) := by rw [← Array.getD_eq_getD_getElem?]; exact f9
      have f10 : b.tmps.getD 10 undef = (pp x.2.1) := h.dep 6 _ 10 (by kernel_rfl) rfl rfl
      have g10 : b.tmps[10]?.getD undef = (pp x.2.1) := by rw [← Array.getD_eq_getD_getElem?]; exact f10
      refine good_call (wanted_none rfl) rfl (enters Tryz.func152 (by kernel_rfl) rfl) ?_; rw [show (#[.tmp 9, .tmp 10] : Array Operand).map b.eval = #[(.pointer (some ⟨p, 4, none⟩)), (pp x.2.1)] by simp [Act.eval, g9, g10]]; exact (hpl.out w' h.ext).mono fun e w1 ⟨he, hx⟩ => ⟨_, he, rfl, hx⟩
    · intro b w' h hE
      have f1 : b.tmps.getD 1 undef = (pp x.2.1) := hE 1 (of_decide_eq_true (by kernel_rfl))
      exact good_move (wanted_none rfl) rfl f1
    · intro b w' h hE
      have f12 : b.tmps.getD 12 undef = (pp x.2.1) := h.dep 8 _ 12 (by kernel_rfl) rfl rfl
      have g12 : b.tmps[12]?.getD undef = (pp x.2.1) := by rw [← Array.getD_eq_getD_getElem?]; exact f12
      have hb1 : (Instr.buildSlice 89 1 #[(0, pp x.2.1)]).run Tryz.prog w' = .ok (.slice (some ⟨w'.heap.size, 0, none⟩) 1 1) (w'.alloc (.cells #[pp x.2.1] 103)) := by simp [go_sem]
      refine good_grow (w' := w'.alloc (.cells #[pp x.2.1] 103)) (v := .slice (some ⟨w'.heap.size, 0, none⟩) 1 1) (wanted_none rfl) ?_ ⟨_, rfl, by have := h.ext.size; rw [hW0]; exact this, Ob.new w' _ [_]⟩ ((Ext.refl _).alloc _)
      simp [execOp, Act.eval, g12, hb1, Sem.run_bind, Sem.run_pure, Result.andThen_ok]
  · intro b w2 hX2 hd hz he' hf
    have e4 : b.tmps.getD 4 undef = (.pointer (some ⟨p, 4, none⟩)) := hf 0 _ 4 (by omega) rfl rfl
    have e5 : b.tmps.getD 5 undef = (.pointer (some ⟨p, 4, none⟩)) := hf 1 _ 5 (by omega) rfl rfl
    have e6 : b.tmps.getD 6 undef = (.pointer (some ⟨p, 4, none⟩)) := hf 2 _ 6 (by omega) rfl rfl
    have e7 : b.tmps.getD 7 undef = (.pointer (some ⟨p, 4, none⟩)) := hf 3 _ 7 (by omega) rfl rfl
    have e8 : b.tmps.getD 8 undef = (.slice A L.length cap) := hf 4 _ 8 (by omega) rfl rfl
    have e9 : b.tmps.getD 9 undef = (.pointer (some ⟨p, 4, none⟩)) := hf 5 _ 9 (by omega) rfl rfl
    have e10 : b.tmps.getD 10 undef = (pp x.2.1) := hf 6 _ 10 (by omega) rfl rfl
    have e11 : b.tmps.getD 11 undef = (.int .i64 N) := hf 7 _ 11 (by omega) rfl rfl
    have e12 : b.tmps.getD 12 undef = (pp x.2.1) := hf 8 _ 12 (by omega) rfl rfl
    have f9 : ∃ xb, (b.tmps.getD 13 undef) = .slice (some ⟨xb, 0, none⟩) 1 1 ∧ W0.heap.size ≤ xb ∧ Ob w2 xb 103 [pp x.2.1] := hf 9 _ 13 (by omega) rfl rfl
    have e := frame_puts hd hz he'
    obtain ⟨X, hXx⟩ : ∃ X : Nat → Value, ∀ d, b.tmps.getD d undef = X d := ⟨_, fun _ => rfl⟩
    rw [hXx] at e4 e5 e6 e7 e8 e9 e10 e11 e12 f9
    obtain ⟨xb, q13, hxb, hob⟩ := f9
    rw [show dstsOf _ = [4, 5, 6, 7, 8, 9, 10, 11, 12, 13] from rfl] at e
    simp only [List.foldl_cons, List.foldl_nil, hXx, Act.put, List.setIfInBounds_toArray, List.set_cons_succ, List.set_cons_zero] at e
    rw [e4, e5, e6, e7, e8, e9, e10, e11, e12, q13] at e
    clear hf he' hz hd hXx e4 e5 e6 e7 e8 e9 e10 e11 e12 q13
    subst e
    have hzw := hX2.size
    simp only [List.drop_succ_cons, List.drop_zero]
    have hI := hide (hins2.out w2 xb hX2 hob (by rw [← hW0]; exact hxb))
    have hgx := hide hX2
    have p4 := pcell_later hX2 c4h.out
    clear hob hxb
    go_wp2_with (go_at_call 153; refine hI.out.mono ?_; rintro ee w3 ⟨u', rfl, ho2, hF2, hk2⟩; obtain ⟨A2, cap2, hu2⟩ := own_form ho2; subst hu2; have hres := hide (hfin.out _ _ hgx.out _ hF2 ho2 hk2); have pf := hide (hPh.out.ob.fr ((Fr.of_ext hgx.out).trans hF2) (by simpa using p_not_own hPh.out)); have q4 := pf.out.cell 4 rfl; have qf := pf.out.free 4; haveI : In p w3 := ⟨pf.out.lt⟩)
    dsimp only [onN]
    go_end0
    exact ⟨rfl, _, hres.out⟩
end
end Go.Proofs.YtajelkkiijdegaaGreat
