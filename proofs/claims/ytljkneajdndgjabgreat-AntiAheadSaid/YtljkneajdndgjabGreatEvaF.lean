/-
  A helper of ours: no claim of its own. Layer 18 (eval): a word of two over results, and any word, by the code.
-/
import Derived.Test.YtljkneajdndgjabGreatReg
import Derived.BigQuiet
set_option linter.unusedVariables false
set_option linter.unusedSimpArgs false
namespace Go.Proofs.YtljkneajdndgjabGreat
open Go.RowKit
attribute [local go_sem] GW.cell GW.frozen In.eq_true In.le_true In.ne In.ne' In.ne_add In.ne_add' In.lt_add Upto.le_true Upto.le_add Upto.lt_add
section
variable {P : Program} {ops : Array Oper} {Φ : Nat → Value → World → Prop} {Q : Exit → Act → World → Prop} {i : Nat} {o : Oper} {b : Act} {w : World}
theorem good_panic {f : FuncId} {xs : Array Operand} {ats : Array TypeId} {ch : List PanicEntry} (hg : Region.wanted o (yielded ops b.tmps) = true) (ho : o.op = .call { callee := .value (.func f), args := xs, argTypes := ats })
    (he : ∀ args w, (callFunc f args).run P w = .ok (.enter f args) w) (hc : Calls P f (xs.map b.eval) w fun e w' => e = .panicked ch ∧ Ext w w') (hQ : ∀ w', Ext w w' → Q (.panic ch) b w') : RGood P ops Φ Q i o b w := by
  refine .inl ⟨hg, ?_⟩
  unfold Oper.wp
  have : (execOp b.eval o).run P w = .ok (.enter f (xs.map b.eval)) w := by
    simp [execOp, ho, resolve, Act.eval, Deferred.ofValue, invoke, he, go_sem]
  rw [this]
  exact hc.mono fun e w' ⟨he, hx⟩ => by subst he; exact hQ w' hx
end
/-- A fact that nothing bears. -/
abbrev never : Fact := .st (fun _ _ => False) (fun _ _ _ h _ => h)
/-- Results, where they lie. -/
abbrev Ws (w : World) (S : List Nat) (v : Value) (l : List Vl) : Prop := Sl w S 1 v l.length (l.map rv)
theorem ws_form {w : World} {S : List Nat} {v : Value} {l : List Vl} (h : Ws w S v l) : ∃ A cap, v = .slice A l.length cap ∧ l.length ≤ cap ∧ cap ≤ maxLen ∧
    ∀ (i : Nat) (x : Vl), l[i]? = some x → ∃ b o, A = some ⟨b, o, none⟩ ∧ b ∉ S ∧ b < w.heap.size ∧ w.cell? ⟨b, o + i, none⟩ = some (rv x) := by
  obtain ⟨A, cap, rfl, h1, h2, h3, h4⟩ := h
  refine ⟨A, cap, rfl, h1, h2, fun i x hx => ?_⟩
  have hg : (l.map rv)[i]? = some (rv x) := by simp [hx]
  rcases h4 with h4 | ⟨b, o, rfl, hb, hc⟩
  · rw [h4] at hg; cases hg
  · have c0 := hc _ _ hg
    exact ⟨b, o, rfl, hb, block_lt_of_cell c0, c0⟩
theorem rv_one (v : Vl) : (rv v).oneCell' = true := by unfold rv; split <;> rfl
set_option maxHeartbeats 4000000 in
set_option maxRecDepth 100000 in
theorem apply0_c (r : List Vl) (hr : ∀ v ∈ r, fine v) (c n : Int) (x : ByteArray) (ho : okW (c, n, x) = true) (hc : tkI c = 0) (xv rvv : Value) (w : World) (hx : Ws w [] xv []) (h : Rw w [] rvv r) :
    Calls Tryz.prog 132 #[val c n x, xv, rvv] w fun e w' => e = endX (evF r (c, n, x) []) ∧ Ext w w' := by
  obtain ⟨A, cap, rfl, -, -, -⟩ := ws_form hx
  have hcall := hide (fun w' (hX : Ext w w') => ofNone_c r hr c n x ho hc rvv w' (Sl.ext h hX))
  obtain ⟨B, rcap, rfl, -, -, -⟩ := rw_form h
  have hX0 := hide ((Ext.refl w).alloc (.cells #[.int .i64 c, .int .i64 n, .string x] 56))
  show Calls Tryz.prog 132 #[val c n x, .slice A 0 cap, .slice B r.length rcap] w fun e w' => e = endX (ofNone r (c, n, x)) ∧ Ext w w'
  clear h hx ho hc hr
  cases hF : ofNone r (c, n, x) with
  | ok u =>
    rw [hF] at hcall
    replace hcall := hide (show ∀ w', Ext w w' → Calls Tryz.prog 162 _ w' fun e w'' => e = .returned (rv u) ∧ Ext w' w'' from hcall.out)
    show Calls Tryz.prog 132 _ w fun e w' => e = .returned (rv u) ∧ Ext w w'
    clear hF
    generalize rv u = z at *
    go_enter Tryz.func132, Tryz.ntmps132
    go_wp2_with (go_at_call 162; (with_reducible refine seq_gw (hcall.out _ hX0.out) ?_); intro g)
    go_returns
    exact ⟨rfl, hX0.out.trans g.grown⟩
  | error z =>
    rw [hF] at hcall
    replace hcall := hide (show ∀ w', Ext w w' → Calls Tryz.prog 162 _ w' fun e w'' => e = pnc z ∧ Ext w' w'' from hcall.out)
    show Calls Tryz.prog 132 _ w fun e w' => e = pnc z ∧ Ext w w'
    clear hF
    go_enter Tryz.func132, Tryz.ntmps132
    go_wp2_with (go_at_call 162; (with_reducible refine seq_pn (hcall.out _ hX0.out) ?_); intro g)
    exact ⟨rfl, rfl, hX0.out.trans g.grown⟩
set_option maxHeartbeats 4000000 in
set_option maxRecDepth 100000 in
theorem apply1_c (r : List Vl) (c n : Int) (x : ByteArray) (hc : tkI c = 1) (a : Vl) (ha : fine a) (xv rvv : Value) (w : World) (hx : Ws w [] xv [a]) (h : Rw w [] rvv r) :
    Calls Tryz.prog 132 #[val c n x, xv, rvv] w fun e w' => e = endX (evF r (c, n, x) [a]) ∧ Ext w w' := by
  obtain ⟨A, cap, rfl, -, -, hat⟩ := ws_form hx
  obtain ⟨b, o, rfl, -, hb, c0⟩ := hat 0 a rfl
  rw [Nat.add_zero] at c0
  haveI : In b w := ⟨hb⟩
  have hcall := hide (fun w' => ofOne_c c hc a ha w')
  obtain ⟨B, rcap, rfl, -, -, -⟩ := rw_form h
  have hX0 := hide ((Ext.refl w).alloc (.cells #[.int .i64 c, .int .i64 n, .string x] 56))
  show Calls Tryz.prog 132 #[val c n x, .slice (some ⟨b, o, none⟩) 1 cap, .slice B r.length rcap] w fun e w' => e = endX (ofOne c a) ∧ Ext w w'
  clear h hx hc hat
  generalize rv a = va at *
  cases hF : ofOne c a with
  | ok u =>
    rw [hF] at hcall
    replace hcall := hide (show ∀ w', Calls Tryz.prog 163 _ w' fun e w'' => e = .returned (rv u) ∧ Ext w' w'' from hcall.out)
    show Calls Tryz.prog 132 _ w fun e w' => e = .returned (rv u) ∧ Ext w w'
    clear hF
    generalize rv u = z at *
    go_enter Tryz.func132, Tryz.ntmps132
    go_wp2_with fail
    refine wp_region_gw (by kernel_rfl) (by kernel_rfl) ?_
    repeat (go_big_quiet_step ((go_at_call 163; with_reducible exact quiet_gw (hcall.out _))))
    refine wpQuiet_nil ?_
    intro g
    go_wp2_with fail
    go_returns
    exact ⟨rfl, hX0.out.trans g.grown⟩
  | error z =>
    rw [hF] at hcall
    replace hcall := hide (show ∀ w', Calls Tryz.prog 163 _ w' fun e w'' => e = pnc z ∧ Ext w' w'' from hcall.out)
    show Calls Tryz.prog 132 _ w fun e w' => e = pnc z ∧ Ext w w'
    clear hF
    have hOb := hide (Ob.new w 56 [.int .i64 c, .int .i64 n, .string x])
    have hc0 := hide ((Below.cell (p := ⟨b, o, none⟩) ((Ext.refl w).alloc (.cells #[.int .i64 c, .int .i64 n, .string x] 56)) hb).trans c0)
    go_enter Tryz.func132, Tryz.ntmps132
    go_wp2_with fail
    refine wp_region_list [.is (.pointer (some ⟨w.heap.size, 0, none⟩)), .is (.int .i64 c), .is (.slice (some ⟨b, o, none⟩) 1 cap), .is (.pointer (some ⟨b, o, none⟩)), .is va, never, never] (by kernel_rfl) (by kernel_rfl) (by kernel_rfl) ?_ ?_
    · refine ⟨?_, ?_, ?_, ?_, ?_, ?_, ?_, trivial⟩
      · intro bb w' h
        have f3 : bb.tmps.getD 3 undef = .pointer (some ⟨w.heap.size, 0, none⟩) := h.else_ 3 (of_decide_eq_true (by kernel_rfl))
        exact good_field (wanted_none rfl) rfl f3 (by simp [go_sem]) rfl
      · intro bb w' h
        have f16 : bb.tmps.getD 16 undef = .pointer (some ⟨w.heap.size, 0, none⟩) := h.dep 0 _ 16 (by kernel_rfl) rfl rfl
        have k := (hOb.out.ext h.ext).cell 0 rfl
        exact good_load (wanted_none rfl) rfl f16 (by simp [go_sem, k]) rfl
      · intro bb w' h
        have f1 : bb.tmps.getD 1 undef = .slice (some ⟨b, o, none⟩) 1 cap := h.else_ 1 (of_decide_eq_true (by kernel_rfl))
        exact good_move (wanted_none rfl) rfl f1
      · intro bb w' h
        have f18 : bb.tmps.getD 18 undef = .slice (some ⟨b, o, none⟩) 1 cap := h.dep 2 _ 18 (by kernel_rfl) rfl rfl
        exact good_index (wanted_none rfl) rfl f18 (show bb.eval _ = .int .i64 0 from rfl) (by simp [go_sem]) rfl
      · intro bb w' h
        have f19 : bb.tmps.getD 19 undef = .pointer (some ⟨b, o, none⟩) := h.dep 3 _ 19 (by kernel_rfl) rfl rfl
        have k : w'.cell? ⟨b, o, none⟩ = some va := (World.cell?_of_block (a := ⟨b, o, none⟩) (h.ext.block b (block_lt_of_cell hc0.out))).trans hc0.out
        exact good_load (wanted_none rfl) rfl f19 (by simp [go_sem, k]) rfl
      · intro bb w' h
        have f17 : bb.tmps.getD 17 undef = .int .i64 c := h.dep 1 _ 17 (by kernel_rfl) rfl rfl
        have f20 : bb.tmps.getD 20 undef = va := h.dep 4 _ 20 (by kernel_rfl) rfl rfl
        refine good_panic (wanted_none rfl) rfl (enters Tryz.func163 (by kernel_rfl) rfl) ?_ ?_ (ch := [{ v := .iface 27 (.int .i64 z), recovered := false }])
        · rw [show (#[.tmp 17, .tmp 20] : Array Operand).map bb.eval = #[.int .i64 c, va] by simp [Act.eval, f17, f20]]
          exact hcall.out w'
        · intro w'' hx
          exact ⟨h.defers, rfl, (hX0.out.trans h.ext).trans hx⟩
      · intro bb w' h
        have f21 : False := h.dep 5 _ 21 (by kernel_rfl) rfl rfl
        exact f21.elim
    · intro bb w' _ _ _ _ hf
      have f21 : False := hf 5 _ 21 rfl rfl
      exact f21.elim
end Go.Proofs.YtljkneajdndgjabGreat
set_option linter.unusedVariables false
set_option linter.unusedSimpArgs false
namespace Go.Proofs.YtljkneajdndgjabGreat
open Go.RowKit
attribute [local go_sem] GW.cell GW.frozen In.eq_true In.le_true In.ne In.ne' In.ne_add In.ne_add' In.lt_add Upto.le_true Upto.le_add Upto.lt_add
set_option maxHeartbeats 4000000 in
set_option maxRecDepth 100000 in
theorem apply2_c (r : List Vl) (c n : Int) (x : ByteArray) (hc : tkI c = 2) (a d : Vl) (ha : fine a) (hd : fine d) (xv rvv : Value) (w : World) (hx : Ws w [] xv [a, d]) (h : Rw w [] rvv r) :
    Calls Tryz.prog 132 #[val c n x, xv, rvv] w fun e w' => e = endX (evF r (c, n, x) [a, d]) ∧ Ext w w' := by
  obtain ⟨A, cap, rfl, -, -, hat⟩ := ws_form hx
  obtain ⟨b, o, rfl, -, hb, c0⟩ := hat 0 a rfl
  obtain ⟨b', o', e0, -, -, c1⟩ := hat 1 d rfl
  obtain ⟨rfl, rfl⟩ : b = b' ∧ o = o' := by simpa using e0
  rw [Nat.add_zero] at c0
  haveI : In b w := ⟨hb⟩
  have hcall := hide (fun w' => ofTwo_c c hc a d ha hd w')
  obtain ⟨B, rcap, rfl, -, -, -⟩ := rw_form h
  have hX0 := hide ((Ext.refl w).alloc (.cells #[.int .i64 c, .int .i64 n, .string x] 56))
  show Calls Tryz.prog 132 #[val c n x, .slice (some ⟨b, o, none⟩) 2 cap, .slice B r.length rcap] w fun e w' => e = endX (ofTwo c a d) ∧ Ext w w'
  clear h hx hc hat e0
  generalize rv a = va at *
  generalize rv d = vd at *
  cases hF : ofTwo c a d with
  | ok u =>
    rw [hF] at hcall
    replace hcall := hide (show ∀ w', Calls Tryz.prog 164 _ w' fun e w'' => e = .returned (rv u) ∧ Ext w' w'' from hcall.out)
    show Calls Tryz.prog 132 _ w fun e w' => e = .returned (rv u) ∧ Ext w w'
    clear hF
    generalize rv u = z at *
    go_enter Tryz.func132, Tryz.ntmps132
    go_wp2_with fail
    refine wp_region_gw (by kernel_rfl) (by kernel_rfl) ?_
    repeat (go_big_quiet_step ((go_at_call 164; with_reducible exact quiet_gw (hcall.out _))))
    refine wpQuiet_nil ?_
    intro g
    go_wp2_with fail
    go_returns
    exact ⟨rfl, hX0.out.trans g.grown⟩
  | error z =>
    rw [hF] at hcall
    replace hcall := hide (show ∀ w', Calls Tryz.prog 164 _ w' fun e w'' => e = pnc z ∧ Ext w' w'' from hcall.out)
    show Calls Tryz.prog 132 _ w fun e w' => e = pnc z ∧ Ext w w'
    clear hF
    have hOb := hide (Ob.new w 56 [.int .i64 c, .int .i64 n, .string x])
    have hc0 := hide (fun w' (hX : Ext w w') => cell_later hX c0)
    have hc1 := hide (fun w' (hX : Ext w w') => cell_later hX c1)
    go_enter Tryz.func132, Tryz.ntmps132
    go_wp2_with fail
    refine wp_region_list [.is (.pointer (some ⟨w.heap.size, 0, none⟩)), .is (.int .i64 c), .is (.slice (some ⟨b, o, none⟩) 2 cap), .is (.pointer (some ⟨b, o, none⟩)), .is va, .is (.slice (some ⟨b, o, none⟩) 2 cap), .is (.pointer (some ⟨b, o + 1, none⟩)), .is vd, never, never] (by kernel_rfl) (by kernel_rfl) (by kernel_rfl) ?_ ?_
    · refine ⟨?_, ?_, ?_, ?_, ?_, ?_, ?_, ?_, ?_, ?_, trivial⟩
      · intro bb w' h
        have f3 : bb.tmps.getD 3 undef = .pointer (some ⟨w.heap.size, 0, none⟩) := h.else_ 3 (of_decide_eq_true (by kernel_rfl))
        exact good_field (wanted_none rfl) rfl f3 (by simp [go_sem]) rfl
      · intro bb w' h
        have f22 : bb.tmps.getD 22 undef = .pointer (some ⟨w.heap.size, 0, none⟩) := h.dep 0 _ 22 (by kernel_rfl) rfl rfl
        have k := (hOb.out.ext h.ext).cell 0 rfl
        exact good_load (wanted_none rfl) rfl f22 (by simp [go_sem, k]) rfl
      · intro bb w' h
        have f1 : bb.tmps.getD 1 undef = .slice (some ⟨b, o, none⟩) 2 cap := h.else_ 1 (of_decide_eq_true (by kernel_rfl))
        exact good_move (wanted_none rfl) rfl f1
      · intro bb w' h
        have f24 : bb.tmps.getD 24 undef = .slice (some ⟨b, o, none⟩) 2 cap := h.dep 2 _ 24 (by kernel_rfl) rfl rfl
        exact good_index (wanted_none rfl) rfl f24 (show bb.eval _ = .int .i64 0 from rfl) (by simp [go_sem]) rfl
      · intro bb w' h
        have f25 : bb.tmps.getD 25 undef = .pointer (some ⟨b, o, none⟩) := h.dep 3 _ 25 (by kernel_rfl) rfl rfl
        have k := hc0.out w' (hX0.out.trans h.ext)
        exact good_load (wanted_none rfl) rfl f25 (by simp [go_sem, k]) rfl
      · intro bb w' h
        have f1 : bb.tmps.getD 1 undef = .slice (some ⟨b, o, none⟩) 2 cap := h.else_ 1 (of_decide_eq_true (by kernel_rfl))
        exact good_move (wanted_none rfl) rfl f1
      · intro bb w' h
        have f27 : bb.tmps.getD 27 undef = .slice (some ⟨b, o, none⟩) 2 cap := h.dep 5 _ 27 (by kernel_rfl) rfl rfl
        exact good_index (wanted_none rfl) rfl f27 (show bb.eval _ = .int .i64 1 from rfl) (by simp [go_sem]) rfl
      · intro bb w' h
        have f28 : bb.tmps.getD 28 undef = .pointer (some ⟨b, o + 1, none⟩) := h.dep 6 _ 28 (by kernel_rfl) rfl rfl
        have k := hc1.out w' (hX0.out.trans h.ext)
        exact good_load (wanted_none rfl) rfl f28 (by simp [go_sem, k]) rfl
      · intro bb w' h
        have f23 : bb.tmps.getD 23 undef = .int .i64 c := h.dep 1 _ 23 (by kernel_rfl) rfl rfl
        have f26 : bb.tmps.getD 26 undef = va := h.dep 4 _ 26 (by kernel_rfl) rfl rfl
        have f29 : bb.tmps.getD 29 undef = vd := h.dep 7 _ 29 (by kernel_rfl) rfl rfl
        refine good_panic (wanted_none rfl) rfl (enters Tryz.func164 (by kernel_rfl) rfl) ?_ ?_ (ch := [{ v := .iface 27 (.int .i64 z), recovered := false }])
        · rw [show (#[.tmp 23, .tmp 26, .tmp 29] : Array Operand).map bb.eval = #[.int .i64 c, va, vd] by simp [Act.eval, f23, f26, f29]]
          exact hcall.out w'
        · intro w'' hx
          exact ⟨h.defers, rfl, (hX0.out.trans h.ext).trans hx⟩
      · intro bb w' h
        have f : False := h.dep 8 _ 30 (by kernel_rfl) rfl rfl
        exact f.elim
    · intro bb w' _ _ _ _ hf
      have f : False := hf 8 _ 30 rfl rfl
      exact f.elim
theorem apply_c (r : List Vl) (hr : ∀ v ∈ r, fine v) (c n : Int) (x : ByteArray) (ho : okW (c, n, x) = true) (xs : List Vl) (hc : tkI c = (xs.length : Int)) (hf : ∀ v ∈ xs, fine v) (xv rvv : Value) (w : World) (hx : Ws w [] xv xs) (h : Rw w [] rvv r) :
    Calls Tryz.prog 132 #[val c n x, xv, rvv] w fun e w' => e = endX (evF r (c, n, x) xs) ∧ Ext w w' := by
  match xs, hc, hf, hx with
  | [], hc, _, hx => exact apply0_c r hr c n x ho hc xv rvv w hx h
  | [a], hc, hf, hx => exact apply1_c r c n x hc a (hf a (by simp)) xv rvv w hx h
  | [a, d], hc, hf, hx => exact apply2_c r c n x hc a d (hf a (by simp)) (hf d (by simp)) xv rvv w hx h
  | _ :: _ :: _ :: _, hc, _, _ =>
    rcases okW_tk ho with e | e | e <;> simp only at e <;> rw [e] at hc <;> simp only [List.length_cons] at hc <;> omega
end Go.Proofs.YtljkneajdndgjabGreat
