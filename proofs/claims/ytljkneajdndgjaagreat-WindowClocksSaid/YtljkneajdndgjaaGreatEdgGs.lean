/-
  A helper of ours: no claim of its own. Layer 10 (edge): Groups by the code: what it keeps, what it tells.
-/
import Derived.Test.YtljkneajdndgjaaGreatRowS
import Derived.RangeFuncNested
import Derived.Test.YtljkneajdndgjaaGreatIdx
import Derived.Test.YtljkneajdndgjaaGreatEdgEn
import Derived.Test.YtljkneajdndgjaaGreatSnaS
import Derived.Test.YtljkneajdndgjaaGreatEdgFx
import Derived.Test.YtljkneajdndgjaaGreatEdgEg
set_option linter.unusedVariables false
set_option linter.unusedSimpArgs false
namespace Go.Proofs.YtljkneajdndgjaaGreat
open Go.RowKit
section
variable {β : Type} {P : Program} {g : Operand} {ps : Array Tmp} {assign body : Code} {Q : Exit → Act → World → Prop} {a : Act} {w w0 : World} {gf : Nat} {Kp : World → Prop} {lb : Array Value} {H : β → Array Value → World → Prop} {xs : List β}
/-- The statement 'for .. := range g { .. }', within a round of another. -/
theorem wp_rangeKN {l₀ : Nat} (hl₀ : ∃ r, w.heap[l₀]? = some (.loop r)) (hg : a.eval g = .func (.func gf) #[] lb) (eg : ∀ args w, (callFunc gf args).run P w = .ok (.enter gf args) w)
    (hseq : SeqsK Kp P gf lb H xs w0) (hb0 : Ext w0 w) (hps : ∀ x vs W, H x vs W → vs.size = ps.size) (hH : ∀ x vs, Stab w.heap.size (H x vs))
    (I : Nat → World → Prop) (hKp : ∀ k A, I k A → Kp A) (hCl : ∀ k, Cls w.heap.size (I k)) (Ix : Code → Nat → World → Prop) (hI : ∀ k, Stab w.heap.size (I k)) (hIx : ∀ c k, Stab w.heap.size (Ix c k)) (h0 : I 0 w)
    (Ax : Nat → β → Array Value → Act → World → Prop) (hAx : ∀ k x vs a', Stab w.heap.size (Ax k x vs a'))
    (hassign : ∀ (l k : Nat) (x : β) (vs : Array Value) (W : World) (K : Act → World → Prop), I k W → H x vs W → (∀ a' W', Ext W W' → Ax k x vs a' W' → K a' W') →
      assign.wpIn (Fence.wide.inRound l) 0 P (Exit.then K fun _ _ _ => False) { tmps := (ps.zip vs).foldl (fun t (p, v) => t.setIfInBounds p v) a.tmps, defers := [] } W)
    (hbody : ∀ (l k : Nat) (x : β) (vs : Array Value) (a' : Act) (W : World), xs[k]? = some x → I k W → H x vs W → Ax k x vs a' W →
      body.wpIn (Fence.wide.inRound l) 0 P (rfPostK w.heap.size I Ix (k + 1) W) a' W)
    (hdone : ∀ (W : World), I xs.length W → Q .normal a W)
    (hstop : ∀ (c : Code) (k : Nat) (W : World), k ≤ xs.length → Ix c k W → c.wpIn (Fence.wide.inRound l₀) 0 P Q a W) :
    (Code.rangeFunc g ps assign body).wpIn (Fence.wide.inRound l₀) 0 P Q a w := by
  refine wpIn_rangeFunc fun fn _ => ?_
  obtain ⟨r₀, hl₀⟩ := hl₀
  obtain ⟨B, hBe⟩ : ∃ B, B = w.heap.size := ⟨_, rfl⟩
  rw [← hBe] at hH hI hIx hAx hCl hbody
  -- the loop's record
  let rc : LoopState → Option Code → Loop := fun st pe => { state := st, pending := pe, fn, tmps := a.tmps, params := ps, assign, body, defers := r₀.defers }
  have hW1 : ∃ W1, W1 = w.alloc (.loop (rc .ready none)) := ⟨_, rfl⟩
  obtain ⟨W1, hW1⟩ := hW1
  have hXW : Ext w W1 := by rw [hW1]; exact (Ext.refl w).alloc _
  have hlp : W1.heap[B]? = some (.loop (rc .ready none)) := by
    have := World.alloc_heap_new w (.loop (rc .ready none))
    rw [← hBe, ← hW1] at this; exact this
  refine ⟨B, [], W1, { target := .fn (.func gf) lb, args := #[.func (.yield B) #[] #[]] }, W1, gf, #[.func (.yield B) #[] #[]] ++ lb, W1, ?_, ?_, fun _ _ => trivial, ?_, fun h => by simp [Fence.wide, Fence.inRound] at h, callsIn_wide.2 ?_⟩
  · have h1 := run_enterLoop_inner (P := P) (w := w) hl₀ fn a.tmps ps assign body
    rw [← hBe] at h1
    rw [hW1]
    exact h1
  · simp only [resolve, hg]
    simp [go_sem]
  · simp [invoke, go_sem, eg]
  have keep : ∀ {A C : World} {k : Nat} {o : Obj}, A.heap[k]? = some o → Ext A C → C.heap[k]? = some o := fun h e => (e.block _ (lt_of_block h)).trans h
  have hWs : W1.heap.size = B + 1 := by rw [hW1]; simp; omega
  have setk : ∀ {A : World} {b k : Nat} {T : TypeId} {vs : List Value} {o : Obj} {p : Nat} {u : Value}, A.heap[k]? = some o → Ob A b T vs → b ≠ k → (A.setCell ⟨b, p, none⟩ u).heap[k]? = some o := fun hk _ hne => (Below.heap_setCell _ ⟨_, _, none⟩ _ _ (Ne.symm hne)).trans hk
  have blk : ∀ {A : World} {l k : Nat} {o o' p : Obj}, W1.heap.size ≤ l → A.heap[k]? = some p → k < B + 1 → (A.putObj l o').heap[k]? = some p := fun hl hk hlt => (World.putObj_heap_other (by omega)).trans hk
  refine (hseq B (fun k W => I k W ∧ W.heap[B]? = some (.loop (rc .ready none)))
    (fun k W => ∃ c, Ix c k W ∧ W.heap[B]? = some (.loop (rc .done (some c)))) W1 (hb0.trans hXW)
    (fun k => ⟨fun A C h e => ⟨(hI k).ext A C h.1 e, keep h.2 e⟩, fun A l o o' h hl ho hc => ⟨(hI k).put A l o o' h.1 (by omega) ho hc, blk (o := o) hl h.2 (by omega)⟩⟩)
    (fun k => ⟨fun A C ⟨c, h1, h2⟩ e => ⟨c, (hIx c k).ext A C h1 e, keep h2 e⟩, fun A l o o' ⟨c, h1, h2⟩ hl ho hc => ⟨c, (hIx c k).put A l o o' h1 (by omega) ho hc, blk (o := o) hl h2 (by omega)⟩⟩)
    (fun k A b o u vs h hb ho => ⟨hCl k A b o u vs h.1 (by omega) ho, setk h.2 ho (by omega)⟩) (fun k A h => hKp k A h.1) ?_ ⟨(hI 0).ext _ _ h0 hXW, hlp⟩).mono ?_
  · -- a round
    rintro k x vs W hx ⟨hi, hl⟩ hh
    refine ⟨fn, _, assign, body, run_yield hl (hps x vs W hh), roundIn_of_wpIn trivial (hassign _ k x vs W _ hi hh fun a' Wa hXa hax => ?_)⟩
    have hl1 := keep hl hXa
    have hlt := lt_of_block hl1
    refine ⟨_, run_beginRound hl1 rfl, ?_⟩
    obtain ⟨Wb, hWb⟩ : ∃ Wb, Wb = Wa.putObj B (.loop { rc .ready none with state := .busy }) := ⟨_, rfl⟩
    have hl2 : Wb.heap[B]? = some (.loop { rc .ready none with state := .busy }) := by rw [hWb]; exact World.putObj_heap_same hlt
    have lift : ∀ {p : World → Prop}, Stab B p → p Wa → p Wb := fun hp h => by rw [hWb]; exact hp.put _ _ _ _ h (by omega) hl1 rfl
    have hKw : KeepsFrom W1.heap.size W Wb := by
      rw [hWb]
      exact keepsF_trans (keeps_ext hXa) (keepsF_put (by omega) _)
    have hFw : Qk B W Wb := by
      rw [hWb]
      exact (Qk.of_ext hXa).trans (Qk.put hl1 rfl)
    rw [← hWb]
    refine wpIn_mono (hbody _ k x vs a' Wb hx (lift (hI k) ((hI k).ext _ _ hi hXa)) (lift (hH x vs) ((hH x vs).ext _ _ hh hXa)) (lift (hAx k x vs a') hax)) ?_
    have fin : ∀ (jump : Option Code) (W3 : World), KeepsFrom B Wb W3 → ∃ W4, (Instr.endRound B jump).run P W3 = .ok (.bool jump.isNone) W4 ∧
        (∀ p : World → Prop, Stab B p → p W3 → p W4) ∧ W4.heap[B]? = some (.loop (rc (if jump.isNone then .ready else .done) jump)) ∧ KeepsFrom W1.heap.size W3 W4 ∧ Qk B W3 W4 := by
      intro jump W3 hk
      have hl3 := hk.same _ _ (Nat.le_refl _) hl2 rfl
      exact ⟨_, run_endRound jump hl3, fun p hp h => hp.put _ _ _ _ h (Nat.le_refl _) hl3 rfl, World.putObj_heap_same (lt_of_block hl3), keepsF_put (by omega) _, Qk.put hl3 rfl⟩
    rintro e a3 W3 hp
    cases e with
    | normal =>
      obtain ⟨hk3, hi3, hf3⟩ := hp
      obtain ⟨W4, hr, hs, h4, h7, h8⟩ := fin none W3 hk3
      exact ⟨_, W4, hr, .inl ⟨rfl, ⟨hs _ (hI _) hi3, h4⟩, keepsF_trans (keepsF_trans hKw (keepsF_mono hk3 (by omega))) h7, ((hFw.trans hf3).trans h8).mono (by omega)⟩⟩
    | ret =>
      obtain ⟨hk3, hi3⟩ := hp
      obtain ⟨W4, hr, hs, h4, h7, -⟩ := fin (some .ret) W3 hk3
      exact ⟨_, W4, hr, .inr ⟨rfl, ⟨.ret, hs _ (hIx _ _) hi3, h4⟩, keepsF_trans (keepsF_trans hKw (keepsF_mono hk3 (by omega))) h7⟩⟩
    | exit id =>
      obtain ⟨hk3, hi3⟩ := hp
      obtain ⟨W4, hr, hs, h4, h7, -⟩ := fin (some (.exit id)) W3 hk3
      exact ⟨_, W4, hr, .inr ⟨rfl, ⟨.exit id, hs _ (hIx _ _) hi3, h4⟩, keepsF_trans (keepsF_trans hKw (keepsF_mono hk3 (by omega))) h7⟩⟩
    | goto t =>
      obtain ⟨hk3, hi3⟩ := hp
      obtain ⟨W4, hr, hs, h4, h7, -⟩ := fin (some (.goto t)) W3 hk3
      exact ⟨_, W4, hr, .inr ⟨rfl, ⟨.goto t, hs _ (hIx _ _) hi3, h4⟩, keepsF_trans (keepsF_trans hKw (keepsF_mono hk3 (by omega))) h7⟩⟩
    | panic ch => exact hp.elim
    | outgrown => exact hp.elim
  · -- behind it
    rintro e W2 ⟨⟨v, rfl⟩, ⟨hi, hl⟩ | ⟨k, hk, c, hi, hl⟩⟩
    · exact ⟨none, _, run_endLoop hl (by intro h; cases h), hdone _ ((hI _).put _ _ _ _ hi (Nat.le_refl _) hl rfl)⟩
    · exact ⟨some c, _, run_endLoop hl (by intro h; cases h), hstop c k _ hk ((hIx c k).put _ _ _ _ hi (Nat.le_refl _) hl rfl)⟩
end

end Go.Proofs.YtljkneajdndgjaaGreat
set_option linter.unusedVariables false
set_option linter.unusedSimpArgs false
namespace Go.Proofs.YtljkneajdndgjaaGreat
open Go.RowKit
theorem rw_box {W : World} {S : List Nat} {v : Value} {r : List Vl} {b : Nat} {T : TypeId} {A : Option Addr} {n cap : Nat} (h : Rw W S v r) (o : Ob W b T [.slice A n cap]) : Rw W (b :: S) v r := by
  obtain ⟨B, k, rfl, h1, h2, h3, h4⟩ := h
  refine ⟨B, k, rfl, h1, h2, h3, ?_⟩
  rcases h4 with h4 | ⟨c, p, e, hcS, hc⟩
  · exact .inl h4
  · rcases r with _ | ⟨x, r⟩
    · exact .inl rfl
    · refine .inr ⟨c, p, e, ?_, hc⟩
      intro hcb
      rcases List.mem_cons.1 hcb with hcb | hcb
      · subst hcb
        have q := hc 0 (.int .i64 x.1) rfl
        rw [cell_of_row W c (p + 0) _ T (0, 0) o] at q
        rcases p with _ | p
        · simp at q
        · simp at q
      · exact hcS hcb
theorem ew_box {W : World} {S : List Nat} {v : Value} {L : List Ve} {b : Nat} {T : TypeId} {A : Option Addr} {n cap : Nat} (h : Ew W S v L) (o : Ob W b T [.slice A n cap]) : Ew W (b :: S) v L := by
  refine ⟨?_, fun p hp => rw_box (h.2 p hp) o⟩
  obtain ⟨B, k, rfl, h1, h2, h3, h4⟩ := h.1
  refine ⟨B, k, rfl, h1, h2, h3, ?_⟩
  rcases h4 with h4 | ⟨c, p, e, hcS, hc⟩
  · exact .inl h4
  · rcases L with _ | ⟨x, L⟩
    · exact .inl rfl
    · refine .inr ⟨c, p, e, ?_, hc⟩
      intro hcb
      rcases List.mem_cons.1 hcb with hcb | hcb
      · subst hcb
        have q := hc 1 (.int .i64 x.2.2.1) rfl
        rw [cell_of_row W c (p + 1) _ T (0, 0) o] at q
        simp at q
      · exact hcS hcb
end Go.Proofs.YtljkneajdndgjaaGreat
set_option linter.unusedVariables false
set_option linter.unusedSimpArgs false
namespace Go.Proofs.YtljkneajdndgjaaGreat
open Go.RowKit
attribute [local go_sem] GW.cell GW.frozen In.eq_true In.le_true In.ne In.ne' In.ne_add In.ne_add' In.lt_add Upto.le_true Upto.le_add Upto.lt_add Oper.semAt_some wide_depth wide_fn
def cpOp (f : List Jp) : Int × List Jp := (0, f)
set_option maxHeartbeats 8000000 in
set_option maxRecDepth 100000 in
theorem copies_c (L : List Ve) (v : Value) (w : World) (hC : Ew w [] v L) (hL : L.length ≤ 8192) (hG : ∀ g ∈ grp (eds L), g.1.length ≤ 8 ∧ g.2.length ≤ 1024) : Calls Tryz.prog 145 #[v] w fun e w' => ∃ v' M, e = .returned v' ∧ eds M = eds L ∧ OwnEr w' w.heap.size v' M ∧ Ext w w' := by
  obtain ⟨A, cap, rfl, hlc, hlm, -⟩ := ew_form hC
  unfold maxLen at hlm
  refine calls_marks Tryz.func145 rfl ?_
  simp only [Tryz.ntmps145, List.size_toArray, List.length_cons, List.length_nil, Nat.reduceAdd, Nat.reduceSub, Array.replicate_succ, Array.replicate_zero, List.push_toArray, List.append_toArray, List.nil_append, List.cons_append]
  have a3 : Ob (w.alloc (.cells #[.slice none 0 0] 25)) w.heap.size 25 [.slice none 0 0] := Ob.new w 25 [.slice none 0 0]
  have hX0 : Ext w (w.alloc (.cells #[.slice none 0 0] 25)) := (Ext.refl w).alloc _
  have hGl := grp_len (eds L)
  rw [List.length_map] at hGl
  replace hG := hide hG
  replace hC := hide hC
  go_wp2_with (go_at_call 98; refine (functions_c _ _ _ _).mono ?_; rintro ee w1 ⟨b, rfl, hb, hle, hX1⟩)
  have hX2 := hide (hX0.trans hX1)
  have p3 := a3.ext hX1
  have hz2 := hX2.out.size
  obtain ⟨b3, hb3⟩ : ∃ b3, w.heap.size = b3 := ⟨_, rfl⟩
  rw [hb3] at p3
  clear a3 hle hX0 hX1
  refine wp_range (xs := grp (eds L)) rfl (enters_of Tryz.func141 (by kernel_rfl) rfl) (functions_seq L _ w w1 b hC.out (by omega) hX2.out hb) (Ext.refl _) hX2.out.size (fun x vs W h => h.size) (fun x vs => Hg.stab x vs)
    (fun k W => (∃ mv, ∃ M : List Ve, (Ob W b3 25 [mv] ∧ (OwnE W (b3 + 1) mv M ∧ ∀ p, ∀ (_ : p ∈ M), Rw W (ob mv ++ List.range (b3 + 1)) p.1 p.2.1)) ∧ (eds M = evL cpOp ((grp (eds L)).take k) ∧ M.length ≤ 1024 * k)) ∧ Ext w W)
    (fun c k W => False ∧ Ext w W)
    (fun k => (Stab.ex fun mv => Stab.ex fun M => ((Stab.ob _ _ _).and ((Stab.own _ _ _ _ _ _).and (Stab.all fun p => Stab.all fun _ => Stab.sl _ _ _ _ _))).and (Stab.pure _)).and (Stab.of_ext hz2))
    (fun c k => (Stab.pure _).and (Stab.of_ext hz2))
    ⟨⟨_, [], ⟨p3, World.ownsRow_nil _ _ _ _, by simp⟩, by simp [evL, eds], by simp⟩, hX2.out⟩
    (fun k x vs a' _ => ∃ r f, vs = #[r, f] ∧ a' = { tmps := #[.slice A L.length cap, undef, .slice none 0 0, .pointer (some ⟨b3, 0, none⟩), r, f, .slice A L.length cap, .func (.func 141) #[] #[.pointer (some ⟨b, 0, none⟩)], r, f, undef, undef, undef, undef, undef, undef], defers := [] })
    (fun k x vs a' => Stab.pure _) ?assign ?body ?done ?stop
  case assign =>
    rintro LL k x vs W K _ ⟨r, f, rfl, -, -⟩ hK
    gi_wp2
    exact hK _ _ (Ext.refl _) ⟨r, f, rfl, by rw [← hb3]⟩
  case body =>
    rintro LL k x vs a' W hx ⟨⟨mv, M, ⟨o3, hMo, hMr⟩, hMe, hMl⟩, hXw⟩ ⟨r', f', e', hr, hf⟩ ⟨r, f, rfl, rfl⟩
    obtain ⟨rfl, rfl⟩ : r = r' ∧ f = f' := by simpa using e'
    obtain ⟨q, J⟩ := x
    have hgm : (q, J) ∈ grp (eds L) := List.mem_of_getElem? hx
    have hkl := (List.getElem?_eq_some_iff.1 hx).1
    obtain ⟨h8, hJl⟩ := hG.out (q, J) hgm
    simp only at h8 hJl
    have hb3W := o3.lt
    have hzW := hXw.size
    have hfk := hide hf
    obtain ⟨JA, jcap, rfl, -, -, -⟩ := jw_form hf
    obtain ⟨RA, rcap, rfl⟩ := rw_val hr
    have hnx := hide (show evL cpOp ((grp (eds L)).take (k + 1)) = evL cpOp ((grp (eds L)).take k) ++ J.map fun j => (q, j) by rw [List.take_add_one, hx, Option.toList_some, evL_snoc]; rfl)
    replace hMe := hide hMe
    clear hx hgm hf
    obtain ⟨MA, mcap, rfl⟩ := own_form hMo
    have hM0 : OwnEr W (b3 + 1) (.slice MA M.length mcap) M := ⟨hMo, fun p hp => hMr p hp⟩
    replace hM0 := hide hM0
    clear hMo hMr
    have q3 := hide (o3.cell 0 rfl)
    have hed := hide (fun w' (hX' : Ext W w') => edgesOf_c q J (.slice RA q.length rcap) (.slice JA J.length jcap) w' (Sl.ext hr hX') h8 (Sl.ext hfk.out hX') (by omega))
    try gi_wp2_with fail
    refine wpIn_region_list_tail 4 [(.is (.slice MA M.length mcap)), (.is (.slice RA q.length rcap)), (.is (.slice JA J.length jcap)), ownF W.heap.size q J] (by kernel_rfl) (by kernel_rfl) (by kernel_rfl) (by kernel_rfl) (by kernel_rfl) (by kernel_rfl) (by kernel_rfl) (by kernel_rfl) ?_ ?_
    · refine ⟨?_, ?_, ?_, ?_, trivial⟩
      · intro b w' h hE
        have f3 : b.tmps.getD 3 undef = .pointer (some ⟨b3, 0, none⟩) := hE 3 (of_decide_eq_true (by kernel_rfl))
        have c0 := cell_later h.ext q3.out
        exact good_load (wanted_none rfl) rfl f3 (by simp [go_sem, c0]) rfl
      · intro b w' h hE
        have f4 : b.tmps.getD 4 undef = .slice RA q.length rcap := hE 4 (of_decide_eq_true (by kernel_rfl))
        exact good_move (wanted_none rfl) rfl f4
      · intro b w' h hE
        have f5 : b.tmps.getD 5 undef = .slice JA J.length jcap := hE 5 (of_decide_eq_true (by kernel_rfl))
        exact good_move (wanted_none rfl) rfl f5
      · intro b w' h hE
        have f11 : b.tmps.getD 11 undef = .slice RA q.length rcap := h.dep 1 _ 11 (by kernel_rfl) rfl rfl
        have g11 : b.tmps[11]?.getD undef = .slice RA q.length rcap := by rw [← Array.getD_eq_getD_getElem?]; exact f11
        have f12 : b.tmps.getD 12 undef = .slice JA J.length jcap := h.dep 2 _ 12 (by kernel_rfl) rfl rfl
        have g12 : b.tmps[12]?.getD undef = .slice JA J.length jcap := by rw [← Array.getD_eq_getD_getElem?]; exact f12
        refine good_call (wanted_none rfl) rfl (enters Tryz.func100 (by kernel_rfl) rfl) ?_
        rw [show (#[.tmp 11, .tmp 12] : Array Operand).map b.eval = #[.slice RA q.length rcap, .slice JA J.length jcap] by simp [Act.eval, g11, g12]]
        exact (hed.out w' h.ext).mono fun e w1 ⟨v, M2, he, hM2, ho, hx⟩ => ⟨v, he, ⟨M2, hM2, ho.lower h.ext.size⟩, hx⟩
    · intro b w2 hX2 hd hz he' hf
      have e10 : b.tmps.getD 10 undef = .slice MA M.length mcap := hf 0 _ 10 (by omega) rfl rfl
      have e11 : b.tmps.getD 11 undef = .slice RA q.length rcap := hf 1 _ 11 (by omega) rfl rfl
      have e12 : b.tmps.getD 12 undef = .slice JA J.length jcap := hf 2 _ 12 (by omega) rfl rfl
      have f13 : ∃ M2, eds M2 = J.map (fun j => (q, j)) ∧ OwnEr w2 W.heap.size (b.tmps.getD 13 undef) M2 := hf 3 _ 13 (by omega) rfl rfl
      have e := frame_puts hd hz he'
      obtain ⟨X, hXx⟩ : ∃ X : Nat → Value, ∀ d, b.tmps.getD d undef = X d := ⟨_, fun _ => rfl⟩
      rw [hXx] at e10 e11 e12 f13
      obtain ⟨M2, hM2, f13⟩ := f13
      obtain ⟨A13, c13, q13⟩ := own_form f13.1
      rw [show dstsOf _ = [10, 11, 12, 13] from rfl] at e
      simp only [List.foldl_cons, List.foldl_nil, hXx, Act.put, List.setIfInBounds_toArray, List.set_cons_succ, List.set_cons_zero] at e
      rw [e10, e11, e12, q13] at e
      rw [q13] at f13
      replace f13 := hide f13
      clear hf he' hz hd hXx e10 e11 e12 q13
      subst e
      have hzw := hX2.size
      simp only [List.drop_succ_cons, List.drop_zero]
      have hl2 : M2.length = J.length := by have := congrArg List.length hM2; simpa [eds] using this
      have o3b := hide (o3.ext hX2)
      have hMb := hide (hM0.out.ext hX2)
      have hno := Ob.not_own o3b.out hMb.out.1 (by decide)
      replace hM2 := hide hM2
      replace hl2 := hide hl2
      go_wp2_with (at_builtin; (refine wpl_app tEdg rfl (.tmp 10) (.tmp 13) rfl rfl hMb.out.1 rfl (src_sl Tryz.underlying25 f13.out.ew.1 (Ew.one f13.out.ew) (by omega)) (by unfold maxLen; have := hl2.out; omega) (by have := hl2.out; omega) (by omega) ?_; intro v8 w8 ho8 hg8 hob8; obtain ⟨A8, c8, rfl⟩ := own_form ho8; have o3c := o3b.out.grown hg8 (Ne.symm hno); have k3 := o3c.cell 0 rfl; have f3 := o3c.free 0; have hlt3 := o3c.lt; haveI : In b3 w8 := ⟨hlt3⟩))
      have hM8 : OwnEr w8 (b3 + 1) (.slice A8 (M.length + M2.length) c8) (M ++ M2) := hMb.out.app (own_appE ho8) hg8 hob8 (fun p hp => ⟨_, f13.out.2 p hp, fun q hq => List.mem_append_right _ (List.mem_range.2 (by
        rcases List.mem_append.1 hq with hq | hq
        · have := (ob_ge hM0.out.1 q hq).2; omega
        · have := List.mem_range.1 hq; omega))⟩)
      have hFr : Fr (ob (Value.slice MA M.length mcap) ++ [b3]) W (w8.setCell ⟨b3, 0, none⟩ (.slice A8 (M.length + M2.length) c8)) := ((Fr.of_ext hX2).grown hg8 (fun k hk => .inl (List.mem_append_left _ (by unfold ob; rw [show (Value.slice MA M.length mcap).ownBlock = some k from hk]; exact List.mem_singleton.2 rfl)))).setCell ⟨b3, 0, none⟩ _ (.inl (by simp))
      have hge : ∀ y ∈ ob (Value.slice MA M.length mcap) ++ [b3], w.heap.size ≤ y := fun y hy => by
        rcases List.mem_append.1 hy with hy | hy
        · have := (ob_ge hM0.out.1 y hy).1; omega
        · obtain rfl := List.mem_singleton.1 hy; omega
      have hcl : ∀ y ∈ ob (Value.slice MA M.length mcap) ++ [b3], ∃ T vs, Ob W y T vs := fun y hy => by
        rcases List.mem_append.1 hy with hy | hy
        · exact ob_obj hM0.out.1 y hy
        · obtain rfl := List.mem_singleton.1 hy; exact ⟨_, _, o3⟩
      have hXe : Ext w (w8.setCell ⟨b3, 0, none⟩ (.slice A8 (M.length + M2.length) c8)) := (ext_grown (hXw.trans hX2) hg8 (fun k hk => by have := (hM0.out.1.lt k hk).1; omega)).setCell (p := ⟨b3, 0, none⟩) (by show w.heap.size ≤ b3; omega) _
      have hF3 : Fr [b3] w8 (w8.setCell ⟨b3, 0, none⟩ (.slice A8 (M.length + M2.length) c8)) := (Fr.refl [b3] w8).setCell ⟨b3, 0, none⟩ _ (.inl (by simp))
      exact show KeepsFrom _ W _ ∧ Below w.heap.size W _ ∧ _ from ⟨keeps_fr hFr hcl, below_fr hFr hzW hge,
        ⟨_, M ++ M2, ⟨o3c.set 0 _, own_fr hM8.1 hF3 (by simp), fun p hp => Sl.set (hM8.2 p hp) _ _ (List.mem_append_right _ (List.mem_range.2 (by show b3 < b3 + 1; omega)))⟩,
          by show eds (M ++ M2) = _; rw [hnx.out, ← hMe.out, ← hM2.out]; simp [eds], by have := hl2.out; rw [List.length_append]; omega⟩, hXe⟩
  case done =>
    rintro D W hD ⟨⟨mv, M, ⟨o3, hMo, hMr⟩, hMe, hMl⟩, hXw⟩ hK
    rw [List.take_of_length_le (Nat.le_refl _), show cpOp = fun f => (0, f) from rfl, grp_back] at hMe
    have q3 := o3.cell 0 rfl
    have l3 := o3.lt
    obtain ⟨MA, mcap, rfl⟩ := own_form hMo
    have hM0 : OwnEr W (b3 + 1) (.slice MA M.length mcap) M := ⟨hMo, fun p hp => hMr p hp⟩
    replace hM0 := hide hM0
    replace hMe := hide hMe
    clear hMo hMr
    subst hb3
    go_wp2
    have hM2 : OwnEr (W.putObj D (.deferred none)) (w.heap.size + 1) (.slice MA M.length mcap) M :=
      ⟨(Stab.own (B := 0) _ _ _ _ _ _).put _ D _ _ hM0.out.1 (Nat.zero_le _) hK rfl, fun p hp => (Stab.sl (B := 0) _ _ _ _ _).put _ D _ _ (hM0.out.2 p hp) (Nat.zero_le _) hK rfl⟩
    refine ret_mark hK (v := .slice MA M.length mcap) ?_ ⟨_, M, rfl, hMe.out, hM2.lower (by omega), put_ext hXw (by omega) _⟩
    simp [results, Tryz.f145, go_sem]
  case stop =>
    rintro D c k W hD hk ⟨h, -⟩ hK
    exact h.elim
end Go.Proofs.YtljkneajdndgjaaGreat
set_option linter.unusedVariables false
set_option linter.unusedSimpArgs false
namespace Go.Proofs.YtljkneajdndgjaaGreat
open Go.RowKit
attribute [local go_sem] GW.cell GW.frozen In.eq_true In.le_true In.ne In.ne' In.ne_add In.ne_add' In.lt_add Upto.le_true Upto.le_add Upto.lt_add Oper.semAt_some wide_depth wide_fn
theorem grp_len2 : ∀ l : List Ed, (grp l).length ≤ l.length
  | [] => Nat.le_refl _
  | e :: l => by
    have ih := grp_len2 l
    rw [grp]
    split
    · simp
    · rename_i q f t h
      rw [h] at ih
      split <;> simp only [List.length_cons] at ih ⊢ <;> omega
/-- What is kept: a copy of the edges, if they are in form. -/
def GrPost (w : World) (L : List Ve) (b : Nat) (w' : World) : Prop := ∃ v' M, Ob w' b 25 [v'] ∧ eds M = (if mayE (eds L) then eds L else []) ∧ Ew w' [] v' M ∧ Ext w w'
set_option maxHeartbeats 8000000 in
set_option maxRecDepth 100000 in
theorem groups_c (L : List Ve) (v : Value) (w : World) (hC : Ew w [] v L) : Calls Tryz.prog 106 #[v] w fun e w' => ∃ b, e = .returned (.func (.func 146) #[] #[.pointer (some ⟨b, 0, none⟩)]) ∧ GrPost w L b w' := by
  have h1 := hide (fun w' (hX : Ext w w') => edgeMay_c L v w' (hC.ext hX))
  have hC' := hide hC
  obtain ⟨A, cap, rfl, hlc, hlm, -⟩ := ew_form hC
  have a3 : Ob (w.alloc (.cells #[.slice none 0 0] 25)) w.heap.size 25 [.slice none 0 0] := Ob.new w 25 [.slice none 0 0]
  have hX0 := hide ((Ext.refl w).alloc (.cells #[.slice none 0 0] 25))
  replace a3 := hide a3
  clear hC
  cases ha : mayE (eds L)
  · rw [ha] at h1
    go_enter Tryz.func106, Tryz.ntmps106
    go_wp2_with (go_at_call 45; (with_reducible refine seq_gw (h1.out _ hX0.out) ?_); intro g)
    go_returns
    exact ⟨_, rfl, show GrPost _ _ _ _ from ⟨_, [], a3.out.ext g.grown, by rw [ha]; rfl, ⟨Sl.nil _ _ _, by simp⟩, hX0.out.trans g.grown⟩⟩
  · rw [ha] at h1
    have hll : L.length ≤ 8192 := by have := mayE_len ha; simp [eds] at this; omega
    have hG := hide (show ∀ g ∈ grp (eds L), g.1.length ≤ 8 ∧ g.2.length ≤ 1024 from fun g hg => ⟨grp_r8 ha g hg, mayJ_len ((mayE_iff.1 ha).2.2 g hg)⟩)
    have hcp := hide (fun w' (hX : Ext w w') => copies_c L (.slice A L.length cap) w' (hC'.out.ext hX) hll hG.out)
    have ha' := hide ha
    clear ha
    go_enter Tryz.func106, Tryz.ntmps106
    go_wp2_with (first
      | (go_at_call 45; (with_reducible refine seq_gw (h1.out _ hX0.out) ?_); intro g)
      | (go_at_call 145; refine (hcp.out _ (hX0.out.trans g.grown)).mono ?_; rintro ee w2 ⟨v2, M, rfl, hM, ho2, hx2⟩; have o3 := (a3.out.ext g.grown).ext hx2; have hlt3 := o3.lt; have hc3 := o3.cell 0 rfl; have hfr3 := o3.free 0; obtain ⟨C2, c2, q2⟩ := own_form ho2.1; subst q2; haveI : In w.heap.size w2 := ⟨hlt3⟩))
    go_returns
    have hlg : w.heap.size < g.val.heap.size := by have := (a3.out.ext g.grown).lt; exact this
    have he : Ew w2 [w.heap.size] (.slice C2 M.length c2) M := ⟨Sl.own ho2.1 (fun x hx => by simp at hx; omega), fun p hp => Sl.less (ho2.2 p hp) (fun x hx => by simp at hx; subst hx; exact List.mem_append_right _ (List.mem_range.2 hlg))⟩
    refine ⟨_, rfl, show GrPost _ _ _ _ from ⟨_, M, o3.set 0 _, by rw [hM, ha'.out]; rfl, (he.fr ((Fr.refl [w.heap.size] w2).setCell ⟨w.heap.size, 0, none⟩ _ (.inl (by simp))) (fun _ h => h)).less (by simp), ((hX0.out.trans g.grown).trans hx2).setCell (p := ⟨w.heap.size, 0, none⟩) (by simp) _⟩⟩
end Go.Proofs.YtljkneajdndgjaaGreat
