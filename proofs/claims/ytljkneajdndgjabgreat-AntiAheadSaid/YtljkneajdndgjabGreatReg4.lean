/-
  A helper of ours: no claim of its own. As XReg3, in a round of a range over a function: a region that draws its order, in that frame.
-/
import Derived.Test.YtljkneajdndgjabGreatEdgF
import Derived.Test.YtljkneajdndgjabGreatSchS
import Derived.Test.YtljkneajdndgjabGreatReg3
set_option linter.unusedVariables false
set_option linter.unusedSimpArgs false
namespace Go.Proofs.YtljkneajdndgjabGreat
open Go.RowKit
attribute [local go_sem] GW.cell GW.frozen In.eq_true In.le_true In.ne In.ne' In.ne_add In.ne_add' In.lt_add Upto.le_true Upto.le_add Upto.lt_add
theorem sl_form {w : World} {S : List Nat} {sz n : Nat} {v : Value} {xs : List Value} (h : Sl w S sz v n xs) : ∃ A cap, v = .slice A n cap := by obtain ⟨A, cap, e, _⟩ := h; exact ⟨A, cap, e⟩
/-- Edges of one's own, with rows of one's own. -/
def OwnEr (w : World) (base : Nat) (v : Value) (L : List Ve) : Prop := OwnE w base v L ∧ ∀ p ∈ L, Rw w (ob v ++ List.range base) p.1 p.2.1
theorem rw_app {w w' : World} {v v' u : Value} {S S' : List Nat} {r : List Vl} (h : Rw w S u r) (hS : ∀ k ∈ ob v, k ∈ S) (hS' : ∀ k ∈ S', k ∈ S) (hg : w.grownBy w' v.ownBlock) (hv : v'.ownBlock = v.ownBlock ∨ v'.ownBlock = some w.heap.size) : Rw w' (ob v' ++ S') u r := by
  have hF := fr_grown hg
  rcases hv with e | e
  · have := Sl.fr h hF hS
    refine Sl.less this fun b hb => ?_
    rcases List.mem_append.1 hb with hb | hb
    · exact hS b (by unfold ob at hb ⊢; rwa [e] at hb)
    · exact hS' b hb
  · have h2 : Rw w (w.heap.size :: S) u r := Sl.new h fun b hb => by
      rcases List.mem_cons.1 hb with rfl | hb
      · exact .inr (Nat.le_refl _)
      · exact .inl hb
    have h3 := Sl.fr h2 hF fun b hb => List.mem_cons_of_mem _ (hS b hb)
    refine Sl.less h3 fun b hb => ?_
    rcases List.mem_append.1 hb with hb | hb
    · unfold ob at hb; rw [e] at hb; simp at hb; simp [hb]
    · exact List.mem_cons_of_mem _ (hS' b hb)
section
variable {w w' : World} {base : Nat} {v v' : Value} {L M : List Ve}
theorem OwnEr.nil (w : World) (base : Nat) : OwnEr w base (.slice none 0 0) [] := ⟨World.ownsRow_nil _ _ _ _, by simp⟩
theorem OwnEr.ext (h : OwnEr w base v L) (k : Ext w w') : OwnEr w' base v L := ⟨own_ext h.1 k, fun p hp => Sl.ext (h.2 p hp) k⟩
theorem OwnEr.lower {b : Nat} (h : OwnEr w base v L) (hb : b ≤ base) : OwnEr w b v L := ⟨own_base h.1 hb, fun p hp => Sl.less (h.2 p hp) fun k hk => by
  rcases List.mem_append.1 hk with hk | hk
  · exact List.mem_append_left _ hk
  · exact List.mem_append_right _ (List.mem_range.2 (by have := List.mem_range.1 hk; omega))⟩
theorem OwnEr.ew (h : OwnEr w base v L) : Ew w [] v L := ⟨Sl.own h.1 (by simp), fun p hp => Sl.less (h.2 p hp) (by simp)⟩
theorem OwnEr.app (h : OwnEr w base v L) (ho : OwnE w' base v' (L ++ M)) (hg : w.grownBy w' v.ownBlock) (hv : v'.ownBlock = v.ownBlock ∨ v'.ownBlock = some w.heap.size) (hM : ∀ p ∈ M, ∃ S, Rw w S p.1 p.2.1 ∧ ∀ k ∈ ob v ++ List.range base, k ∈ S) : OwnEr w' base v' (L ++ M) := by
  refine ⟨ho, fun p hp => ?_⟩
  rcases List.mem_append.1 hp with hp | hp
  · exact rw_app (h.2 p hp) (fun k hk => List.mem_append_left _ hk) (fun k hk => List.mem_append_right _ hk) hg hv
  · obtain ⟨S, hS, hk⟩ := hM p hp
    exact rw_app hS (fun k h => hk k (List.mem_append_left _ h)) (fun k h => hk k (List.mem_append_right _ h)) hg hv
end
theorem ec1_one {u : Value} {r : List Vl} {j : Jp} (h : u.oneCell' = true) : ∀ x ∈ ec1 (u, r, j), x.oneCell' = true := by
  intro x hx; simp [ec1] at hx; rcases hx with rfl | rfl | rfl; exact h; rfl; rfl
def rowF (S : List Nat) (r : List Vl) : Fact := .st (fun u w => Rw w S u r) (fun _ _ _ h k => Sl.ext h k)
def edgF (S : List Nat) (r : List Vl) (j : Jp) : Fact := .st (fun u w => ∃ A cp, u = em (.slice A r.length cp) j ∧ Rw w S (.slice A r.length cp) r) (fun _ _ _ h k => by obtain ⟨A, cp, e, h⟩ := h; exact ⟨A, cp, e, Sl.ext h k⟩)
def oneE (S : List Nat) (r : List Vl) (j : Jp) : Fact := .st (fun v w => ∃ u, Sl w [] 3 v 1 (ec1 (u, r, j)) ∧ Rw w S u r) (fun _ _ _ h k => by obtain ⟨u, h1, h2⟩ := h; exact ⟨u, Sl.ext h1 k, Sl.ext h2 k⟩)
theorem buildE1 (A : Option Addr) (n cap : Nat) (x : Jp) (w : World) : (Instr.buildSlice 22 1 #[(0, em (.slice A n cap) x)]).run Tryz.prog w = .ok (.slice (some ⟨w.heap.size, 0, none⟩) 1 1) (w.alloc (.cells #[.slice A n cap, .int .i64 x.1, .int .i64 x.2] 37)) := by
  simp [go_sem]
theorem oneE_new (u : Value) (r : List Vl) (x : Jp) (w : World) : Sl (w.alloc (.cells #[u, .int .i64 x.1, .int .i64 x.2] 37)) [] 3 (.slice (some ⟨w.heap.size, 0, none⟩) 1 1) 1 (ec1 (u, r, x)) :=
  Sl.own (World.ownsRow_lit (base := w.heap.size) (e := 37) (size := 3) w #[u, .int .i64 x.1, .int .i64 x.2] 1 (Nat.le_refl _) (by decide) rfl) (by simp)
set_option maxHeartbeats 8000000 in
set_option maxRecDepth 100000 in
theorem edgesOf_c (r : List Vl) (f : List Jp) (u v : Value) (w : World) (hr : Rw w [] u r) (hr8 : r.length ≤ 8) (hf : Jw w [] v f) (hfl : f.length ≤ 1000000000) : Calls Tryz.prog 77 #[u, v] w fun e w' => ∃ v' M, e = .returned v' ∧ eds M = f.map (fun j => (r, j)) ∧ OwnEr w' w.heap.size v' M ∧ Ext w w' := by
  obtain ⟨A, cap, rfl, hlc, hlm, hat⟩ := jw_form hf
  unfold maxLen at hlm
  replace hat := hide hat
  obtain ⟨RA, rcap, rfl⟩ := rw_val hr
  have hrw := hide hr
  clear hf hr
  go_enter Tryz.func77, Tryz.ntmps77
  go_wp2_with fail
  go_loopg [5, 10] f.length (fun gh vv i wr => ∃ (k : Nat) (acc : List Ve), i = .int .i64 k ∧ k + gh = f.length ∧ OwnEr wr w.heap.size vv acc ∧ acc.length ≤ k ∧ Hid (eds acc = (f.take k).map fun j => (r, j)) ∧ Ext w wr)
  case atStart => exact ⟨0, [], rfl, by omega, OwnEr.nil _ _, Nat.le_refl _, (by show _ = _; simp [eds]), Ext.refl w⟩
  case round =>
    obtain ⟨k, acc, rfl, hk, ho, hak, hacc, hX⟩ := hrel
    have hzX := hX.size
    by_cases hlt : k < f.length
    · obtain ⟨x, hx⟩ : ∃ x, f[k]? = some x := ⟨_, List.getElem?_eq_getElem hlt⟩
      obtain ⟨b0, o0, rfl, -, hb', c0, c1⟩ := hat.out k x hx
      have k0 := jcell_later hX c0
      have k1 := jcell_later hX c1
      have hbr : b0 < wr.heap.size := block_lt_of_cell k0
      have hnx := hide (show eds acc ++ [(r, x)] = (f.take (k + 1)).map fun j => (r, j) by rw [hacc.out, List.take_add_one, hx]; simp)
      obtain ⟨ja, jn⟩ := x
      simp only at k0 k1 hnx
      have O1 := Ob.new wr 80 [.int .i64 ja, .int .i64 jn]
      have q0 := hide (O1.cell 0 rfl)
      have q1 := hide (O1.cell 1 rfl)
      have hcp := hide (fun w' (hX' : Ext (wr.alloc (.cells #[.int .i64 ja, .int .i64 jn] 80)) w') => rowCopy_c r (.slice RA r.length rcap) w' (Sl.ext hrw.out ((hX.alloc _).trans hX')) (by omega))
      have ho0 := hide ho
      obtain ⟨C, ccap, rfl⟩ := own_form ho.1
      replace ho := hide (ho.ext ((Ext.refl wr).alloc (.cells #[.int .i64 ja, .int .i64 jn] 80)))
      clear c0 c1 hat O1 hx hacc hrw
      go_wp2_with fail
      refine wp_region_list_tail 9 [(.is (.slice C acc.length ccap)), (.is (.slice RA r.length rcap)), rowF (List.range wr.heap.size) r, (.is (.pointer (some ⟨wr.heap.size, 0, none⟩))), (.is (.int .i64 ja)), (.is (.pointer (some ⟨wr.heap.size, 1, none⟩))), (.is (.int .i64 jn)), edgF (List.range wr.heap.size) r (ja, jn), oneE (List.range wr.heap.size) r (ja, jn)] (by kernel_rfl) (by kernel_rfl) (by kernel_rfl) (by kernel_rfl) (by kernel_rfl) (by kernel_rfl) (by kernel_rfl) ?_ ?_
      · refine ⟨?_, ?_, ?_, ?_, ?_, ?_, ?_, ?_, ?_, trivial⟩
        · intro b w' h hE
          have f5 : b.tmps.getD 5 undef = .slice C acc.length ccap := hE 5 (of_decide_eq_true (by kernel_rfl))
          exact good_move (wanted_none rfl) rfl f5
        · intro b w' h hE
          have f0 : b.tmps.getD 0 undef = .slice RA r.length rcap := hE 0 (of_decide_eq_true (by kernel_rfl))
          exact good_move (wanted_none rfl) rfl f0
        · intro b w' h hE
          have f15 : b.tmps.getD 15 undef = .slice RA r.length rcap := h.dep 1 _ 15 (by kernel_rfl) rfl rfl
          have g15 : b.tmps[15]?.getD undef = .slice RA r.length rcap := by rw [← Array.getD_eq_getD_getElem?]; exact f15
          refine good_call (wanted_none rfl) rfl (enters Tryz.func105 (by kernel_rfl) rfl) ?_
          rw [show (#[.tmp 15] : Array Operand).map b.eval = #[.slice RA r.length rcap] by simp [Act.eval, g15]]
          exact (hcp.out w' h.ext).mono fun e w1 ⟨v, he, ho, hx⟩ => ⟨v, he, Sl.own ho (fun k hk => by have := List.mem_range.1 hk; have := h.ext.size; simp only [World.size_alloc] at this; omega), hx⟩
        · intro b w' h hE
          have f7 : b.tmps.getD 7 undef = .pointer (some ⟨wr.heap.size, 0, none⟩) := hE 7 (of_decide_eq_true (by kernel_rfl))
          exact good_field (wanted_none rfl) rfl f7 (by simp [go_sem]) rfl
        · intro b w' h hE
          have f17 : b.tmps.getD 17 undef = .pointer (some ⟨wr.heap.size, 0, none⟩) := h.dep 3 _ 17 (by kernel_rfl) rfl rfl
          have c0 := cell_later h.ext q0.out
          exact good_load (wanted_none rfl) rfl f17 (by simp [go_sem, c0]) rfl
        · intro b w' h hE
          have f7 : b.tmps.getD 7 undef = .pointer (some ⟨wr.heap.size, 0, none⟩) := hE 7 (of_decide_eq_true (by kernel_rfl))
          exact good_field (wanted_none rfl) rfl f7 (by simp [go_sem]) rfl
        · intro b w' h hE
          have f19 : b.tmps.getD 19 undef = .pointer (some ⟨wr.heap.size, 1, none⟩) := h.dep 5 _ 19 (by kernel_rfl) rfl rfl
          have c0 := cell_later h.ext q1.out
          exact good_load (wanted_none rfl) rfl f19 (by simp [go_sem, c0]) rfl
        · intro b w' h hE
          have f16 : Rw w' (List.range wr.heap.size) (b.tmps.getD 16 undef) r := h.dep 2 _ 16 (by kernel_rfl) rfl rfl
          have f18 : b.tmps.getD 18 undef = .int .i64 ja := h.dep 4 _ 18 (by kernel_rfl) rfl rfl
          have g18 : b.tmps[18]?.getD undef = .int .i64 ja := by rw [← Array.getD_eq_getD_getElem?]; exact f18
          have f20 : b.tmps.getD 20 undef = .int .i64 jn := h.dep 6 _ 20 (by kernel_rfl) rfl rfl
          have g20 : b.tmps[20]?.getD undef = .int .i64 jn := by rw [← Array.getD_eq_getD_getElem?]; exact f20
          obtain ⟨A, cp, e16⟩ := rw_val f16
          have g16 : b.tmps[16]?.getD undef = .slice A r.length cp := by rw [← Array.getD_eq_getD_getElem?]; exact e16
          rw [e16] at f16
          exact good_run (wanted_none rfl) (v := em (.slice A r.length cp) (ja, jn)) (by simp [execOp, Act.eval, go_sem, g16, g18, g20, Sem.run_bind, Sem.run_pure, Result.andThen_ok]) ⟨A, cp, rfl, f16⟩
        · intro b w' h hE
          have f21 : ∃ A cp, (b.tmps.getD 21 undef) = em (.slice A r.length cp) (ja, jn) ∧ Rw w' (List.range wr.heap.size) (.slice A r.length cp) r := h.dep 7 _ 21 (by kernel_rfl) rfl rfl
          obtain ⟨A, cp, e21, hr21⟩ := f21
          have g21 : b.tmps[21]?.getD undef = em (.slice A r.length cp) (ja, jn) := by rw [← Array.getD_eq_getD_getElem?]; exact e21
          have := buildE1 A r.length cp (ja, jn) w'
          refine good_grow (w' := w'.alloc (.cells #[.slice A r.length cp, .int .i64 ja, .int .i64 jn] 37)) (v := .slice (some ⟨w'.heap.size, 0, none⟩) 1 1) (wanted_none rfl) ?_ ⟨_, oneE_new (.slice A r.length cp) r (ja, jn) w', Sl.ext hr21 ((Ext.refl _).alloc _)⟩ ((Ext.refl _).alloc _)
          simp [execOp, Act.eval, g21, this, Sem.run_bind, Sem.run_pure, Result.andThen_ok]
      · intro b w2 hX2 hd hz he' hf
        have e14 : b.tmps.getD 14 undef = .slice C acc.length ccap := hf 0 _ 14 (by omega) rfl rfl
        have e15 : b.tmps.getD 15 undef = .slice RA r.length rcap := hf 1 _ 15 (by omega) rfl rfl
        have f16 : Rw w2 (List.range wr.heap.size) (b.tmps.getD 16 undef) r := hf 2 _ 16 (by omega) rfl rfl
        have e17 : b.tmps.getD 17 undef = .pointer (some ⟨wr.heap.size, 0, none⟩) := hf 3 _ 17 (by omega) rfl rfl
        have e18 : b.tmps.getD 18 undef = .int .i64 ja := hf 4 _ 18 (by omega) rfl rfl
        have e19 : b.tmps.getD 19 undef = .pointer (some ⟨wr.heap.size, 1, none⟩) := hf 5 _ 19 (by omega) rfl rfl
        have e20 : b.tmps.getD 20 undef = .int .i64 jn := hf 6 _ 20 (by omega) rfl rfl
        have f21 : ∃ A cp, (b.tmps.getD 21 undef) = em (.slice A r.length cp) (ja, jn) ∧ Rw w2 (List.range wr.heap.size) (.slice A r.length cp) r := hf 7 _ 21 (by omega) rfl rfl
        have f22 : ∃ u, Sl w2 [] 3 (b.tmps.getD 22 undef) 1 (ec1 (u, r, (ja, jn))) ∧ Rw w2 (List.range wr.heap.size) u r := hf 8 _ 22 (by omega) rfl rfl
        have e := frame_puts hd hz he'
        obtain ⟨X, hXx⟩ : ∃ X : Nat → Value, ∀ d, b.tmps.getD d undef = X d := ⟨_, fun _ => rfl⟩
        rw [hXx] at e14 e15 e17 e18 e19 e20 f16 f21 f22
        obtain ⟨A16, c16, q16⟩ := rw_val f16
        obtain ⟨A21, c21, q21, -⟩ := f21
        obtain ⟨u22, f22, r22⟩ := f22
        obtain ⟨A22, c22, q22⟩ := sl_form f22
        rw [show dstsOf _ = [14, 15, 16, 17, 18, 19, 20, 21, 22] from rfl] at e
        simp only [List.foldl_cons, List.foldl_nil, hXx, Act.put, List.setIfInBounds_toArray, List.set_cons_succ, List.set_cons_zero] at e
        rw [e14, e15, e17, e18, e19, e20, q16, q21, q22] at e
        rw [q16] at f16
        replace f16 := hide f16
        rw [q22] at f22
        replace f22 := hide f22
        clear hf he' hz hd hXx e14 e15 e17 e18 e19 e20 q16 q21 q22
        subst e
        have hzw := hX2.size
        simp only [List.drop_succ_cons, List.drop_zero]
        replace r22 := hide r22
        have hone := row_one r22.out
        go_wp2_with (at_builtin; (refine wpl_app tEdg rfl (.tmp 14) (.tmp 22) rfl rfl (own_ext ho.out.1 hX2) rfl (src_sl Tryz.underlying22 f22.out (ec1_one hone) (by omega)) (by unfold maxLen; omega) (by omega) (by simp only [World.size_alloc] at hzw; omega) ?_; intro v8 w8 ho8 hg8 hob8; have hX8 := hide (ext_grown ((hX.alloc _).trans hX2) hg8 (fun q hq => (ho.out.1.lt q hq).1))))
        go_roundg (f.length - (k + 1))
        case measure => omega
        case rel =>
          have ho9 : OwnEr w8 w.heap.size v8 (acc ++ [(u22, r, (ja, jn))]) := (ho.out.ext hX2).app (own_appE (M := [(u22, r, (ja, jn))]) (by simpa [ec, ec1] using ho8)) hg8 hob8 (fun p hp => by
            obtain rfl := List.mem_singleton.1 hp
            refine ⟨_, r22.out, fun q hq => List.mem_range.2 ?_⟩
            rcases List.mem_append.1 hq with hq | hq
            · have := (ob_ge ho0.out.1 q hq).2; omega
            · have := List.mem_range.1 hq; omega)
          exact ⟨k + 1, acc ++ [(u22, r, (ja, jn))], by go_num, by omega, ho9, by rw [List.length_append, List.length_singleton]; omega, by show _ = _; rw [eds, List.map_append]; exact hnx.out, hX8.out⟩
    · have hk' : k = f.length := by omega
      have hge : (f.length : Int) ≤ k := by omega
      have hac := hacc.out
      rw [List.take_of_length_le (by omega)] at hac
      replace hac := hide hac
      replace hk' := hide hk'
      obtain ⟨C, ccap, rfl⟩ := own_form ho.1
      clear hacc hat
      go_wp2_with fail
      go_returns
      exact ⟨_, acc, rfl, hac.out, ho, hX⟩
end Go.Proofs.YtljkneajdndgjabGreat
set_option linter.unusedVariables false
set_option linter.unusedSimpArgs false
namespace Go.Proofs.YtljkneajdndgjabGreat
open Go.RowKit
/-- What is asked of an end that is no leave. -/
def onlyN (Q : Exit → Act → World → Prop) : Exit → Act → World → Prop
  | .normal, a, w => Q .normal a w
  | _, _, _ => False
theorem onlyN_out {Q : Exit → Act → World → Prop} (h : LetsOut (onlyN Q)) : False := by obtain ⟨a, w, h⟩ := h; exact h
def noDefer (o : Oper) : Bool := match o.op with | .defer _ => false | _ => true
theorem noDefer_spec {o : Oper} (h : noDefer o = true) : ∀ c, o.op ≠ .defer c := fun c e => by unfold noDefer at h; rw [e] at h; cases h
section
variable {P : Program} {l n : Nat} {ops : Array Oper} {Q : Exit → Act → World → Prop}
theorem opIn_of_op {o : Oper} {a : Act} {w : World} {K : Act → World → Prop} (hd : noDefer o = true) (h : o.wp P a w K (onlyN Q)) : o.wpIn (Fence.wide.inRound l) n P a w K Q := by
  unfold Oper.wpIn
  refine ⟨fun _ _ => trivial, ?_⟩
  rw [show (Fence.wide.inRound l).round = some l from rfl, Oper.semAt_some l _ _ (noDefer_spec hd)]
  unfold Oper.wp at h
  generalize (execOp a.eval o).run P w = r at *
  cases r with
  | ok x w' =>
    cases x <;> simp only [Oper.upon, Oper.uponIn] at h ⊢
    all_goals first
      | exact h
      | exact ⟨fun h => by simp [Fence.wide] at h, in_round (h.mono fun e w'' he => by
          cases e with
          | returned v => exact he
          | panicked ch => exact he.elim
          | outgrown => exact (onlyN_out he).elim)⟩
      | exact ⟨fun h => by simp [Fence.wide] at h, fun c cs _ => let ⟨v, w', r, s⟩ := h c cs; ⟨v, w', r, stepsIn_wide.2 s⟩⟩
  | halt x w' =>
    cases x <;> simp only [Oper.upon, Oper.uponIn] at h ⊢
    all_goals first
      | exact h.elim
      | exact h
theorem anyIn_of_any (hd : ∀ (i : Nat) (o : Oper), ops[i]? = some o → noDefer o = true) : ∀ (f : Nat) (listed : Array Bool) (a : Act) (w : World), wpAny P .any ops (onlyN Q) f listed a w → wpAnyIn (Fence.wide.inRound l) n P .any ops Q f listed a w
  | 0, listed, a, w, h => h
  | f + 1, listed, a, w, h => by
    refine ⟨fun hr => h.1 hr, fun i hi => ?_⟩
    have h2 := h.2 i hi
    unfold wpOp at h2
    unfold wpOpIn
    split
    · rename_i ho
      simp only [ho] at h2
      exact anyIn_of_any hd f _ _ _ h2
    · rename_i o ho
      simp only [ho] at h2
      split
      · rename_i hw
        simp only [hw, if_true] at h2
        rcases h2 with h2 | ⟨_, h2⟩
        · exact opIn_of_op (hd i o ho) (Oper.wp_mono (fun a w hk => anyIn_of_any hd f _ a w hk) h2)
        · exact (onlyN_out h2).elim
      · rename_i hw
        simp only [hw] at h2
        exact ⟨fun _ _ => trivial, anyIn_of_any hd f _ _ _ h2⟩
end
section
variable {P : Program} {ops : Array Oper} {Q : Exit → Act → World → Prop} {a : Act}
theorem wpIn_region_list_tail {l m id : Nat} {w : World} (n : Nat) (L : List Fact) (hdf : ops.toList.all noDefer = true) (hm : P.follows .mixedOrders = true) (hA : acycB ops = true) (hD : dstsB ops a.tmps.size = true)
    (hn : decide (n < ops.size) = true) (hs : Region.sinkB .any ops n = true) (hc : Region.chainB .any ops n = true) (hq : Region.seqB .any ops (ops.size - n) n (Array.replicate n true ++ Array.replicate (ops.size - n) false) = true)
    (hstep : RSteps (fun k o => ∀ b w', RAt ops (factsOf L) a w k b w' → (∀ t, t ∉ dstsOf (ops.toList.take n).toArray → b.tmps.getD t undef = a.tmps.getD t undef) → RGood P ops (factsOf L) (onlyN Q) k o b w') 0 (ops.toList.take n))
    (hend : ∀ b w', Ext w w' → b.defers = a.defers → b.tmps.size = a.tmps.size → (∀ t, t ∉ dstsOf (ops.toList.take n).toArray → b.tmps.getD t undef = a.tmps.getD t undef) →
      (∀ j o d, j < n → ops[j]? = some o → o.dst = some d → factsOf L j (b.tmps.getD d undef) w') → wpList P ops (onlyN Q) (ops.toList.drop n) b w') : (Code.region id ops true).wpIn (Fence.wide.inRound l) m P Q a w := by
  have hn' := of_decide_eq_true hn
  have hd : ∀ (i : Nat) (o : Oper), ops[i]? = some o → noDefer o = true := fun i o ho => List.all_eq_true.1 hdf o (List.mem_of_getElem? (by rw [Array.getElem?_toList]; exact ho))
  refine wpIn_region_any hm (anyIn_of_any hd _ _ _ _ ?_)
  have := wpAny_facts_tail (P := P) (Φ := factsOf L) (Q := onlyN Q) (W := w) hA hD hn' hs hc hq (fun i v w w' h hx => Fact.stays _ v w w' h hx) (fun i o hi ho b w' h hE => by
    have := RSteps.get 0 (ops.toList.take n) hstep i o (by rw [List.getElem?_take, if_pos hi]; simpa using ho) b w'
    rw [Nat.zero_add] at this
    exact this h hE) (fun b w' h1 h2 h3 _ h5 h6 => hend b w' h1 h2 h3 h6 h5) n (Array.replicate ops.size false) a { w with drawn := w.drawn + 1 } ⟨(Ext.refl w).drew, rfl, rfl, by simp, fun _ _ => rfl, fun j o d ho hl _ => ?_⟩ (fun _ _ => rfl)
    ⟨by simp, fun j oj _ hl => (by rw [getD_replicate_false] at hl; cases hl), fun t _ ht => getD_in (by simpa using ht) (getD_replicate_false _ _)⟩ (by
      rw [Array.toList_replicate, List.take_replicate, cntF_rep]; omega)
  · rwa [show n + (ops.size - n) = ops.size by omega] at this
  · rw [getD_replicate_false] at hl; cases hl
end
end Go.Proofs.YtljkneajdndgjabGreat
