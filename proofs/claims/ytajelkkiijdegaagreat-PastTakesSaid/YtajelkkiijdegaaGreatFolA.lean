/-
  A helper of ours: no claim of its own. Layer 13 (fold): what the code keeps, in memory; a number freed, a message's result.
-/
import Derived.Test.YtajelkkiijdegaaGreatMsgA
import Derived.Test.YtajelkkiijdegaaGreatSchE
import Derived.Test.YtajelkkiijdegaaGreatRowE
import Derived.Test.YtajelkkiijdegaaGreatReg
set_option linter.unusedVariables false
set_option linter.unusedSimpArgs false
namespace Go.Proofs.YtajelkkiijdegaaGreat
open Go.RowKit
attribute [local go_sem] GW.cell GW.frozen In.eq_true In.le_true In.ne In.ne' In.ne_add In.ne_add' In.lt_add Upto.le_true Upto.le_add Upto.lt_add
set_option maxHeartbeats 1000000 in
theorem refSpan_c (f t : Int) (h1 : tickB f = true) (h2 : tickB t = true) (w : World) : Calls Tryz.prog 98 #[.agg #[.int .i64 f, .int .i64 t]] w fun e w' => e = .returned (.bool (decide (f < t))) ∧ Ext w w' := by
  have hf := hide (fun w => refTick_c f w)
  have ht := hide (fun w => refTick_c t w)
  rw [h1] at hf
  rw [h2] at ht
  clear h1 h2
  go_enter Tryz.func98, Tryz.ntmps98
  go_wp2_with (first | (go_at_call 97; (with_reducible refine seq_gw (hf.out _) ?_); intro g) | (go_at_call 97; (with_reducible refine seq_gw' (ht.out _) ?_); intro g2))
  go_returns
  exact ⟨rfl, ((Ext.refl w).alloc _).trans g2.grown⟩
theorem tickB_zero : tickB 0 = true := by decide
set_option maxHeartbeats 8000000 in
set_option maxRecDepth 100000 in
theorem refCheck_c (k i f t : Int) (l : List Vl) (v : Value) (w : World) (hl : Rw w [] v l) : Calls Tryz.prog 46 #[mg k i f t v] w fun e w' => e = .returned (.int .i64 (mchk k i f t l)) ∧ Ext w w' := by
  have hm := hide (fun w' (hX : Ext w w') => refRowMay_c l v w' (Sl.ext hl hX))
  obtain ⟨A, cap, rfl, hlc, hlm, -⟩ := rw_form hl
  unfold maxLen at hlm
  have hX0 := hide ((Ext.refl w).alloc (mO k i f t (.slice A l.length cap)))
  have hf := hide (fun w => refTick_c f w)
  have ht := hide (fun w => refTick_c t w)
  obtain ⟨R, hR⟩ : ∃ R, R = mchk k i f t l := ⟨_, rfl⟩
  rw [← hR]
  unfold mchk at hR
  clear hl
  by_cases h1 : k = 1
  · subst h1
    rw [if_pos rfl] at hR
    cases hi : idB i
    · rw [hi, Bool.and_false] at hR
      have e : R = 2 := by rw [hR]; rfl
      subst e
      rcases id_no hi with h2 | ⟨h2, h3⟩
      · clear hi hR
        go_enter Tryz.func46, Tryz.ntmps46
        go_wp2_with fail
        go_returns
        exact ⟨rfl, hX0.out⟩
      · clear hi hR
        go_enter Tryz.func46, Tryz.ntmps46
        go_wp2_with fail
        go_returns
        exact ⟨rfl, hX0.out⟩
    · obtain ⟨h2, h3⟩ := id_yes hi
      rw [hi, Bool.and_true] at hR
      cases ha : mayR l
      · rw [ha] at hm hR
        have e : R = 2 := by rw [hR]; rfl
        subst e
        clear hR hi ha
        go_enter Tryz.func46, Tryz.ntmps46
        go_wp2_with (go_at_call 96; (with_reducible refine seq_gw (hm.out _ hX0.out) ?_); intro g)
        go_returns
        exact ⟨rfl, hX0.out.trans g.grown⟩
      · rw [ha] at hm hR
        replace hR : R = tickE 1 f t := hR
        unfold tickE at hR
        cases hb : tickB f
        · rw [hb] at hf hR
          have e : R = 13 := by rw [hR]; rfl
          subst e
          clear hR hi ha hb ht
          go_enter Tryz.func46, Tryz.ntmps46
          go_wp2_with (first | (go_at_call 96; (with_reducible refine seq_gw (hm.out _ hX0.out) ?_); intro g) | (go_at_call 97; (with_reducible refine seq_gw' (hf.out _) ?_); intro g2))
          go_returns
          exact ⟨rfl, hX0.out.trans g2.grown⟩
        · cases hc : tickB t
          · rw [hb] at hf
            rw [hc] at ht
            rw [hb, hc] at hR
            have e : R = 13 := by rw [hR]; rfl
            subst e
            clear hR hi ha hb hc
            go_enter Tryz.func46, Tryz.ntmps46
            go_wp2_with (first | (go_at_call 96; (with_reducible refine seq_gw (hm.out _ hX0.out) ?_); intro g) | (go_at_call 97; (with_reducible refine seq_gw' (hf.out _) ?_); intro g2) | (go_at_call 97; (with_reducible refine seq_gw' (ht.out _) ?_); intro g3))
            go_returns
            exact ⟨rfl, hX0.out.trans g3.grown⟩
          · have hs := hide (fun w => refSpan_c f t hb hc w)
            rw [hb] at hf
            rw [hc] at ht
            rw [hb, hc] at hR
            replace hR : R = if (1 : Int) = 1 ∧ t ≤ f then 14 else 0 := hR
            by_cases hlt : f < t
            · rw [decide_eq_true hlt] at hs
              have e : R = 0 := by rw [hR, if_neg (fun h => by omega)]
              subst e
              clear hR hi ha hb hc hlt
              go_enter Tryz.func46, Tryz.ntmps46
              go_wp2_with (first | (go_at_call 96; (with_reducible refine seq_gw (hm.out _ hX0.out) ?_); intro g) | (go_at_call 97; (with_reducible refine seq_gw' (hf.out _) ?_); intro g2) | (go_at_call 97; (with_reducible refine seq_gw' (ht.out _) ?_); intro g3) | (go_at_call 98; (with_reducible refine seq_gw' (hs.out _) ?_); intro g4))
              go_returns
              exact ⟨rfl, hX0.out.trans g4.grown⟩
            · rw [decide_eq_false hlt] at hs
              have e : R = 14 := by rw [hR, if_pos ⟨rfl, by omega⟩]
              subst e
              clear hR hi ha hb hc hlt
              go_enter Tryz.func46, Tryz.ntmps46
              go_wp2_with (first | (go_at_call 96; (with_reducible refine seq_gw (hm.out _ hX0.out) ?_); intro g) | (go_at_call 97; (with_reducible refine seq_gw' (hf.out _) ?_); intro g2) | (go_at_call 97; (with_reducible refine seq_gw' (ht.out _) ?_); intro g3) | (go_at_call 98; (with_reducible refine seq_gw' (hs.out _) ?_); intro g4))
              go_returns
              exact ⟨rfl, hX0.out.trans g4.grown⟩
  · rw [if_neg h1] at hR
    by_cases h2 : k = 2
    · subst h2
      rw [if_pos rfl] at hR
      cases hi : idB i
      · rw [hi] at hR
        have e : R = 2 := by rw [hR]; rfl
        subst e
        clear hR h1
        rcases id_no hi with h2 | ⟨h2, h3⟩
        · clear hi
          go_enter Tryz.func46, Tryz.ntmps46
          go_wp2_with fail
          go_returns
          exact ⟨rfl, hX0.out⟩
        · clear hi
          go_enter Tryz.func46, Tryz.ntmps46
          go_wp2_with fail
          go_returns
          exact ⟨rfl, hX0.out⟩
      · obtain ⟨h2, h3⟩ := id_yes hi
        rw [hi] at hR
        by_cases hf0 : f = 0
        · subst hf0
          by_cases h0 : l.length = 0
          · have hle : l = [] := List.eq_nil_of_length_eq_zero h0
            subst hle
            have e : R = tickE 2 0 t := by rw [hR]; rfl
            rw [show mayR [] = true by rfl] at hm
            rw [tickB_zero] at hf
            unfold tickE at e
            rw [tickB_zero] at e
            clear hR h0 h1 hi
            cases hc : tickB t
            · rw [hc] at ht e
              replace e : R = 13 := e
              subst e
              clear hc
              go_enter Tryz.func46, Tryz.ntmps46
              go_wp2_with (first | (go_at_call 96; (with_reducible refine seq_gw (hm.out _ hX0.out) ?_); intro g) | (go_at_call 97; (with_reducible refine seq_gw' (hf.out _) ?_); intro g2) | (go_at_call 97; (with_reducible refine seq_gw' (ht.out _) ?_); intro g3))
              go_returns
              exact ⟨rfl, hX0.out.trans g3.grown⟩
            · rw [hc] at ht e
              replace e : R = 0 := by rw [e]; simp
              subst e
              clear hc
              go_enter Tryz.func46, Tryz.ntmps46
              go_wp2_with (first | (go_at_call 96; (with_reducible refine seq_gw (hm.out _ hX0.out) ?_); intro g) | (go_at_call 97; (with_reducible refine seq_gw' (hf.out _) ?_); intro g2) | (go_at_call 97; (with_reducible refine seq_gw' (ht.out _) ?_); intro g3))
              go_returns
              exact ⟨rfl, hX0.out.trans g3.grown⟩
          · have hpos : 0 < l.length := by omega
            have e : R = 2 := by
              rw [hR, if_neg]
              simp only [Bool.and_eq_true, Bool.not_eq_true', not_and, Bool.not_eq_false]
              intro _; unfold moreB; rw [if_pos rfl, decide_eq_true_iff]; exact .inr hpos
            subst e
            clear hR h0 h1 hi
            go_enter Tryz.func46, Tryz.ntmps46
            go_wp2_with fail
            go_returns
            exact ⟨rfl, hX0.out⟩
        · have e : R = 2 := by
            rw [hR, if_neg]
            simp only [Bool.and_eq_true, Bool.not_eq_true', not_and, Bool.not_eq_false]
            intro _; unfold moreB; rw [if_pos rfl, decide_eq_true_iff]; exact .inl hf0
          have e1 : (f != 0) = true := by simp [hf0]
          subst e
          clear hR h1 hi hf0
          go_enter Tryz.func46, Tryz.ntmps46
          go_wp2_with fail
          go_returns
          exact ⟨rfl, hX0.out⟩
    · rw [if_neg h2] at hR
      by_cases h3 : k = 3
      · subst h3
        rw [if_pos rfl] at hR
        by_cases hi0 : i = 0
        · subst hi0
          by_cases ht0 : t = 0
          · subst ht0
            by_cases h0 : l.length = 0
            · have hle : l = [] := List.eq_nil_of_length_eq_zero h0
              subst hle
              have e : R = tickE 3 f 0 := by rw [hR]; rfl
              rw [show mayR [] = true by rfl] at hm
              rw [tickB_zero] at ht
              unfold tickE at e
              rw [tickB_zero, Bool.and_true] at e
              clear hR h0 h1 h2
              cases hc : tickB f
              · rw [hc] at hf e
                replace e : R = 13 := e
                subst e
                clear hc
                go_enter Tryz.func46, Tryz.ntmps46
                go_wp2_with (first | (go_at_call 96; (with_reducible refine seq_gw (hm.out _ hX0.out) ?_); intro g) | (go_at_call 97; (with_reducible refine seq_gw' (hf.out _) ?_); intro g2))
                go_returns
                exact ⟨rfl, hX0.out.trans g2.grown⟩
              · rw [hc] at hf e
                replace e : R = 0 := by rw [e]; simp
                subst e
                clear hc
                go_enter Tryz.func46, Tryz.ntmps46
                go_wp2_with (first | (go_at_call 96; (with_reducible refine seq_gw (hm.out _ hX0.out) ?_); intro g) | (go_at_call 97; (with_reducible refine seq_gw' (hf.out _) ?_); intro g2) | (go_at_call 97; (with_reducible refine seq_gw' (ht.out _) ?_); intro g3))
                go_returns
                exact ⟨rfl, hX0.out.trans g3.grown⟩
            · have hpos : 0 < l.length := by omega
              have e : R = 2 := by
                rw [hR, if_pos]; unfold moreB; rw [if_neg (by decide), if_pos rfl, decide_eq_true_iff]; exact .inr (.inr hpos)
              subst e
              clear hR h0 h1 h2
              go_enter Tryz.func46, Tryz.ntmps46
              go_wp2_with fail
              go_returns
              exact ⟨rfl, hX0.out⟩
          · have e : R = 2 := by
              rw [hR, if_pos]; unfold moreB; rw [if_neg (by decide), if_pos rfl, decide_eq_true_iff]; exact .inr (.inl ht0)
            have e1 : (t != 0) = true := by simp [ht0]
            subst e
            clear hR h1 h2 ht0
            go_enter Tryz.func46, Tryz.ntmps46
            go_wp2_with fail
            go_returns
            exact ⟨rfl, hX0.out⟩
        · have e : R = 2 := by
            rw [hR, if_pos]; unfold moreB; rw [if_neg (by decide), if_pos rfl, decide_eq_true_iff]; exact .inl hi0
          have e1 : (i != 0) = true := by simp [hi0]
          subst e
          clear hR h1 h2 hi0
          go_enter Tryz.func46, Tryz.ntmps46
          go_wp2_with fail
          go_returns
          exact ⟨rfl, hX0.out⟩
      · rw [if_neg h3] at hR
        subst hR
        by_cases hlo : k < 1
        · clear h1 h2 h3
          go_enter Tryz.func46, Tryz.ntmps46
          go_wp2_with fail
          go_returns
          exact ⟨rfl, hX0.out⟩
        · have hhi : 3 < k := by omega
          have hlo' : 1 ≤ k := by omega
          clear h1 h2 h3 hlo
          go_enter Tryz.func46, Tryz.ntmps46
          go_wp2_with fail
          go_returns
          exact ⟨rfl, hX0.out⟩
/-- The first tick of which it changes something. -/
def msync (k i f t : Int) (l : List Vl) : Int := if mchk k i f t l = 0 then (if k = 2 then t else f) else 0
set_option maxHeartbeats 4000000 in
set_option maxRecDepth 100000 in
theorem sync_c (k i f t : Int) (l : List Vl) (v : Value) (w : World) (hl : Rw w [] v l) : Calls Tryz.prog 200 #[mg k i f t v] w fun e w' => e = .returned (.int .i64 (msync k i f t l)) ∧ Ext w w' := by
  have hc := hide (fun w' (hX : Ext w w') => check_c k i f t l v w' (Sl.ext hl hX))
  obtain ⟨A, cap, rfl, hlc, hlm, -⟩ := rw_form hl
  have hX0 := hide ((Ext.refl w).alloc (mO k i f t (.slice A l.length cap)))
  unfold msync
  generalize mchk k i f t l = x at *
  clear hl
  by_cases hx : x = 0
  · subst hx
    rw [if_pos rfl]
    by_cases h2 : k = 2
    · subst h2
      rw [if_pos rfl]
      go_enter Tryz.func200, Tryz.ntmps200
      go_wp2_with (go_at_call 87; (with_reducible refine seq_gw (hc.out _ hX0.out) ?_); intro g)
      go_returns
      exact ⟨rfl, hX0.out.trans g.grown⟩
    · rw [if_neg h2]
      have e2 : (k == 2) = false := by simp [h2]
      clear h2
      go_enter Tryz.func200, Tryz.ntmps200
      go_wp2_with (go_at_call 87; (with_reducible refine seq_gw (hc.out _ hX0.out) ?_); intro g)
      go_returns
      exact ⟨rfl, hX0.out.trans g.grown⟩
  · rw [if_neg hx]
    have e0 : (x != 0) = true := by simp [hx]
    clear hx
    go_enter Tryz.func200, Tryz.ntmps200
    go_wp2_with (go_at_call 87; (with_reducible refine seq_gw (hc.out _ hX0.out) ?_); intro g)
    go_returns
    exact ⟨rfl, hX0.out.trans g.grown⟩
theorem mark_c (t : Int) (w : World) : Calls Tryz.prog 85 #[.int .i64 t] w fun e w' => e = .returned (mg 3 0 t 0 (.slice none 0 0)) ∧ Ext w w' := by
  go_enter Tryz.func85, Tryz.ntmps85
  go_wp2_with fail
  go_returns
  exact ⟨rfl, (Ext.refl w).alloc _⟩
end Go.Proofs.YtajelkkiijdegaaGreat
set_option linter.unusedVariables false
set_option linter.unusedSimpArgs false
namespace Go.Proofs.YtajelkkiijdegaaGreat
open Go.RowKit
attribute [local go_sem] GW.cell GW.frozen In.eq_true In.le_true In.ne In.ne' In.ne_add In.ne_add' In.lt_add Upto.le_true Upto.le_add Upto.lt_add
/-- Grown out of w: told by the world's make. -/
class Gn (w w' : World) : Prop where
  ext : Ext w w'
instance Gn.refl (w : World) : Gn w w := ⟨Ext.refl w⟩
instance Gn.alloc {w w' : World} (o : Obj) [h : Gn w w'] : Gn w (w'.alloc o) := ⟨h.ext.alloc o⟩
instance Gn.drew {w w' : World} [h : Gn w w'] : Gn w w'.drew := ⟨h.ext.drew⟩
instance Gn.drewN {w w' : World} (n : Nat) [h : Gn w w'] : Gn w (w'.drewN n) := ⟨h.ext.drewN n⟩
instance Gn.gw {w W : World} (g : GW W) [h : Gn w W] : Gn w g.val := ⟨h.ext.trans g.grown⟩
theorem kKey : Go.Maps.Keyed Tryz.prog 3 := Go.Maps.int_keyed Tryz.underlying3
def Kn (w : World) (mb n : Nat) (T : List Ke) : Prop := Mv w Tryz.prog 3 kent mb n T
def Fs (w : World) (s mb n : Nat) (c ser : Int) (T : List Ke) : Prop := Ob w s 212 [.int .i64 c, .int .i64 ser, .map (some mb)] ∧ Kn w mb n T
theorem Fs.ext {w w' : World} {s mb n : Nat} {c ser : Int} {T : List Ke} (h : Fs w s mb n c ser T) (k : Ext w w') : Fs w' s mb n c ser T := ⟨h.1.ext k, h.2.kept (row := none) ⟨k.os, k.tape, k.output, k.size, fun i hi _ => k.block i hi⟩ (by simp)⟩
theorem ext_by0 {w w' : World} (k : Ext w w') : w.grownBy w' none := ⟨k.os, k.tape, k.output, k.size, fun i hi _ => k.block i hi⟩
abbrev zChV : Value := .agg #[.int .i64 0, .slice none 0 0, .int .i64 0, .int .i64 0, .int .i64 0, .int .i64 0]
theorem zeroCh (w : World) : (zeroValue 39).run Tryz.prog w = .ok zChV w := by kernel_rfl
theorem key_of {id : Int} (h : inI id) : keyOf Tryz.prog 3 (.int .i64 id) = some (.int .i64 id) := Go.Maps.keyOf_int_mk Tryz.underlying3 (by unfold inI at h; simp [Lit.wf, IntKind.min, IntKind.max]; first | omega | (simp [IntKind.wrap, IntKind.bits, IntKind.signed]; omega))
def knV (o : Option Ke) : Value := (o.map fun q => chV q.1 q.2.2).getD zChV
theorem look_ok {w : World} {mb n : Nat} {T : List Ke} (h : Kn w mb n T) {id : Int} (hi : inI id) : ∀ w' [Gn w w'], (Instr.lookup 210 (.map (some mb)) (.int .i64 id) true).run Tryz.prog w' = .ok (.tuple #[knV (atK T id), .bool (atK T id).isSome]) w' := fun w' k =>
  (h.kept (ext_by0 k.ext) (by simp)).lookOk kKey Tryz.underlying210 (zeroCh w') (key_of hi)
theorem look_1 {w : World} {mb n : Nat} {T : List Ke} (h : Kn w mb n T) {id : Int} (hi : inI id) : ∀ w' [Gn w w'], (Instr.lookup 210 (.map (some mb)) (.int .i64 id) false).run Tryz.prog w' = .ok (knV (atK T id)) w' := fun w' k =>
  (h.kept (ext_by0 k.ext) (by simp)).lookup kKey Tryz.underlying210 (zeroCh w') (key_of hi)
set_option maxHeartbeats 4000000 in
set_option maxRecDepth 100000 in
theorem free_c (s mb n : Nat) (c ser id : Int) (T : List Ke) (hi : inI id) (w : World) (h : Fs w s mb n c ser T) (hR : ∀ p ∈ T, Rw w [] p.1 p.2.2.2.1) (hms : s ≠ mb) : Calls Tryz.prog 149 #[.pointer (some ⟨s, 0, none⟩), .int .i64 id] w fun e w' => e = .returned (.tuple #[]) ∧ Fs w' s mb n c ser (freeK T c id) ∧ Fr [mb] w w' := by
  have c0 := h.1.cell 0 rfl
  have c2 := h.1.cell 2 rfl
  have hlt := h.1.lt
  haveI : In s w := ⟨hlt⟩
  have hl := look_ok h.2 hi
  unfold freeK
  cases ha : atK T id with
  | none =>
    rw [ha] at hl
    have hf := hide h
    clear h
    replace hl : ∀ w' [Gn w w'], (Instr.lookup 210 (.map (some mb)) (.int .i64 id) true).run Tryz.prog w' = .ok (.tuple #[zChV, .bool false]) w' := hl
    go_enter Tryz.func149, Tryz.ntmps149
    go_wp2_with fail
    refine wp_region_gw (by kernel_rfl) (by kernel_rfl) ?_
    repeat (go_big_quiet_step (fail))
    refine wpQuiet_nil ?_
    intro g
    go_wp2_with fail
    go_end0
    have hX := ((Ext.refl w).alloc (.cells #[.int .i64 0, .slice none 0 0, .int .i64 0, .int .i64 0, .int .i64 0, .int .i64 0] 39)).trans g.grown
    exact ⟨rfl, hf.out.ext hX, Fr.of_ext hX⟩
  | some p =>
    rw [ha] at hl
    obtain ⟨PA, pc, epv⟩ := rw_val (hR p (atK_some ha).1)
    obtain ⟨pv, pid, ps, pr, ⟨po1, po2⟩, pn1, pn2⟩ := p
    simp only at epv
    subst epv
    generalize pr.length = pl at *
    have hf := hide h
    have hO := hide h.1
    have hK := hide h.2
    clear h
    replace hl : ∀ w' [Gn w w'], (Instr.lookup 210 (.map (some mb)) (.int .i64 id) true).run Tryz.prog w' = .ok (.tuple #[.agg #[.int .i64 ps, (.slice PA pl pc), .int .i64 po1, .int .i64 po2, .int .i64 pn1, .int .i64 pn2], .bool true]) w' := hl
    simp only
    by_cases hle : pn2 ≤ c
    · rw [if_pos hle]
      have dl : decide (pn2 ≤ c) = true := decide_eq_true hle
      go_enter Tryz.func149, Tryz.ntmps149
      go_wp2_with fail
      refine wp_region_gw (by kernel_rfl) (by kernel_rfl) ?_
      repeat (go_big_quiet_step (fail))
      refine wpQuiet_nil ?_
      intro g
      have hX := ((Ext.refl w).alloc (.cells #[.int .i64 ps, (.slice PA pl pc), .int .i64 po1, .int .i64 po2, .int .i64 pn1, .int .i64 pn2] 39)).trans g.grown
      have hK2 := hide (hK.out.kept (ext_by0 hX) (by simp))
      have hO2 := hide (hO.out.ext hX)
      have hXh := hide hX
      clear hX
      go_wp2_with (at_delete; refine wpl_mdel rfl (.tmp 29) (.tmp 30) rfl rfl rfl kKey Tryz.underlying210 hK2.out (key_of hi) ?_; intro w5 hM5 hg5)
      first | go_frame | skip
      go_end0
      exact ⟨rfl, ⟨hO2.out.grown hg5 (by simpa using hms), hM5⟩, (Fr.of_ext hXh.out).grown hg5 (fun z hz => by obtain rfl := Option.some.inj hz; exact .inl (by simp))⟩
    · rw [if_neg hle]
      have dl : decide (pn2 ≤ c) = false := decide_eq_false hle
      go_enter Tryz.func149, Tryz.ntmps149
      go_wp2_with fail
      refine wp_region_gw (by kernel_rfl) (by kernel_rfl) ?_
      repeat (go_big_quiet_step (fail))
      refine wpQuiet_nil ?_
      intro g
      go_wp2_with fail
      go_end0
      have hX := ((Ext.refl w).alloc (.cells #[.int .i64 ps, (.slice PA pl pc), .int .i64 po1, .int .i64 po2, .int .i64 pn1, .int .i64 pn2] 39)).trans g.grown
      exact ⟨rfl, hf.out.ext hX, Fr.of_ext hX⟩
end Go.Proofs.YtajelkkiijdegaaGreat
