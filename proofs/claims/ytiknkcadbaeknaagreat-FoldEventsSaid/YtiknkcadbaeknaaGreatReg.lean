/-
  A helper of ours: no claim of its own. A region that draws its order and whose operations make memory: if each operation, in whatever grown world, leaves a value of which a fact holds that further growth does not end, then behind the region all the facts hold, whatever the order was.
-/
import Derived.Test.YtiknkcadbaeknaaGreatMapV
import Derived.Test.YtiknkcadbaeknaaGreatRowD
import Derived.Test.YtiknkcadbaeknaaGreatRowE
import Derived.Test.YtiknkcadbaeknaaGreatMem
import Derived.Orders
set_option linter.unusedVariables false
set_option linter.unusedSimpArgs false
namespace Go.Proofs.YtiknkcadbaeknaaGreat
open Go.RowKit
attribute [local go_sem] GW.cell GW.frozen In.eq_true In.le_true In.ne In.ne' In.ne_add In.ne_add' In.lt_add Upto.le_true Upto.le_add Upto.lt_add
set_option maxHeartbeats 1000000 in
theorem refSpan_c (f t : Int) (h1 : tickB f = true) (h2 : tickB t = true) (w : World) : Calls Tryz.prog 123 #[.agg #[.int .i64 f, .int .i64 t]] w fun e w' => e = .returned (.bool (decide (f < t))) ∧ Ext w w' := by
  have hf := hide (fun w => refTick_c f w)
  have ht := hide (fun w => refTick_c t w)
  rw [h1] at hf
  rw [h2] at ht
  clear h1 h2
  go_enter Tryz.func123, Tryz.ntmps123
  go_wp2_with (first | (go_at_call 122; (with_reducible refine seq_gw (hf.out _) ?_); intro g) | (go_at_call 122; (with_reducible refine seq_gw' (ht.out _) ?_); intro g2))
  go_returns
  exact ⟨rfl, ((Ext.refl w).alloc _).trans g2.grown⟩
theorem tickB_zero : tickB 0 = true := by decide
set_option maxHeartbeats 8000000 in
set_option maxRecDepth 100000 in
theorem refCheck_c (k i f t : Int) (l : List Vl) (v : Value) (w : World) (hl : Rw w [] v l) : Calls Tryz.prog 70 #[mg k i f t v] w fun e w' => e = .returned (.int .i64 (mchk k i f t l)) ∧ Ext w w' := by
  have hm := hide (fun w' (hX : Ext w w') => refRowMay_c l v w' (Sl.ext hl hX))
  obtain ⟨A, cap, rfl, hlc, hlm, -⟩ := rw_form hl
  unfold maxLen at hlm
  have hX0 := hide ((Ext.refl w).alloc (mO k i f t (.slice A l.length cap)))
  have hf := hide (fun w => refTick_c f w)
  have ht := hide (fun w => refTick_c t w)
  obtain ⟨R, hR⟩ : ∃ R, R = mchk k i f t l := ⟨_, rfl⟩
  rw [← hR]
  unfold mchk at hR
  clear hl
  by_cases h1 : k = 1
  · subst h1
    rw [if_pos rfl] at hR
    cases hi : idB i
    · rw [hi, Bool.and_false] at hR
      have e : R = 2 := by rw [hR]; rfl
      subst e
      rcases id_no hi with h2 | ⟨h2, h3⟩
      · clear hi hR
        go_enter Tryz.func70, Tryz.ntmps70
        go_wp2_with fail
        go_returns
        exact ⟨rfl, hX0.out⟩
      · clear hi hR
        go_enter Tryz.func70, Tryz.ntmps70
        go_wp2_with fail
        go_returns
        exact ⟨rfl, hX0.out⟩
    · obtain ⟨h2, h3⟩ := id_yes hi
      rw [hi, Bool.and_true] at hR
      cases ha : mayR l
      · rw [ha] at hm hR
        have e : R = 2 := by rw [hR]; rfl
        subst e
        clear hR hi ha
        go_enter Tryz.func70, Tryz.ntmps70
        go_wp2_with (go_at_call 121; (with_reducible refine seq_gw (hm.out _ hX0.out) ?_); intro g)
        go_returns
        exact ⟨rfl, hX0.out.trans g.grown⟩
      · rw [ha] at hm hR
        replace hR : R = tickE 1 f t := hR
        unfold tickE at hR
        cases hb : tickB f
        · rw [hb] at hf hR
          have e : R = 13 := by rw [hR]; rfl
          subst e
          clear hR hi ha hb ht
          go_enter Tryz.func70, Tryz.ntmps70
          go_wp2_with (first | (go_at_call 121; (with_reducible refine seq_gw (hm.out _ hX0.out) ?_); intro g) | (go_at_call 122; (with_reducible refine seq_gw' (hf.out _) ?_); intro g2))
          go_returns
          exact ⟨rfl, hX0.out.trans g2.grown⟩
        · cases hc : tickB t
          · rw [hb] at hf
            rw [hc] at ht
            rw [hb, hc] at hR
            have e : R = 13 := by rw [hR]; rfl
            subst e
            clear hR hi ha hb hc
            go_enter Tryz.func70, Tryz.ntmps70
            go_wp2_with (first | (go_at_call 121; (with_reducible refine seq_gw (hm.out _ hX0.out) ?_); intro g) | (go_at_call 122; (with_reducible refine seq_gw' (hf.out _) ?_); intro g2) | (go_at_call 122; (with_reducible refine seq_gw' (ht.out _) ?_); intro g3))
            go_returns
            exact ⟨rfl, hX0.out.trans g3.grown⟩
          · have hs := hide (fun w => refSpan_c f t hb hc w)
            rw [hb] at hf
            rw [hc] at ht
            rw [hb, hc] at hR
            replace hR : R = if (1 : Int) = 1 ∧ t ≤ f then 14 else 0 := hR
            by_cases hlt : f < t
            · rw [decide_eq_true hlt] at hs
              have e : R = 0 := by rw [hR, if_neg (fun h => by omega)]
              subst e
              clear hR hi ha hb hc hlt
              go_enter Tryz.func70, Tryz.ntmps70
              go_wp2_with (first | (go_at_call 121; (with_reducible refine seq_gw (hm.out _ hX0.out) ?_); intro g) | (go_at_call 122; (with_reducible refine seq_gw' (hf.out _) ?_); intro g2) | (go_at_call 122; (with_reducible refine seq_gw' (ht.out _) ?_); intro g3) | (go_at_call 123; (with_reducible refine seq_gw' (hs.out _) ?_); intro g4))
              go_returns
              exact ⟨rfl, hX0.out.trans g4.grown⟩
            · rw [decide_eq_false hlt] at hs
              have e : R = 14 := by rw [hR, if_pos ⟨rfl, by omega⟩]
              subst e
              clear hR hi ha hb hc hlt
              go_enter Tryz.func70, Tryz.ntmps70
              go_wp2_with (first | (go_at_call 121; (with_reducible refine seq_gw (hm.out _ hX0.out) ?_); intro g) | (go_at_call 122; (with_reducible refine seq_gw' (hf.out _) ?_); intro g2) | (go_at_call 122; (with_reducible refine seq_gw' (ht.out _) ?_); intro g3) | (go_at_call 123; (with_reducible refine seq_gw' (hs.out _) ?_); intro g4))
              go_returns
              exact ⟨rfl, hX0.out.trans g4.grown⟩
  · rw [if_neg h1] at hR
    by_cases h2 : k = 2
    · subst h2
      rw [if_pos rfl] at hR
      cases hi : idB i
      · rw [hi] at hR
        have e : R = 2 := by rw [hR]; rfl
        subst e
        clear hR h1
        rcases id_no hi with h2 | ⟨h2, h3⟩
        · clear hi
          go_enter Tryz.func70, Tryz.ntmps70
          go_wp2_with fail
          go_returns
          exact ⟨rfl, hX0.out⟩
        · clear hi
          go_enter Tryz.func70, Tryz.ntmps70
          go_wp2_with fail
          go_returns
          exact ⟨rfl, hX0.out⟩
      · obtain ⟨h2, h3⟩ := id_yes hi
        rw [hi] at hR
        by_cases hf0 : f = 0
        · subst hf0
          by_cases h0 : l.length = 0
          · have hle : l = [] := List.eq_nil_of_length_eq_zero h0
            subst hle
            have e : R = tickE 2 0 t := by rw [hR]; rfl
            rw [show mayR [] = true by rfl] at hm
            rw [tickB_zero] at hf
            unfold tickE at e
            rw [tickB_zero] at e
            clear hR h0 h1 hi
            cases hc : tickB t
            · rw [hc] at ht e
              replace e : R = 13 := e
              subst e
              clear hc
              go_enter Tryz.func70, Tryz.ntmps70
              go_wp2_with (first | (go_at_call 121; (with_reducible refine seq_gw (hm.out _ hX0.out) ?_); intro g) | (go_at_call 122; (with_reducible refine seq_gw' (hf.out _) ?_); intro g2) | (go_at_call 122; (with_reducible refine seq_gw' (ht.out _) ?_); intro g3))
              go_returns
              exact ⟨rfl, hX0.out.trans g3.grown⟩
            · rw [hc] at ht e
              replace e : R = 0 := by rw [e]; simp
              subst e
              clear hc
              go_enter Tryz.func70, Tryz.ntmps70
              go_wp2_with (first | (go_at_call 121; (with_reducible refine seq_gw (hm.out _ hX0.out) ?_); intro g) | (go_at_call 122; (with_reducible refine seq_gw' (hf.out _) ?_); intro g2) | (go_at_call 122; (with_reducible refine seq_gw' (ht.out _) ?_); intro g3))
              go_returns
              exact ⟨rfl, hX0.out.trans g3.grown⟩
          · have hpos : 0 < l.length := by omega
            have e : R = 2 := by
              rw [hR, if_neg]
              simp only [Bool.and_eq_true, Bool.not_eq_true', not_and, Bool.not_eq_false]
              intro _; unfold moreB; rw [if_pos rfl, decide_eq_true_iff]; exact .inr hpos
            subst e
            clear hR h0 h1 hi
            go_enter Tryz.func70, Tryz.ntmps70
            go_wp2_with fail
            go_returns
            exact ⟨rfl, hX0.out⟩
        · have e : R = 2 := by
            rw [hR, if_neg]
            simp only [Bool.and_eq_true, Bool.not_eq_true', not_and, Bool.not_eq_false]
            intro _; unfold moreB; rw [if_pos rfl, decide_eq_true_iff]; exact .inl hf0
          have e1 : (f != 0) = true := by simp [hf0]
          subst e
          clear hR h1 hi hf0
          go_enter Tryz.func70, Tryz.ntmps70
          go_wp2_with fail
          go_returns
          exact ⟨rfl, hX0.out⟩
    · rw [if_neg h2] at hR
      by_cases h3 : k = 3
      · subst h3
        rw [if_pos rfl] at hR
        by_cases hi0 : i = 0
        · subst hi0
          by_cases ht0 : t = 0
          · subst ht0
            by_cases h0 : l.length = 0
            · have hle : l = [] := List.eq_nil_of_length_eq_zero h0
              subst hle
              have e : R = tickE 3 f 0 := by rw [hR]; rfl
              rw [show mayR [] = true by rfl] at hm
              rw [tickB_zero] at ht
              unfold tickE at e
              rw [tickB_zero, Bool.and_true] at e
              clear hR h0 h1 h2
              cases hc : tickB f
              · rw [hc] at hf e
                replace e : R = 13 := e
                subst e
                clear hc
                go_enter Tryz.func70, Tryz.ntmps70
                go_wp2_with (first | (go_at_call 121; (with_reducible refine seq_gw (hm.out _ hX0.out) ?_); intro g) | (go_at_call 122; (with_reducible refine seq_gw' (hf.out _) ?_); intro g2))
                go_returns
                exact ⟨rfl, hX0.out.trans g2.grown⟩
              · rw [hc] at hf e
                replace e : R = 0 := by rw [e]; simp
                subst e
                clear hc
                go_enter Tryz.func70, Tryz.ntmps70
                go_wp2_with (first | (go_at_call 121; (with_reducible refine seq_gw (hm.out _ hX0.out) ?_); intro g) | (go_at_call 122; (with_reducible refine seq_gw' (hf.out _) ?_); intro g2) | (go_at_call 122; (with_reducible refine seq_gw' (ht.out _) ?_); intro g3))
                go_returns
                exact ⟨rfl, hX0.out.trans g3.grown⟩
            · have hpos : 0 < l.length := by omega
              have e : R = 2 := by
                rw [hR, if_pos]; unfold moreB; rw [if_neg (by decide), if_pos rfl, decide_eq_true_iff]; exact .inr (.inr hpos)
              subst e
              clear hR h0 h1 h2
              go_enter Tryz.func70, Tryz.ntmps70
              go_wp2_with fail
              go_returns
              exact ⟨rfl, hX0.out⟩
          · have e : R = 2 := by
              rw [hR, if_pos]; unfold moreB; rw [if_neg (by decide), if_pos rfl, decide_eq_true_iff]; exact .inr (.inl ht0)
            have e1 : (t != 0) = true := by simp [ht0]
            subst e
            clear hR h1 h2 ht0
            go_enter Tryz.func70, Tryz.ntmps70
            go_wp2_with fail
            go_returns
            exact ⟨rfl, hX0.out⟩
        · have e : R = 2 := by
            rw [hR, if_pos]; unfold moreB; rw [if_neg (by decide), if_pos rfl, decide_eq_true_iff]; exact .inl hi0
          have e1 : (i != 0) = true := by simp [hi0]
          subst e
          clear hR h1 h2 hi0
          go_enter Tryz.func70, Tryz.ntmps70
          go_wp2_with fail
          go_returns
          exact ⟨rfl, hX0.out⟩
      · rw [if_neg h3] at hR
        subst hR
        by_cases hlo : k < 1
        · clear h1 h2 h3
          go_enter Tryz.func70, Tryz.ntmps70
          go_wp2_with fail
          go_returns
          exact ⟨rfl, hX0.out⟩
        · have hhi : 3 < k := by omega
          have hlo' : 1 ≤ k := by omega
          clear h1 h2 h3 hlo
          go_enter Tryz.func70, Tryz.ntmps70
          go_wp2_with fail
          go_returns
          exact ⟨rfl, hX0.out⟩
/-- The first tick of which it changes something. -/
def msync (k i f t : Int) (l : List Vl) : Int := if mchk k i f t l = 0 then (if k = 2 then t else f) else 0
set_option maxHeartbeats 4000000 in
set_option maxRecDepth 100000 in
theorem sync_c (k i f t : Int) (l : List Vl) (v : Value) (w : World) (hl : Rw w [] v l) : Calls Tryz.prog 157 #[mg k i f t v] w fun e w' => e = .returned (.int .i64 (msync k i f t l)) ∧ Ext w w' := by
  have hc := hide (fun w' (hX : Ext w w') => check_c k i f t l v w' (Sl.ext hl hX))
  obtain ⟨A, cap, rfl, hlc, hlm, -⟩ := rw_form hl
  have hX0 := hide ((Ext.refl w).alloc (mO k i f t (.slice A l.length cap)))
  unfold msync
  generalize mchk k i f t l = x at *
  clear hl
  by_cases hx : x = 0
  · subst hx
    rw [if_pos rfl]
    by_cases h2 : k = 2
    · subst h2
      rw [if_pos rfl]
      go_enter Tryz.func157, Tryz.ntmps157
      go_wp2_with (go_at_call 116; (with_reducible refine seq_gw (hc.out _ hX0.out) ?_); intro g)
      go_returns
      exact ⟨rfl, hX0.out.trans g.grown⟩
    · rw [if_neg h2]
      have e2 : (k == 2) = false := by simp [h2]
      clear h2
      go_enter Tryz.func157, Tryz.ntmps157
      go_wp2_with (go_at_call 116; (with_reducible refine seq_gw (hc.out _ hX0.out) ?_); intro g)
      go_returns
      exact ⟨rfl, hX0.out.trans g.grown⟩
  · rw [if_neg hx]
    have e0 : (x != 0) = true := by simp [hx]
    clear hx
    go_enter Tryz.func157, Tryz.ntmps157
    go_wp2_with (go_at_call 116; (with_reducible refine seq_gw (hc.out _ hX0.out) ?_); intro g)
    go_returns
    exact ⟨rfl, hX0.out.trans g.grown⟩
def msame (k i f t : Int) (l : List Vl) (k' i' f' t' : Int) (m : List Vl) : Bool := decide (k = k' ∧ i = i' ∧ f = f' ∧ t = t' ∧ l = m)
end Go.Proofs.YtiknkcadbaeknaaGreat
set_option linter.unusedVariables false
set_option linter.unusedSimpArgs false
namespace Go.Proofs.YtiknkcadbaeknaaGreat
open Go.RowKit

/-- Each operation waits for earlier ones alone. -/
def acycB (ops : Array Oper) : Bool := (List.range ops.size).all fun i => match ops[i]? with
  | some o => o.after.all fun e => !Region.binds .any e || decide (e.on < i)
  | none => true
def dstsOf (ops : Array Oper) : List Tmp := ops.toList.filterMap (·.dst)
/-- No two operations write one slot, and all slots are there. -/
def dstsB (ops : Array Oper) (n : Nat) : Bool := (dstsOf ops).all (fun d => decide (d < n)) && (List.range ops.size).all fun i => (List.range ops.size).all fun j =>
  i == j || match ops[i]?, ops[j]? with
    | some o, some p => (match o.dst, p.dst with | some d, some c => d != c | _, _ => true)
    | _, _ => true
def depB (ops : Array Oper) (i j : Nat) : Bool := match ops[i]? with
  | some o => o.after.any fun e => Region.binds .any e && e.on == j
  | none => false

def cntF : List Bool → Nat
  | [] => 0
  | b :: r => (if b then 0 else 1) + cntF r
theorem cntF_set : ∀ (l : List Bool) (i : Nat), l[i]? = some false → cntF (l.set i true) + 1 = cntF l
  | b :: r, 0, h => by simp at h; subst h; simp [cntF]; omega
  | b :: r, i + 1, h => by have := cntF_set r i (by simpa using h); simp only [List.set_cons_succ, cntF]; omega
theorem cntF_rep (n : Nat) : cntF (List.replicate n false) = n := by induction n with
  | zero => rfl
  | succ n ih => simp [List.replicate_succ, cntF, ih]; omega

theorem getD_some {l : Array Bool} {i : Nat} {d : Bool} (h : i < l.size) : l[i]? = some (l.getD i d) := by
  simp [Array.getD, h]

section
variable {P : Program} {ops : Array Oper} {Φ : Nat → Value → World → Prop} {Q : Exit → Act → World → Prop} {a : Act} {W : World}

/-- What holds of the frame b and the world w behind the listed operations. -/
structure RInv (ops : Array Oper) (Φ : Nat → Value → World → Prop) (a : Act) (W : World) (listed : Array Bool) (b : Act) (w : World) : Prop where
  ext : Ext W w
  defers : b.defers = a.defers
  size : b.tmps.size = a.tmps.size
  len : listed.size = ops.size
  else_ : ∀ t, t ∉ dstsOf ops → b.tmps.getD t undef = a.tmps.getD t undef
  fact : ∀ j o d, ops[j]? = some o → listed.getD j false = true → o.dst = some d → Φ j (b.tmps.getD d undef) w

/-- What an operation finds. -/
structure RAt (ops : Array Oper) (Φ : Nat → Value → World → Prop) (a : Act) (W : World) (i : Nat) (b : Act) (w : World) : Prop where
  ext : Ext W w
  defers : b.defers = a.defers
  size : b.tmps.size = a.tmps.size
  else_ : ∀ t, t ∉ dstsOf ops → b.tmps.getD t undef = a.tmps.getD t undef
  dep : ∀ j o d, depB ops i j = true → ops[j]? = some o → o.dst = some d → Φ j (b.tmps.getD d undef) w

/-- What an operation must do. -/
def RGood (P : Program) (ops : Array Oper) (Φ : Nat → Value → World → Prop) (Q : Exit → Act → World → Prop) (i : Nat) (o : Oper) (b : Act) (w : World) : Prop :=
  (Region.wanted o (yielded ops b.tmps) = true ∧ o.wp P b w (fun b' w' => ∃ v, b' = b.put o.dst v ∧ Φ i v w' ∧ Ext w w') Q) ∨ (Region.wanted o (yielded ops b.tmps) = false ∧ Φ i undef w)

theorem all_listed (hB : acycB ops = true) {listed : Array Bool} (hl : listed.size = ops.size) (hr : Region.ready .any ops listed = []) : ∀ j, j < ops.size → listed.getD j false = true := by
  intro j
  induction j using Nat.strongRecOn with
  | ind j ih =>
    intro hj
    cases h : listed.getD j false with
    | true => rfl
    | false =>
      exfalso
      have hjl : j < listed.size := by omega
      have ho : ops[j]? = some ops[j] := Array.getElem?_eq_getElem hj
      have hacy := List.all_eq_true.1 hB j (List.mem_range.2 hj)
      rw [ho] at hacy
      have : j ∈ Region.ready .any ops listed := mem_ready.2 ⟨by
        have e1 := getD_some (l := listed) (d := false) hjl
        have e2 := getD_some (l := listed) (d := true) hjl
        rw [e1] at e2; rw [← Option.some.inj e2]; exact h, _, ho, fun e he hb => by
        have h2 := Array.all_eq_true_iff_forall_mem.1 hacy e he
        simp [hb] at h2
        exact ih e.on h2 (by omega)⟩
      rw [hr] at this; cases this

theorem put_other {b : Act} {dst : Option Tmp} {v : Value} {t : Nat} (h : dst ≠ some t) : (b.put dst v).tmps.getD t undef = b.tmps.getD t undef := by
  cases dst with
  | none => rfl
  | some d =>
    have : d ≠ t := fun e => h (by rw [e])
    simp [Act.put, Array.getD_eq_getD_getElem?, Array.getElem?_setIfInBounds, this]
theorem put_same {b : Act} {d : Nat} {v : Value} (h : d < b.tmps.size) : (b.put (some d) v).tmps.getD d undef = v := by
  simp [Act.put, Array.getD_eq_getD_getElem?, Array.getElem?_setIfInBounds, h]
theorem put_defers {b : Act} {dst : Option Tmp} {v : Value} : (b.put dst v).defers = b.defers := by cases dst <;> rfl
theorem put_size {b : Act} {dst : Option Tmp} {v : Value} : (b.put dst v).tmps.size = b.tmps.size := by cases dst <;> simp [Act.put]

/-- A frame that differs in the slots D alone. -/
theorem frame_puts {b a : Act} {D : List Tmp} (hd : b.defers = a.defers) (hz : b.tmps.size = a.tmps.size) (he : ∀ t, t ∉ D → b.tmps.getD t undef = a.tmps.getD t undef) :
    b = D.foldl (fun f d => f.put (some d) (b.tmps.getD d undef)) a := by
  have key : ∀ (D : List Tmp) (f : Act), f.defers = b.defers → f.tmps.size = b.tmps.size → (∀ t, t ∉ D → b.tmps.getD t undef = f.tmps.getD t undef) → b = D.foldl (fun f d => f.put (some d) (b.tmps.getD d undef)) f := by
    intro D
    induction D with
    | nil =>
      intro f h1 h2 h3
      obtain ⟨bt, bd⟩ := b
      obtain ⟨ft, fd⟩ := f
      simp only at h1 h2 h3
      subst h1
      have : bt = ft := by
        apply Array.ext
        · exact h2.symm
        · intro i hi hj
          have := h3 i (by simp)
          rw [Array.getD_eq_getD_getElem?, Array.getD_eq_getD_getElem?, Array.getElem?_eq_getElem hi, Array.getElem?_eq_getElem hj] at this
          simpa using this
      rw [this]; rfl
    | cons d D ih =>
      intro f h1 h2 h3
      refine ih _ (put_defers.trans h1) (put_size.trans h2) fun t ht => ?_
      by_cases htd : t = d
      · subst htd
        by_cases hlt : t < f.tmps.size
        · rw [put_same hlt]
        · have e1 : ∀ (c : Act), ¬ t < c.tmps.size → c.tmps.getD t undef = undef := fun c h => by simp [Array.getD, h]
          rw [e1 b (by rw [← h2]; exact hlt), e1 _ (by rw [put_size]; exact hlt)]
      · rw [put_other (fun e => htd (Option.some.inj e).symm)]
        exact h3 t (by simp [htd, ht])
  exact key D a hd.symm hz.symm he
/-- All operations of a list, each by itself. -/
def RSteps (S : Nat → Oper → Prop) : Nat → List Oper → Prop
  | _, [] => True
  | k, o :: r => S k o ∧ RSteps S (k + 1) r
theorem RSteps.get {S : Nat → Oper → Prop} : ∀ (k : Nat) (l : List Oper), RSteps S k l → ∀ j o, l[j]? = some o → S (k + j) o
  | k, [], _, j, o, h => by simp at h
  | k, p :: r, ⟨h0, h1⟩, 0, o, h => by simp at h; subst h; exact h0
  | k, p :: r, ⟨h0, h1⟩, j + 1, o, h => by
    have := RSteps.get (k + 1) r h1 j o (by simpa using h)
    rwa [show k + 1 + j = k + (j + 1) by omega] at this

/-- What may be known of a value: it stays known in grown worlds. -/
inductive Fact where
  | is (v : Value)
  | bytes (l : List UInt8)
  | st (p : Value → World → Prop) (h : ∀ v w w', p v w → Ext w w' → p v w')
  | any
def Fact.holds : Fact → Value → World → Prop
  | .is u, v, _ => v = u
  | .bytes l, v, w => By w [] v l
  | .st p _, v, w => p v w
  | .any, _, _ => True
theorem Fact.stays (f : Fact) (v : Value) (w w' : World) (h : f.holds v w) (hx : Ext w w') : f.holds v w' := by
  cases f with
  | is u => exact h
  | bytes l => exact Sl.ext h hx
  | st p hp => exact hp v w w' h hx
  | any => trivial
def factsOf (L : List Fact) (i : Nat) (v : Value) (w : World) : Prop := (L.getD i .any).holds v w

section
variable {i : Nat} {o : Oper} {b : Act} {w : World}
theorem good_run {v : Value} (hg : Region.wanted o (yielded ops b.tmps) = true) (hr : (execOp b.eval o).run P w = .ok (.value v) w) (hΦ : Φ i v w) : RGood P ops Φ Q i o b w :=
  .inl ⟨hg, by unfold Oper.wp; rw [hr]; exact ⟨v, rfl, hΦ, Ext.refl w⟩⟩
theorem good_move {x : Operand} (hg : Region.wanted o (yielded ops b.tmps) = true) (ho : o.op = .move x) (hΦ : Φ i (b.eval x) w) : RGood P ops Φ Q i o b w :=
  good_run hg (by simp [execOp, ho, Sem.run_pure]) hΦ
theorem exec_binOp {ρ : Operand → Value} {op : BinOp} {t ty : TypeId} {x y : Operand} {u1 u2 v : Value} (ho : o.op = .binOp op t x y ty) (hx : ρ x = u1) (hy : ρ y = u2)
    (hg : (eqGuard op t x y u1 u2).run P w = .ok () w) (hr : (binOp op t u1 u2).run P w = .ok v w) : (execOp ρ o).run P w = .ok (.value v) w := by
  simp only [execOp, ho, hx, hy, Sem.run_bind, hg, hr, Sem.run_pure, Result.andThen_ok]
theorem good_bin {op : BinOp} {t ty : TypeId} {x y : Operand} {u1 u2 v : Value} (hg : Region.wanted o (yielded ops b.tmps) = true) (ho : o.op = .binOp op t x y ty) (hx : b.eval x = u1) (hy : b.eval y = u2)
    (he : (eqGuard op t x y u1 u2).run P w = .ok () w) (hr : (binOp op t u1 u2).run P w = .ok v w) (hΦ : Φ i v w) : RGood P ops Φ Q i o b w :=
  good_run hg (exec_binOp ho hx hy he hr) hΦ
def boolOf : Value → Option Bool
  | .bool c => some c
  | _ => none
theorem wanted_none (hg : o.guard = none) : Region.wanted o (yielded ops b.tmps) = true := by unfold Region.wanted; rw [hg]
theorem enters {f : FuncId} {fn : Func} {c : Code} (hf : P.funcs[f]? = some fn) (hname : (fn.name == "runtime.NumGoroutine") = false) (hb : fn.body = some c) : ∀ args w, (callFunc f args).run P w = .ok (.enter f args) w := by
  intro args w
  have h1 : fn.name ≠ "runtime.NumGoroutine" := by simpa using hname
  simp [callFunc, hf, h1, hb, mark]
theorem exec_nilCheck {ρ : Operand → Value} {x : Operand} {ad : Addr} (ho : o.op = .nilCheck x) (hx : ρ x = .pointer (some ad)) : (execOp ρ o).run P w = .ok (.value (.pointer (some ad))) w := by simp [execOp, ho, hx, go_sem]
theorem good_nilCheck {x : Operand} {ad : Addr} (hg : Region.wanted o (yielded ops b.tmps) = true) (ho : o.op = .nilCheck x) (hx : b.eval x = .pointer (some ad)) (hΦ : Φ i (.pointer (some ad)) w) : RGood P ops Φ Q i o b w :=
  good_run hg (exec_nilCheck ho hx) hΦ
theorem exec_field {ρ : Operand → Value} {t : TypeId} {x : Operand} {k : Nat} {u v : Value} (ho : o.op = .fieldAddr t x k) (hx : ρ x = u) (hr : (Instr.fieldAt t u k).run P w = .ok v w) : (execOp ρ o).run P w = .ok (.value v) w := by
  simp only [execOp, ho, hx, Sem.run_bind, hr, Sem.run_pure, Result.andThen_ok]
theorem good_field {t : TypeId} {x : Operand} {k : Nat} {u v : Value} (hg : Region.wanted o (yielded ops b.tmps) = true) (ho : o.op = .fieldAddr t x k) (hx : b.eval x = u) (hr : (Instr.fieldAt t u k).run P w = .ok v w) (hΦ : Φ i v w) : RGood P ops Φ Q i o b w :=
  good_run hg (exec_field ho hx hr) hΦ
theorem exec_index {ρ : Operand → Value} {t : TypeId} {x y : Operand} {u u' v : Value} (ho : o.op = .indexAddr t x y) (hx : ρ x = u) (hy : ρ y = u') (hr : (Instr.indexAt t u u').run P w = .ok v w) : (execOp ρ o).run P w = .ok (.value v) w := by
  simp only [execOp, ho, hx, hy, Sem.run_bind, hr, Sem.run_pure, Result.andThen_ok]
theorem good_index {t : TypeId} {x y : Operand} {u u' v : Value} (hg : Region.wanted o (yielded ops b.tmps) = true) (ho : o.op = .indexAddr t x y) (hx : b.eval x = u) (hy : b.eval y = u') (hr : (Instr.indexAt t u u').run P w = .ok v w) (hΦ : Φ i v w) : RGood P ops Φ Q i o b w :=
  good_run hg (exec_index ho hx hy hr) hΦ
theorem exec_load {ρ : Operand → Value} {t : TypeId} {x : Operand} {u v : Value} (ho : o.op = .load t x) (hx : ρ x = u) (hr : (Instr.loadAt t u).run P w = .ok v w) : (execOp ρ o).run P w = .ok (.value v) w := by
  simp only [execOp, ho, hx, Sem.run_bind, hr, Sem.run_pure, Result.andThen_ok]
theorem good_load {t : TypeId} {x : Operand} {u v : Value} (hg : Region.wanted o (yielded ops b.tmps) = true) (ho : o.op = .load t x) (hx : b.eval x = u) (hr : (Instr.loadAt t u).run P w = .ok v w) (hΦ : Φ i v w) : RGood P ops Φ Q i o b w :=
  good_run hg (exec_load ho hx hr) hΦ
theorem exec_len {ρ : Operand → Value} {t ty : TypeId} {x : Operand} {A : Option Addr} {n c : Nat} {e : TypeId} (ho : o.op = .call { callee := .builtin .len, args := #[x], argTypes := #[t] }) (ht : P.underlying t = some (.slice e)) (hx : ρ x = .slice A n c) : (execOp ρ o).run P w = .ok (.value (.int .i64 n)) w := by
  simp [execOp, ho, resolve, invoke, builtin, hx, go_sem, ht, Builtin.len_, run_underlying ht, goInt]
theorem good_len {t : TypeId} {x : Operand} {A : Option Addr} {n c : Nat} {e : TypeId} (hg : Region.wanted o (yielded ops b.tmps) = true) (ho : o.op = .call { callee := .builtin .len, args := #[x], argTypes := #[t] }) (ht : P.underlying t = some (.slice e)) (hx : b.eval x = .slice A n c) (hΦ : Φ i (.int .i64 n) w) : RGood P ops Φ Q i o b w :=
  good_run hg (exec_len (ty := 0) ho ht hx) hΦ
theorem good_call {f : FuncId} {xs : Array Operand} {ats : Array TypeId} (hg : Region.wanted o (yielded ops b.tmps) = true) (ho : o.op = .call { callee := .value (.func f), args := xs, argTypes := ats })
    (he : ∀ args w, (callFunc f args).run P w = .ok (.enter f args) w) (hc : Calls P f (xs.map b.eval) w fun e w' => ∃ v, e = .returned v ∧ Φ i v w' ∧ Ext w w') : RGood P ops Φ Q i o b w := by
  refine .inl ⟨hg, ?_⟩
  unfold Oper.wp
  have : (execOp b.eval o).run P w = .ok (.enter f (xs.map b.eval)) w := by
    simp [execOp, ho, resolve, Act.eval, Deferred.ofValue, invoke, he, go_sem]
  rw [this]
  exact hc.mono fun e w' ⟨v, he, h1, h2⟩ => by subst he; exact ⟨v, rfl, h1, h2⟩
end
end
end Go.Proofs.YtiknkcadbaeknaaGreat
