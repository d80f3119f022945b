/-
  A helper of ours: no claim of its own. A map in memory as a list of its entries, in any order; what lookup, update, delete and range make of it, whatever the elements.
-/
import Derived.Test.YtiknkcadbaeknaaGreatRowA
import Derived.WalkLawsBesides
import Derived.Maps.RangeWalk
import Derived.Maps.OwnSet
set_option linter.unusedVariables false
set_option linter.unusedSimpArgs false
namespace Go.Proofs.YtiknkcadbaeknaaGreat
open Go.RowKit
attribute [local go_sem] GW.cell GW.frozen In.eq_true In.le_true In.ne In.ne' In.ne_add In.ne_add' In.lt_add Upto.le_true Upto.le_add Upto.lt_add
/-- A message: kind, number, first tick, last tick; its row, where it lies. -/
abbrev mg (k i f t : Int) (v : Value) : Value := .agg #[.int .i64 k, .int .i64 i, .int .i64 f, .int .i64 t, v]
abbrev mO (k i f t : Int) (v : Value) : Obj := .cells #[.int .i64 k, .int .i64 i, .int .i64 f, .int .i64 t, v] 67
def tickB (t : Int) : Bool := decide (0 ≤ t ∧ t ≤ 1125899906842624)
def moreB (k i f t : Int) (n : Nat) : Bool := if k = 2 then decide (f ≠ 0 ∨ 0 < n) else if k = 3 then decide (i ≠ 0 ∨ t ≠ 0 ∨ 0 < n) else false
def tickE (k f t : Int) : Int := if tickB f && tickB t then (if k = 1 ∧ t ≤ f then 14 else 0) else 13
def idB (i : Int) : Bool := decide (1 ≤ i ∧ i ≤ 1099511627776)
/-- What is wrong with a message. -/
def mchk (k i f t : Int) (l : List Vl) : Int :=
  if k = 1 then (if mayR l && idB i then tickE k f t else 2)
  else if k = 2 then (if idB i && !moreB k i f t l.length then tickE k f t else 2)
  else if k = 3 then (if moreB k i f t l.length then 2 else tickE k f t)
  else 12
theorem tick_yes {t : Int} (h : tickB t = true) : 0 ≤ t ∧ t ≤ 1125899906842624 := by unfold tickB at h; simpa using h
theorem tick_no {t : Int} (h : tickB t = false) : t < 0 ∨ (0 ≤ t ∧ 1125899906842624 < t) := by unfold tickB at h; rw [decide_eq_false_iff_not] at h; omega
theorem id_yes {t : Int} (h : idB t = true) : 1 ≤ t ∧ t ≤ 1099511627776 := by unfold idB at h; simpa using h
theorem id_no {t : Int} (h : idB t = false) : t < 1 ∨ (1 ≤ t ∧ 1099511627776 < t) := by unfold idB at h; rw [decide_eq_false_iff_not] at h; omega
set_option maxHeartbeats 1000000 in
theorem misTick_c (t : Int) (w : World) : Calls Tryz.prog 227 #[.int .i64 t] w fun e w' => e = .returned (.bool (tickB t)) ∧ Ext w w' := by
  cases h : tickB t
  · rcases tick_no h with h1 | ⟨h1, h2⟩
    · clear h
      go_enter Tryz.func227, Tryz.ntmps227
      go_wp2_with fail
      go_returns
      exact ⟨rfl, Ext.refl w⟩
    · have h3 : decide (t ≤ 1125899906842624) = false := by rw [decide_eq_false_iff_not]; omega
      clear h h2
      go_enter Tryz.func227, Tryz.ntmps227
      go_wp2_with fail
      go_returns
      exact ⟨rfl, Ext.refl w⟩
  · obtain ⟨h1, h2⟩ := tick_yes h
    clear h
    go_enter Tryz.func227, Tryz.ntmps227
    go_wp2_with fail
    go_returns
    exact ⟨rfl, Ext.refl w⟩
set_option maxHeartbeats 1000000 in
theorem refTick_c (t : Int) (w : World) : Calls Tryz.prog 122 #[.int .i64 t] w fun e w' => e = .returned (.bool (tickB t)) ∧ Ext w w' := by
  cases h : tickB t
  · rcases tick_no h with h1 | ⟨h1, h2⟩
    · clear h
      go_enter Tryz.func122, Tryz.ntmps122
      go_wp2_with fail
      go_returns
      exact ⟨rfl, Ext.refl w⟩
    · have h3 : decide (t ≤ 1125899906842624) = false := by rw [decide_eq_false_iff_not]; omega
      clear h h2
      go_enter Tryz.func122, Tryz.ntmps122
      go_wp2_with fail
      go_returns
      exact ⟨rfl, Ext.refl w⟩
  · obtain ⟨h1, h2⟩ := tick_yes h
    clear h
    go_enter Tryz.func122, Tryz.ntmps122
    go_wp2_with fail
    go_returns
    exact ⟨rfl, Ext.refl w⟩
set_option maxHeartbeats 4000000 in
set_option maxRecDepth 100000 in
theorem hasMore_c (k i f t : Int) (n c : Nat) (A : Option Addr) (hn : n ≤ 9223372036854775807) (w : World) : Calls Tryz.prog 173 #[mg k i f t (.slice A n c)] w fun e w' => e = .returned (.bool (moreB k i f t n)) ∧ Ext w w' := by
  obtain ⟨R, hR⟩ : ∃ R, R = moreB k i f t n := ⟨_, rfl⟩
  rw [← hR]
  unfold moreB at hR
  by_cases h2 : k = 2
  · subst h2
    rw [if_pos rfl] at hR
    by_cases hf : f = 0
    · subst hf
      by_cases h0 : n = 0
      · subst h0
        have e : R = false := by rw [hR]; decide
        subst e
        clear hR
        go_enter Tryz.func173, Tryz.ntmps173
        go_wp2_with fail
        go_returns
        exact ⟨rfl, (Ext.refl w).alloc _⟩
      · have hpos : 0 < n := by omega
        have e : R = true := by rw [hR, decide_eq_true_iff]; exact .inr hpos
        subst e
        clear hR h0
        go_enter Tryz.func173, Tryz.ntmps173
        go_wp2_with fail
        go_returns
        exact ⟨rfl, (Ext.refl w).alloc _⟩
    · have e : R = true := by rw [hR, decide_eq_true_iff]; exact .inl hf
      have e1 : (f != 0) = true := by simp [hf]
      subst e
      clear hR hf
      go_enter Tryz.func173, Tryz.ntmps173
      go_wp2_with fail
      go_returns
      exact ⟨rfl, (Ext.refl w).alloc _⟩
  · rw [if_neg h2] at hR
    by_cases h3 : k = 3
    · subst h3
      rw [if_pos rfl] at hR
      by_cases hi : i = 0
      · subst hi
        by_cases ht : t = 0
        · subst ht
          by_cases h0 : n = 0
          · subst h0
            have e : R = false := by rw [hR]; decide
            subst e
            clear hR h2
            go_enter Tryz.func173, Tryz.ntmps173
            go_wp2_with fail
            go_returns
            exact ⟨rfl, (Ext.refl w).alloc _⟩
          · have hpos : 0 < n := by omega
            have e : R = true := by rw [hR, decide_eq_true_iff]; exact .inr (.inr hpos)
            subst e
            clear hR h0 h2
            go_enter Tryz.func173, Tryz.ntmps173
            go_wp2_with fail
            go_returns
            exact ⟨rfl, (Ext.refl w).alloc _⟩
        · have e : R = true := by rw [hR, decide_eq_true_iff]; exact .inr (.inl ht)
          have e1 : (t != 0) = true := by simp [ht]
          subst e
          clear hR ht h2
          go_enter Tryz.func173, Tryz.ntmps173
          go_wp2_with fail
          go_returns
          exact ⟨rfl, (Ext.refl w).alloc _⟩
      · have e : R = true := by rw [hR, decide_eq_true_iff]; exact .inl hi
        have e1 : (i != 0) = true := by simp [hi]
        subst e
        clear hR hi h2
        go_enter Tryz.func173, Tryz.ntmps173
        go_wp2_with fail
        go_returns
        exact ⟨rfl, (Ext.refl w).alloc _⟩
    · rw [if_neg h3] at hR
      subst hR
      have e2 : (k == 2) = false := by simp [h2]
      have e3 : (k == 3) = false := by simp [h3]
      clear h2 h3
      go_enter Tryz.func173, Tryz.ntmps173
      go_wp2_with fail
      go_returns
      exact ⟨rfl, (Ext.refl w).alloc _⟩
set_option maxHeartbeats 4000000 in
set_option maxRecDepth 100000 in
theorem checkTicks_c (k i f t : Int) (v : Value) (w : World) : Calls Tryz.prog 174 #[mg k i f t v] w fun e w' => e = .returned (.int .i64 (tickE k f t)) ∧ Ext w w' := by
  have hf := hide (fun w => misTick_c f w)
  have ht := hide (fun w => misTick_c t w)
  obtain ⟨R, hR⟩ : ∃ R, R = tickE k f t := ⟨_, rfl⟩
  rw [← hR]
  unfold tickE at hR
  cases h1 : tickB f
  · rw [h1] at hf hR
    have e : R = 13 := by rw [hR]; rfl
    subst e
    clear hR h1 ht
    go_enter Tryz.func174, Tryz.ntmps174
    go_wp2_with (go_at_call 227; (with_reducible refine seq_gw (hf.out _) ?_); intro g)
    go_returns
    exact ⟨rfl, ((Ext.refl w).alloc _).trans g.grown⟩
  · cases h2 : tickB t
    · rw [h1] at hf
      rw [h2] at ht
      rw [h1, h2] at hR
      have e : R = 13 := by rw [hR]; rfl
      subst e
      clear hR h1 h2
      go_enter Tryz.func174, Tryz.ntmps174
      go_wp2_with (first | (go_at_call 227; (with_reducible refine seq_gw (hf.out _) ?_); intro g) | (go_at_call 227; (with_reducible refine seq_gw' (ht.out _) ?_); intro g2))
      go_returns
      exact ⟨rfl, ((Ext.refl w).alloc _).trans g2.grown⟩
    · rw [h1] at hf
      rw [h2] at ht
      rw [h1, h2] at hR
      replace hR : R = if k = 1 ∧ t ≤ f then 14 else 0 := hR
      clear h1 h2
      by_cases hk : k = 1
      · subst hk
        by_cases hlt : t ≤ f
        · have e : R = 14 := by rw [hR, if_pos ⟨rfl, hlt⟩]
          subst e
          clear hR
          go_enter Tryz.func174, Tryz.ntmps174
          go_wp2_with (first | (go_at_call 227; (with_reducible refine seq_gw (hf.out _) ?_); intro g) | (go_at_call 227; (with_reducible refine seq_gw' (ht.out _) ?_); intro g2))
          go_returns
          exact ⟨rfl, ((Ext.refl w).alloc _).trans g2.grown⟩
        · have e : R = 0 := by rw [hR, if_neg (fun h => hlt h.2)]
          subst e
          clear hR
          go_enter Tryz.func174, Tryz.ntmps174
          go_wp2_with (first | (go_at_call 227; (with_reducible refine seq_gw (hf.out _) ?_); intro g) | (go_at_call 227; (with_reducible refine seq_gw' (ht.out _) ?_); intro g2))
          go_returns
          exact ⟨rfl, ((Ext.refl w).alloc _).trans g2.grown⟩
      · have e : R = 0 := by rw [hR, if_neg (fun h => hk h.1)]
        have e1 : (k == 1) = false := by simp [hk]
        subst e
        clear hR hk
        go_enter Tryz.func174, Tryz.ntmps174
        go_wp2_with (first | (go_at_call 227; (with_reducible refine seq_gw (hf.out _) ?_); intro g) | (go_at_call 227; (with_reducible refine seq_gw' (ht.out _) ?_); intro g2))
        go_returns
        exact ⟨rfl, ((Ext.refl w).alloc _).trans g2.grown⟩
set_option maxHeartbeats 4000000 in
set_option maxRecDepth 100000 in
theorem check_c (k i f t : Int) (l : List Vl) (v : Value) (w : World) (hl : Rw w [] v l) : Calls Tryz.prog 116 #[mg k i f t v] w fun e w' => e = .returned (.int .i64 (mchk k i f t l)) ∧ Ext w w' := by
  have hm := hide (fun w' (hX : Ext w w') => rowMay_c l v w' (Sl.ext hl hX))
  obtain ⟨A, cap, rfl, hlc, hlm, -⟩ := rw_form hl
  unfold maxLen at hlm
  have hmo := hide (fun w => hasMore_c k i f t l.length cap A (by omega) w)
  have htk := hide (fun w => checkTicks_c k i f t (.slice A l.length cap) w)
  have hX0 := hide ((Ext.refl w).alloc (mO k i f t (.slice A l.length cap)))
  obtain ⟨R, hR⟩ : ∃ R, R = mchk k i f t l := ⟨_, rfl⟩
  rw [← hR]
  unfold mchk at hR
  clear hl
  by_cases h1 : k = 1
  · subst h1
    rw [if_pos rfl] at hR
    rw [show moreB 1 i f t l.length = false from rfl] at hmo
    cases ha : mayR l
    · rw [ha] at hm hR
      have e : R = 2 := by rw [hR]; rfl
      subst e
      clear hR ha
      go_enter Tryz.func116, Tryz.ntmps116
      go_wp2_with (go_at_call 77; (with_reducible refine seq_gw (hm.out _ hX0.out) ?_); intro g)
      go_returns
      exact ⟨rfl, hX0.out.trans g.grown⟩
    · rw [ha] at hm hR
      cases hi : idB i
      · rw [hi] at hR
        have e : R = 2 := by rw [hR]; rfl
        subst e
        clear hR ha
        rcases id_no hi with h2 | ⟨h2, h3⟩
        · clear hi
          go_enter Tryz.func116, Tryz.ntmps116
          go_wp2_with (go_at_call 77; (with_reducible refine seq_gw (hm.out _ hX0.out) ?_); intro g)
          go_returns
          exact ⟨rfl, hX0.out.trans g.grown⟩
        · clear hi
          go_enter Tryz.func116, Tryz.ntmps116
          go_wp2_with (go_at_call 77; (with_reducible refine seq_gw (hm.out _ hX0.out) ?_); intro g)
          go_returns
          exact ⟨rfl, hX0.out.trans g.grown⟩
      · rw [hi] at hR
        obtain ⟨h2, h3⟩ := id_yes hi
        replace hR : R = tickE 1 f t := hR
        rw [← hR] at htk
        clear hR ha hi
        go_enter Tryz.func116, Tryz.ntmps116
        go_wp2_with (first | (go_at_call 77; (with_reducible refine seq_gw (hm.out _ hX0.out) ?_); intro g) | (go_at_call 173; (first | (with_reducible refine seq_gw' (hmo.out _) ?_) | (with_reducible refine seq_gw (hmo.out _) ?_)); intro g2) | (go_at_call 174; (with_reducible refine seq_gw' (htk.out _) ?_); intro g3))
        go_returns
        exact ⟨rfl, hX0.out.trans g3.grown⟩
  · rw [if_neg h1] at hR
    by_cases h2 : k = 2
    · subst h2
      rw [if_pos rfl] at hR
      cases hi : idB i
      · rw [hi] at hR
        have e : R = 2 := by rw [hR]; rfl
        subst e
        clear hR h1
        rcases id_no hi with h2 | ⟨h2, h3⟩
        · clear hi
          go_enter Tryz.func116, Tryz.ntmps116
          go_wp2_with fail
          go_returns
          exact ⟨rfl, hX0.out⟩
        · clear hi
          go_enter Tryz.func116, Tryz.ntmps116
          go_wp2_with fail
          go_returns
          exact ⟨rfl, hX0.out⟩
      · rw [hi] at hR
        obtain ⟨h2, h3⟩ := id_yes hi
        cases hb : moreB 2 i f t l.length
        · rw [hb] at hR hmo
          replace hR : R = tickE 2 f t := hR
          rw [← hR] at htk
          clear hR hi h1 hb
          go_enter Tryz.func116, Tryz.ntmps116
          go_wp2_with (first | (go_at_call 173; (first | (with_reducible refine seq_gw' (hmo.out _) ?_) | (with_reducible refine seq_gw (hmo.out _) ?_)); intro g2) | (go_at_call 174; (with_reducible refine seq_gw' (htk.out _) ?_); intro g3))
          go_returns
          exact ⟨rfl, hX0.out.trans g3.grown⟩
        · rw [hb] at hR hmo
          have e : R = 2 := by rw [hR]; rfl
          subst e
          clear hR hi h1 hb
          go_enter Tryz.func116, Tryz.ntmps116
          go_wp2_with (go_at_call 173; (first | (with_reducible refine seq_gw' (hmo.out _) ?_) | (with_reducible refine seq_gw (hmo.out _) ?_)); intro g2)
          go_returns
          exact ⟨rfl, hX0.out.trans g2.grown⟩
    · rw [if_neg h2] at hR
      by_cases h3 : k = 3
      · subst h3
        rw [if_pos rfl] at hR
        cases hb : moreB 3 i f t l.length
        · rw [hb] at hR hmo
          replace hR : R = tickE 3 f t := hR
          rw [← hR] at htk
          clear hR h1 h2 hb
          go_enter Tryz.func116, Tryz.ntmps116
          go_wp2_with (first | (go_at_call 173; (first | (with_reducible refine seq_gw' (hmo.out _) ?_) | (with_reducible refine seq_gw (hmo.out _) ?_)); intro g2) | (go_at_call 174; (with_reducible refine seq_gw' (htk.out _) ?_); intro g3))
          go_returns
          exact ⟨rfl, hX0.out.trans g3.grown⟩
        · rw [hb] at hR hmo
          have e : R = 2 := by rw [hR]; rfl
          subst e
          clear hR h1 h2 hb
          go_enter Tryz.func116, Tryz.ntmps116
          go_wp2_with (go_at_call 173; (first | (with_reducible refine seq_gw' (hmo.out _) ?_) | (with_reducible refine seq_gw (hmo.out _) ?_)); intro g2)
          go_returns
          exact ⟨rfl, hX0.out.trans g2.grown⟩
      · rw [if_neg h3] at hR
        subst hR
        have e1 : (k == 1) = false := by simp [h1]
        have e2 : (k == 2) = false := by simp [h2]
        have e3 : (k == 3) = false := by simp [h3]
        clear h1 h2 h3
        go_enter Tryz.func116, Tryz.ntmps116
        go_wp2_with fail
        go_returns
        exact ⟨rfl, hX0.out⟩
end Go.Proofs.YtiknkcadbaeknaaGreat
set_option linter.unusedVariables false
set_option linter.unusedSimpArgs false
namespace Go.Proofs.YtiknkcadbaeknaaGreat
open Go.Maps (Keyed)
/-- Any element reads as itself. -/
def anyE (v : Value) : Option (DataW Value × List MemPlace) := some (.held v, [])
def entE {α : Type} (f : α → Lit × Value) (q : α) : Lit × DataW Value := ((f q).1, .held (f q).2)
/-- Block b is a map with the entries M. -/
def Mv {α : Type} (w : World) (P : Program) (k : TypeId) (f : α → Lit × Value) (b n : Nat) (M : List α) : Prop := ∃ es, w.ownsMap P k anyE b n (.map es) ∧ es.Perm (M.map (entE f))
def getM {α : Type} (f : α → Lit × Value) (M : List α) (kl : Lit) : Option α := M.find? fun q => (f q).1.sameKey kl
def delM {α : Type} (f : α → Lit × Value) (M : List α) (kl : Lit) : List α := M.filter fun q => !(f q).1.sameKey kl
def putM {α : Type} (f : α → Lit × Value) (M : List α) (x : α) : List α := x :: delM f M (f x).1
section
variable {α : Type} {f : α → Lit × Value} {P : Program} {k : TypeId} {w w' : World} {b n : Nat} {M : List α}
theorem Mv.made {α : Type} (f : α → Lit × Value) (w : World) (P : Program) (k : TypeId) : Mv (w.alloc (.map #[] 0)) P k f w.heap.size 0 [] := ⟨[], World.ownsMap_made w P k anyE, List.Perm.refl _⟩
theorem Mv.lt (h : Mv w P k f b n M) : b < w.heap.size := by obtain ⟨es, h, _⟩ := h; exact h.lt
theorem Mv.kept {row : Option Nat} (h : Mv w P k f b n M) (hg : w.grownBy w' row) (hne : some b ≠ row) : Mv w' P k f b n M := by obtain ⟨es, h, p⟩ := h; exact ⟨es, h.kept hg hne, p⟩
theorem Mv.alloc (h : Mv w P k f b n M) (o : Obj) : Mv (w.alloc o) P k f b n M := by obtain ⟨es, h, p⟩ := h; exact ⟨es, h.alloc o, p⟩
theorem find_perm {kl : Lit} {l l' : List (Lit × DataW Value)} (p : l.Perm l') (hd : l.Pairwise (fun p q => p.1 ≠ q.1)) : l.find? (fun p => p.1.sameKey kl) = l'.find? (fun p => p.1.sameKey kl) := by
  induction p with
  | nil => rfl
  | cons x _ ih =>
    rw [List.find?_cons, List.find?_cons, ih (List.pairwise_cons.1 hd).2]
  | swap x y l =>
    have hxy : y.1 ≠ x.1 := (List.pairwise_cons.1 hd).1 x (by simp)
    rw [List.find?_cons, List.find?_cons, List.find?_cons, List.find?_cons]
    cases h1 : y.1.sameKey kl <;> cases h2 : x.1.sameKey kl <;> simp_all
    exact absurd ((WideAt.sameKey_eq h1).trans (WideAt.sameKey_eq h2).symm) hxy
  | trans p1 _ ih1 ih2 =>
    rw [ih1 hd]
    exact ih2 ((p1.pairwise_iff (fun {a b} hab => Ne.symm hab)).1 hd)
theorem any_permM {α : Type} {l m : List α} (p : l.Perm m) (f : α → Bool) : l.any f = m.any f := by
  rw [Bool.eq_iff_iff, List.any_eq_true, List.any_eq_true]
  exact ⟨fun ⟨x, hx, e⟩ => ⟨x, p.mem_iff.1 hx, e⟩, fun ⟨x, hx, e⟩ => ⟨x, p.mem_iff.2 hx, e⟩⟩
theorem insert_perm (x : Lit × DataW Value) : ∀ l : List (Lit × DataW Value), (DataW.insert x l).Perm (x :: l)
  | [] => List.Perm.refl _
  | y :: r => by
    unfold DataW.insert
    split
    · exact List.Perm.refl _
    · exact ((insert_perm x r).cons y).trans (List.Perm.swap x y r)
theorem find_ents (f : α → Lit × Value) (kl : Lit) : ∀ M : List α, (M.map (entE f)).find? (fun p => p.1.sameKey kl) = (M.find? fun q => (f q).1.sameKey kl).map (entE f)
  | [] => rfl
  | q :: M => by
    rw [List.map_cons, List.find?_cons, List.find?_cons, find_ents f kl M]
    show (match (f q).1.sameKey kl with | true => _ | false => _) = _
    cases (f q).1.sameKey kl <;> rfl
theorem filter_ents (f : α → Lit × Value) (kl : Lit) (M : List α) : (M.map (entE f)).filter (fun p => !p.1.sameKey kl) = (delM f M kl).map (entE f) := by
  unfold delM
  rw [List.filter_map]; rfl
theorem Mv.at (h : Mv w P k f b n M) (K : Keyed P k) (kl : Lit) (z : Value) : ∃ es, w.ownsMap P k anyE b n (.map es) ∧ (DataW.map es).atKey kl (.held z) = .held (((getM f M kl).map fun q => (f q).2).getD z) := by
  obtain ⟨es, h, p⟩ := h
  refine ⟨es, h, ?_⟩
  obtain ⟨es', e, h1, -⟩ := h.entries K
  injection e with e
  subst e
  unfold DataW.atKey getM
  simp only
  rw [find_perm p h1, find_ents]
  cases M.find? fun q => (f q).1.sameKey kl <;> rfl
/-- 'm[k]'. -/
theorem Mv.lookup {t e : TypeId} (h : Mv w P k f b n M) (K : Keyed P k) (ht : P.underlying t = some (.map k e)) {z : Value} (hz : (zeroValue e).run P w = .ok z w) {key : Value} {kl : Lit} (hkey : keyOf P k key = some kl) : (Instr.lookup t (.map (some b)) key false).run P w = .ok (((getM f M kl).map fun q => (f q).2).getD z) w := by
  obtain ⟨es, h1, h2⟩ := h.at K kl z
  obtain ⟨v, ps, hrun, hv⟩ := h1.lookup K ht hz (zd := .held z) (zp := []) rfl hkey
  rw [h2] at hv
  unfold anyE at hv
  simp only [Option.some.injEq, Prod.mk.injEq, DataW.held.injEq] at hv
  rw [hrun, hv.1]
/-- 'm[k] = v'. -/
theorem Mv.store {t e : TypeId} (h : Mv w P k f b n M) (K : Keyed P k) (ht : P.underlying t = some (.map k e)) (hn : n < maxLen) {key : Value} (x : α) (hkey : keyOf P k key = some (f x).1) : ∃ w', (Instr.mapUpdate t (.map (some b)) key (f x).2).run P w = .ok () w' ∧ Mv w' P k f b (n + 1) (putM f M x) ∧ w.grownBy w' (some b) := by
  obtain ⟨es, h, p⟩ := h
  obtain ⟨w', hrun, h1, h2⟩ := h.store K ht hn hkey (val := (f x).2) (d := .held (f x).2) (ps := []) rfl
  refine ⟨w', hrun, ⟨_, h1, ?_⟩, h2.grown⟩
  refine (insert_perm _ _).trans ?_
  unfold putM
  rw [List.map_cons, ← filter_ents]
  exact (p.filter _).cons _
/-- 'delete(m, k)'. -/
theorem Mv.drop {t e : TypeId} (h : Mv w P k f b n M) (K : Keyed P k) (ht : P.underlying t = some (.map k e)) {key : Value} {kl : Lit} (hkey : keyOf P k key = some kl) (ty : TypeId) : ∃ w', (Builtin.delete_ #[t, k] ty #[.map (some b), key]).run P w = .ok (.tuple #[]) w' ∧ Mv w' P k f b n (delM f M kl) ∧ w.grownBy w' (some b) := by
  obtain ⟨es, h, p⟩ := h
  obtain ⟨w', hrun, h1, h2⟩ := h.drop K ht hkey ty
  refine ⟨w', hrun, ⟨_, h1, ?_⟩, h2.grown⟩
  rw [← filter_ents]
  exact p.filter _
/-- 'range m' under way: what is still to come. -/
def Rgv {α : Type} (w : World) (P : Program) (k : TypeId) (f : α → Lit × Value) (b r n : Nat) (M rest : List α) : Prop :=
  ∃ es left cnt, w.ranges P k anyE b r n (.map es) left cnt ∧ es.Perm (M.map (entE f)) ∧ (∀ kl, left kl = rest.any fun q => (f q).1.sameKey kl) ∧ rest.Sublist M
end
section
variable {α : Type} {f : α → Lit × Value} {P : Program} {k : TypeId} {w : World} {b n : Nat} {M : List α} {ops : Array Oper} {rest : List Oper} {o : Oper} {a : Act} {Q : Exit → Act → World → Prop}
theorem wpl_mstore {t e : TypeId} (hg : o.guard = none) (m x v : Operand) (hop : o.op = Op.mapUpdate t m x v) {key : Value} (y : α) (hm : a.eval m = .map (some b)) (hx : a.eval x = key) (hv : a.eval v = (f y).2) (K : Keyed P k) (ht : P.underlying t = some (.map k e)) (hn : n < maxLen) (h : Mv w P k f b n M) (hkey : keyOf P k key = some (f y).1)
    (hK : ∀ w', Mv w' P k f b (n + 1) (putM f M y) → w.grownBy w' (some b) → wpList P ops Q rest (a.put o.dst undef) w') : wpList P ops Q (o :: rest) a w := by
  refine wpList_plain hg fun K' hK' => ?_
  obtain ⟨w', hrun, r1, r2⟩ := h.store K ht hn y hkey
  unfold Oper.wp
  simp [execOp, hop, hm, hx, hv, hrun, Result.andThen]
  exact hK' _ _ (hK w' r1 r2)
theorem wpl_mdel {t e : TypeId} (hg : o.guard = none) (m x : Operand) (hop : o.op = Op.call { callee := Callee.builtin Builtin.delete, args := #[m, x], argTypes := #[t, k] }) {key : Value} {kl : Lit} (hm : a.eval m = .map (some b)) (hx : a.eval x = key) (K : Keyed P k) (ht : P.underlying t = some (.map k e)) (h : Mv w P k f b n M) (hkey : keyOf P k key = some kl)
    (hK : ∀ w', Mv w' P k f b n (delM f M kl) → w.grownBy w' (some b) → wpList P ops Q rest (a.put o.dst (.tuple #[])) w') : wpList P ops Q (o :: rest) a w := by
  refine wpList_plain hg fun K' hK' => ?_
  obtain ⟨w', hrun, r1, r2⟩ := h.drop K ht hkey o.type
  unfold Oper.wp
  simp [execOp, hop, resolve, invoke, builtin, hm, hx, hrun, Result.andThen]
  exact hK' _ _ (hK w' r1 r2)
end
end Go.Proofs.YtiknkcadbaeknaaGreat
