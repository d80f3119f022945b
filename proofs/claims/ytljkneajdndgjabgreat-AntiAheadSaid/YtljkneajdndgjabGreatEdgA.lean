/-
  A helper of ours: no claim of its own. Layer 10 (edge): edges in memory (their rows lie elsewhere); what is asked of one edge, or of two.
-/
import Derived.Test.YtljkneajdndgjabGreatRowC
import Derived.Test.YtljkneajdndgjabGreatMem
import Derived.Test.YtljkneajdndgjabGreatEdgS
import Derived.Test.YtljkneajdndgjabGreatStepA
set_option linter.unusedVariables false
set_option linter.unusedSimpArgs false
namespace Go.Proofs.YtljkneajdndgjabGreat
open Go.RowKit
attribute [local go_sem] GW.cell GW.frozen In.eq_true In.le_true In.ne In.ne' In.ne_add In.ne_add' In.lt_add Upto.le_true Upto.le_add Upto.lt_add
abbrev bxR (v : Value) : Obj := .cells #[v] 33
section
variable {l m : List Vl} {v u : Value} {w : World}
set_option maxHeartbeats 2000000 in
set_option maxRecDepth 100000 in
theorem rowCompareNo_c (hl : Rw w [] v l) (hm : Rw w [] u m) (h : (mayR l && mayR m) = false) : Calls Tryz.prog 112 #[v, u] w fun e w' => e = .returned (.int .i64 0) ∧ Ext w w' := by
  have h1 := hide (fun w' (hX : Ext w w') => rowMay_c l v w' (Sl.ext hl hX))
  have h2 := hide (fun w' (hX : Ext w w') => rowMay_c m u w' (Sl.ext hm hX))
  obtain ⟨A, cap, rfl, -, -, -⟩ := rw_form hl
  obtain ⟨B, cap2, rfl, -, -, -⟩ := rw_form hm
  have hX0 := hide (((Ext.refl w).alloc (bxR (.slice A l.length cap))).alloc (bxR (.slice B m.length cap2)))
  clear hl hm
  cases ha : mayR l
  · rw [ha] at h1
    clear h ha
    go_enter Tryz.func112, Tryz.ntmps112
    go_wp2_with (go_at_call 53; (with_reducible refine seq_gw (h1.out _ hX0.out) ?_); intro g)
    go_returns
    exact ⟨rfl, hX0.out.trans g.grown⟩
  · rw [ha, Bool.true_and] at h
    rw [ha] at h1
    rw [h] at h2
    clear h ha
    go_enter Tryz.func112, Tryz.ntmps112
    go_wp2_with (first | (go_at_call 53; (with_reducible refine seq_gw (h1.out _ hX0.out) ?_); intro g) | (go_at_call 53; (with_reducible refine seq_gw' (h2.out _ (hX0.out.trans g.grown)) ?_); intro g2))
    go_returns
    exact ⟨rfl, hX0.out.trans g2.grown⟩
set_option maxHeartbeats 4000000 in
set_option maxRecDepth 100000 in
theorem rowCompareYes_c (hl : Rw w [] v l) (hm : Rw w [] u m) (ha : mayR l = true) (hb : mayR m = true) : Calls Tryz.prog 112 #[v, u] w fun e w' => e = .returned (.int .i64 (cmpT l m)) ∧ Ext w w' := by
  have h1 := hide (fun w' (hX : Ext w w') => rowMay_c l v w' (Sl.ext hl hX))
  have h2 := hide (fun w' (hX : Ext w w') => rowMay_c m u w' (Sl.ext hm hX))
  rw [ha] at h1
  rw [hb] at h2
  obtain ⟨A, cap, rfl, hlc, hlm, hat⟩ := rw_form hl
  obtain ⟨B, cap2, rfl, hmc, hmm, hbt⟩ := rw_form hm
  unfold maxLen at hlm hmm
  have l8 := (mayR_iff.1 ha).1
  have m8 := (mayR_iff.1 hb).1
  replace hat := hide hat
  replace hbt := hide hbt
  have hX0 := hide (((Ext.refl w).alloc (bxR (.slice A l.length cap))).alloc (bxR (.slice B m.length cap2)))
  have oa := (Ob.new w 33 [.slice A l.length cap]).alloc (bxR (.slice B m.length cap2))
  have ob : Ob ((w.alloc (bxR (.slice A l.length cap))).alloc (bxR (.slice B m.length cap2))) (w.heap.size + 1) 33 [.slice B m.length cap2] := by
    have := Ob.new (w.alloc (bxR (.slice A l.length cap))) 33 [.slice B m.length cap2]
    simpa using this
  replace oa := hide oa
  replace ob := hide ob
  have hf : Hid (∀ w', Ext ((w.alloc (bxR (.slice A l.length cap))).alloc (bxR (.slice B m.length cap2))) w' → Calls Tryz.prog 139 #[.int .i64 (min l.length m.length : Nat), .func (.func 140) #[] #[.pointer (some ⟨w.heap.size, 0, none⟩), .pointer (some ⟨w.heap.size + 1, 0, none⟩)]] w' fun e w'' => e = .returned (.int .i64 (pre l m : Nat)) ∧ Ext w' w'') :=
    fun w' hX => first_c (Sl.ext hl (hX0.out.trans hX)) (Sl.ext hm (hX0.out.trans hX)) (oa.out.ext hX) (ob.out.ext hX) _ rfl
  have hpl := pre_le l m
  by_cases hlt : m.length < l.length
  · have e0 : min l.length m.length = m.length := by omega
    rw [e0] at hf
    have hI : (m.length : Int) < l.length := by omega
    by_cases hp : pre l m = m.length
    · have hce := cmpT_end l m (by rw [e0]; exact hp)
      rw [hce]
      rw [hp] at hf
      have hc := hide (fun w => cmpInt_c l.length m.length w)
      clear hce hp e0 hlt hat hbt hpl ha hb oa ob hl hm
      go_enter Tryz.func112, Tryz.ntmps112
      go_wp2_with (first | (go_at_call 53; (with_reducible refine seq_gw (h1.out _ hX0.out) ?_); intro g) | (go_at_call 53; (with_reducible refine seq_gw' (h2.out _ (hX0.out.trans g.grown)) ?_); intro g2) | (go_at_call 139; (with_reducible refine seq_gw' (hf.out _ g2.grown) ?_); intro g3) | (go_at_call 141; (with_reducible refine seq_gw' (hc.out _) ?_); intro g4))
      go_returns
      exact ⟨rfl, hX0.out.trans g4.grown⟩
    · obtain ⟨x, hx⟩ : ∃ x, l[pre l m]? = some x := ⟨_, List.getElem?_eq_getElem (by omega)⟩
      obtain ⟨y, hy⟩ : ∃ y, m[pre l m]? = some y := ⟨_, List.getElem?_eq_getElem (by omega)⟩
      have hcd := cmpT_diff l m x y hx hy
      rw [hcd]
      obtain ⟨b, o, rfl, -, hb1, c0, c1, c2⟩ := hat.out _ x hx
      obtain ⟨b', o', rfl, -, hb2, d0, d1, d2⟩ := hbt.out _ y hy
      obtain ⟨xk, xn, xs⟩ := x
      obtain ⟨yk, yn, ys⟩ := y
      have hc := hide (fun w => compare_c xk xn yk yn xs ys w)
      have hpb : (((pre l m : Nat) : Int) == m.length) = false := by rw [beq_eq_false_iff_ne]; omega
      have hp1 : pre l m < l.length := by omega
      have hp2 : pre l m < m.length := by omega
      haveI : In b w := ⟨hb1⟩
      haveI : In b' w := ⟨hb2⟩
      generalize pre l m = q at *
      clear hcd hp e0 hlt hat hbt hx hy hpl ha hb oa ob hl hm
      go_enter Tryz.func112, Tryz.ntmps112
      go_wp2_with (first | (go_at_call 53; (with_reducible refine seq_gw (h1.out _ hX0.out) ?_); intro g) | (go_at_call 53; (with_reducible refine seq_gw' (h2.out _ (hX0.out.trans g.grown)) ?_); intro g2) | (go_at_call 139; (with_reducible refine seq_gw' (hf.out _ g2.grown) ?_); intro g3))
      refine wp_region_gw (by kernel_rfl) (by kernel_rfl) ?_
      repeat (go_big_quiet_step ((go_at_call 142; with_reducible exact quiet_gw (hc.out _))))
      refine wpQuiet_nil ?_
      intro g4
      go_wp2_with fail
      go_returns
      exact ⟨rfl, hX0.out.trans (g3.grown.trans g4.grown)⟩
  · have e0 : min l.length m.length = l.length := by omega
    rw [e0] at hf
    have hI : ¬ (m.length : Int) < l.length := by omega
    by_cases hp : pre l m = l.length
    · have hce := cmpT_end l m (by rw [e0]; exact hp)
      rw [hce]
      rw [hp] at hf
      have hc := hide (fun w => cmpInt_c l.length m.length w)
      clear hce hp e0 hlt hat hbt hpl ha hb oa ob hl hm
      go_enter Tryz.func112, Tryz.ntmps112
      go_wp2_with (first | (go_at_call 53; (with_reducible refine seq_gw (h1.out _ hX0.out) ?_); intro g) | (go_at_call 53; (with_reducible refine seq_gw' (h2.out _ (hX0.out.trans g.grown)) ?_); intro g2) | (go_at_call 139; (with_reducible refine seq_gw' (hf.out _ g2.grown) ?_); intro g3) | (go_at_call 141; (with_reducible refine seq_gw' (hc.out _) ?_); intro g4))
      go_returns
      exact ⟨rfl, hX0.out.trans g4.grown⟩
    · obtain ⟨x, hx⟩ : ∃ x, l[pre l m]? = some x := ⟨_, List.getElem?_eq_getElem (by omega)⟩
      obtain ⟨y, hy⟩ : ∃ y, m[pre l m]? = some y := ⟨_, List.getElem?_eq_getElem (by omega)⟩
      have hcd := cmpT_diff l m x y hx hy
      rw [hcd]
      obtain ⟨b, o, rfl, -, hb1, c0, c1, c2⟩ := hat.out _ x hx
      obtain ⟨b', o', rfl, -, hb2, d0, d1, d2⟩ := hbt.out _ y hy
      obtain ⟨xk, xn, xs⟩ := x
      obtain ⟨yk, yn, ys⟩ := y
      have hc := hide (fun w => compare_c xk xn yk yn xs ys w)
      have hpb : (((pre l m : Nat) : Int) == l.length) = false := by rw [beq_eq_false_iff_ne]; omega
      have hp1 : pre l m < l.length := by omega
      have hp2 : pre l m < m.length := by omega
      haveI : In b w := ⟨hb1⟩
      haveI : In b' w := ⟨hb2⟩
      generalize pre l m = q at *
      clear hcd hp e0 hlt hat hbt hx hy hpl ha hb oa ob hl hm
      go_enter Tryz.func112, Tryz.ntmps112
      go_wp2_with (first | (go_at_call 53; (with_reducible refine seq_gw (h1.out _ hX0.out) ?_); intro g) | (go_at_call 53; (with_reducible refine seq_gw' (h2.out _ (hX0.out.trans g.grown)) ?_); intro g2) | (go_at_call 139; (with_reducible refine seq_gw' (hf.out _ g2.grown) ?_); intro g3))
      refine wp_region_gw (by kernel_rfl) (by kernel_rfl) ?_
      repeat (go_big_quiet_step ((go_at_call 142; with_reducible exact quiet_gw (hc.out _))))
      refine wpQuiet_nil ?_
      intro g4
      go_wp2_with fail
      go_returns
      exact ⟨rfl, hX0.out.trans (g3.grown.trans g4.grown)⟩
theorem rowCompare_c (hl : Rw w [] v l) (hm : Rw w [] u m) : Calls Tryz.prog 112 #[v, u] w fun e w' => e = .returned (.int .i64 (cmpR l m)) ∧ Ext w w' := by
  cases h : (mayR l && mayR m)
  · rw [show cmpR l m = 0 by unfold cmpR; rw [h]; rfl]
    exact rowCompareNo_c hl hm h
  · rw [show cmpR l m = cmpT l m by unfold cmpR; rw [h]; rfl]
    rw [Bool.and_eq_true] at h
    exact rowCompareYes_c hl hm h.1 h.2
end
end Go.Proofs.YtljkneajdndgjabGreat
set_option linter.unusedVariables false
set_option linter.unusedSimpArgs false
namespace Go.Proofs.YtljkneajdndgjabGreat
open Go.RowKit
/-- What one's own block is, as a list. -/
abbrev ob (v : Value) : List Nat := v.ownBlock.toList
theorem own_fr {w w' : World} {base e size n : Nat} {v : Value} {xs : List Value} {S : List Nat} (h : w.ownsRow base e size v n xs) (k : Fr S w w') (hS : ∀ x ∈ S, x < base) : w'.ownsRow base e size v n xs := by
  refine ⟨h.1, ?_⟩
  rcases h.2 with h2 | ⟨g, cap, cur, rfl, hb, hg, hr⟩
  · exact .inl h2
  · exact .inr ⟨g, cap, cur, rfl, hb, (k.block g (lt_of_block hg) (fun m => by have := hS g m; omega)).trans hg, hr⟩
theorem ob_ge {w : World} {base e size n : Nat} {v : Value} {xs : List Value} (h : w.ownsRow base e size v n xs) : ∀ k ∈ ob v, base ≤ k ∧ k < w.heap.size := by
  intro k hk
  have hk' : v.ownBlock = some k := by simpa [ob] using hk
  rcases h.2 with ⟨rfl, _⟩ | ⟨g, cap, cur, rfl, hb, hg, _⟩
  · cases hk'
  · have : k = g := by simpa [Value.ownBlock] using hk'.symm
    subst this
    exact ⟨hb, lt_of_block hg⟩
theorem fr_grown {w w' : World} {v : Value} (h : w.grownBy w' v.ownBlock) : Fr (ob v) w w' :=
  (Fr.refl (ob v) w).grown h (fun k hk => .inl (by simp [ob, hk]))
end Go.Proofs.YtljkneajdndgjabGreat
set_option linter.unusedVariables false
set_option linter.unusedSimpArgs false
namespace Go.Proofs.YtljkneajdndgjabGreat
open Go.RowKit
attribute [local go_sem] GW.cell GW.frozen In.eq_true In.le_true In.ne In.ne' In.ne_add In.ne_add' In.lt_add Upto.le_true Upto.le_add Upto.lt_add
/-- An edge as it lies: its row's slice, and the edge. -/
abbrev Ve := Value × Ed
def ec1 (p : Ve) : List Value := [p.1, .int .i64 p.2.2.1, .int .i64 p.2.2.2]
def ec (L : List Ve) : List Value := L.flatMap ec1
theorem ec_length (L : List Ve) : (ec L).length = L.length * 3 := by
  induction L with
  | nil => rfl
  | cons p r ih => simp only [ec, ec1, List.flatMap_cons, List.length_append, List.length_cons, List.length_nil] at ih ⊢; omega
theorem ec_append (L M : List Ve) : ec (L ++ M) = ec L ++ ec M := by simp [ec]
theorem ec_cons (p : Ve) (L : List Ve) : ec (p :: L) = ec1 p ++ ec L := by simp [ec]
theorem ec_drop : ∀ (L : List Ve) (n : Nat), (ec L).drop (n * 3) = ec (L.drop n)
  | [], n => by simp [ec]
  | p :: L, 0 => by simp
  | p :: L, n + 1 => by
    rw [ec_cons, show (n + 1) * 3 = (ec1 p).length + n * 3 by simp [ec1]; omega, List.drop_append, List.drop_of_length_le (by omega), List.nil_append, Nat.add_sub_cancel_left, ec_drop L n, List.drop_succ_cons]
theorem ec_one {L : List Ve} (h : ∀ p ∈ L, p.1.oneCell' = true) : ∀ u ∈ ec L, u.oneCell' = true := by
  intro u hu
  simp only [ec, List.mem_flatMap, ec1] at hu
  obtain ⟨p, hp, hu⟩ := hu
  simp at hu
  rcases hu with rfl | rfl | rfl
  · exact h p hp
  · rfl
  · rfl
theorem ec_get : ∀ (L : List Ve) (i : Nat) (p : Ve), L[i]? = some p → ∀ j v, (ec1 p)[j]? = some v → (ec L)[i * 3 + j]? = some v
  | q :: r, 0, p, h, j, v, hv => by
    simp at h; subst h
    have hj : j < (ec1 q).length := (List.getElem?_eq_some_iff.1 hv).1
    rw [ec_cons, List.getElem?_append_left (by omega), show 0 * 3 + j = j by omega]; exact hv
  | q :: r, i + 1, p, h, j, v, hv => by
    have := ec_get r i p (by simpa using h) j v hv
    rw [ec_cons, show (i + 1) * 3 + j = (ec1 q).length + (i * 3 + j) by simp [ec1]; omega, List.getElem?_append_right (by omega), Nat.add_sub_cancel_left]
    exact this
abbrev eds (L : List Ve) : List Ed := L.map Prod.snd
/-- Edges, where they lie; neither they nor their rows lie in a block of S. -/
def Ew (w : World) (S : List Nat) (v : Value) (L : List Ve) : Prop := Sl w S 3 v L.length (ec L) ∧ ∀ p ∈ L, Rw w S p.1 p.2.1
section
variable {w w' : World} {S S' : List Nat} {v : Value} {L : List Ve}
theorem Ew.ext (h : Ew w S v L) (k : Ext w w') : Ew w' S v L := ⟨Sl.ext h.1 k, fun p hp => Sl.ext (h.2 p hp) k⟩
theorem Ew.fr (h : Ew w S v L) (k : Fr S' w w') (hs : ∀ b, b ∈ S' → b ∈ S) : Ew w' S v L := ⟨Sl.fr h.1 k hs, fun p hp => Sl.fr (h.2 p hp) k hs⟩
theorem Ew.less (h : Ew w S v L) (hs : ∀ b, b ∈ S' → b ∈ S) : Ew w S' v L := ⟨Sl.less h.1 hs, fun p hp => Sl.less (h.2 p hp) hs⟩
theorem row_one {r : List Vl} {u : Value} (h : Rw w S u r) : u.oneCell' = true := by obtain ⟨A, cap, rfl, _⟩ := h; rfl
theorem Ew.one (h : Ew w S v L) : ∀ u ∈ ec L, u.oneCell' = true := ec_one fun p hp => row_one (h.2 p hp)
theorem ew_form (h : Ew w S v L) : ∃ A cap, v = .slice A L.length cap ∧ L.length ≤ cap ∧ cap ≤ maxLen ∧
    ∀ (i : Nat) (p : Ve), L[i]? = some p → ∃ b o, A = some ⟨b, o, none⟩ ∧ b ∉ S ∧ b < w.heap.size ∧ w.cell? ⟨b, o + i * 3, none⟩ = some p.1 ∧ w.cell? ⟨b, o + i * 3 + 1, none⟩ = some (.int .i64 p.2.2.1) ∧ w.cell? ⟨b, o + i * 3 + 1 + 1, none⟩ = some (.int .i64 p.2.2.2) := by
  obtain ⟨A, cap, rfl, h1, h2, h3, h4⟩ := h.1
  refine ⟨A, cap, rfl, h1, h2, fun i p hp => ?_⟩
  have hg := ec_get L i p hp
  rcases h4 with h4 | ⟨b, o, rfl, hb, hc⟩
  · have := hg 0 _ rfl; rw [h4] at this; cases this
  · have c0 := hc _ _ (hg 0 _ rfl)
    have c1 := hc _ _ (hg 1 _ rfl)
    have c2 := hc _ _ (hg 2 _ rfl)
    exact ⟨b, o, rfl, hb, block_lt_of_cell c0, c0, c1, c2⟩
end
/-- An edge, by value. -/
abbrev em (v : Value) (x : Jp) : Value := .agg #[v, .int .i64 x.1, .int .i64 x.2]
theorem rw_val {w : World} {S : List Nat} {v : Value} {l : List Vl} (h : Rw w S v l) : ∃ A cap, v = .slice A l.length cap := by obtain ⟨A, cap, e, _⟩ := h; exact ⟨A, cap, e⟩
set_option maxHeartbeats 1000000 in
theorem hasNoRow_c (q : List Vl) (j : Jp) (v : Value) (w : World) (h : Rw w [] v q) : Calls Tryz.prog 63 #[em v j] w fun e w' => e = .returned (.bool (!mayR q)) ∧ Ext w w' := by
  obtain ⟨jp, jn⟩ := j
  have h1 := hide (fun w' (hX : Ext w w') => rowMay_c q v w' (Sl.ext h hX))
  obtain ⟨A, cap, rfl⟩ := rw_val h
  have hX0 := hide ((Ext.refl w).alloc (.cells #[.slice A q.length cap, .int .i64 jp, .int .i64 jn] 37))
  generalize mayR q = m at *
  clear h
  go_enter Tryz.func63, Tryz.ntmps63
  go_wp2_with (go_at_call 53; (with_reducible refine seq_gw (h1.out _ hX0.out) ?_); intro g)
  go_returns
  exact ⟨rfl, hX0.out.trans g.grown⟩
set_option maxHeartbeats 1000000 in
theorem byRow_c (q : List Vl) (j : Jp) (v : Value) (r : List Vl) (k : Jp) (u : Value) (w : World) (hq : Rw w [] v q) (hr : Rw w [] u r) : Calls Tryz.prog 65 #[em v j, em u k] w fun e w' => e = .returned (.int .i64 (cmpR q r)) ∧ Ext w w' := by
  obtain ⟨jp, jn⟩ := j
  obtain ⟨kp, kn⟩ := k
  have h1 := hide (fun w' (hX : Ext w w') => rowCompare_c (Sl.ext hq hX) (Sl.ext hr hX))
  obtain ⟨A, cap, rfl⟩ := rw_val hq
  obtain ⟨B, cap2, rfl⟩ := rw_val hr
  have hX0 := hide (((Ext.refl w).alloc (.cells #[.slice A q.length cap, .int .i64 jp, .int .i64 jn] 37)).alloc (.cells #[.slice B r.length cap2, .int .i64 kp, .int .i64 kn] 37))
  generalize cmpR q r = m at *
  clear hq hr
  go_enter Tryz.func65, Tryz.ntmps65
  go_wp2_with (go_at_call 112; (with_reducible refine seq_gw (h1.out _ hX0.out) ?_); intro g)
  go_returns
  exact ⟨rfl, hX0.out.trans g.grown⟩
end Go.Proofs.YtljkneajdndgjabGreat
