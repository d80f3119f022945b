/-
  A helper of ours: no claim of its own. Layer 28 (hop): windows from a tick on hang on what is there from the tick on (lists alone).
-/
import Derived.Test.YtljkneajdndgjaaCouH
import Derived.Test.YtljkneajdndgjaaHopS
import Derived.Test.YtljkneajdndgjaaHopL
set_option linter.unusedVariables false
set_option linter.unusedSimpArgs false
namespace Go.Proofs.Ytljkneajdndgjaa
open Go.RowKit
attribute [local go_sem] GW.cell GW.frozen In.eq_true In.le_true In.ne In.ne' In.ne_add In.ne_add' In.lt_add Upto.le_true Upto.le_add Upto.lt_add Oper.semAt_some wide_depth wide_fn
set_option maxHeartbeats 4000000 in
set_option maxRecDepth 100000 in
theorem groupsOf_nil (A : Option Addr) (cap n : Nat) (hn : 1 ≤ n ∧ n ≤ 64) (w : World) : Calls Try.prog 31 #[.slice A 0 cap, .int .i64 n] w fun e w' => e = .returned (.slice none 0 0) ∧ Ext w w' := by
  obtain ⟨n1, n2⟩ := hn
  have h1 : ¬ (n : Int) ≤ 0 := by omega
  have h2 : (0 : Int) < (n : Int) := by omega
  go_enter Try.func31, Try.ntmps31
  go_wp2_with fail
  go_loopg [5, 6] 1 (fun gh u i wr => u = .slice none 0 0 ∧ i = .int .i64 0 ∧ gh = 1 ∧ wr = w)
  case atStart => exact ⟨rfl, rfl, rfl, rfl⟩
  case round =>
    obtain ⟨rfl, rfl, rfl, rfl⟩ := hrel
    go_wp2_with fail
    go_returns
    exact ⟨rfl, Ext.refl _⟩
set_option maxHeartbeats 8000000 in
set_option maxRecDepth 100000 in
theorem fill_nil (L : List Ve) (hm : mayE (eds L) = true) (lv : Value) (w : World) (hL : Ew w [] lv L) : Calls Try.prog 33 #[.slice none 0 0, lv] w fun e w' => e = .returned (.tuple #[]) ∧ Ext w w' := by
  have hgr := hide (fun w' (hX : Ext w w') => groups_d L lv w' (hL.ext hX))
  obtain ⟨A, lcap, rfl, hlc, hlm, -⟩ := ew_form hL
  unfold maxLen at hlm
  have hGm : Hid (∀ g ∈ grp (eds L), mayJ g.2 = true ∧ g.1.length ≤ 8) := fun g hg => ⟨(mayE_iff.1 hm).2.2 g hg, grp_r8 hm g hg⟩
  have hLl : L.length ≤ 4096 := by have := mayE_len hm; simpa [eds] using this
  clear hL
  refine calls_marks Try.func33 rfl ?_
  simp only [Try.ntmps33, List.size_toArray, List.length_cons, List.length_nil, Nat.reduceAdd, Nat.reduceSub, Array.replicate_succ, Array.replicate_zero, List.push_toArray, List.append_toArray, List.nil_append, List.cons_append]
  go_wp2_with (go_at_call 22; refine (hgr.out _ ((Ext.refl w).alloc _)).mono ?_; rintro ee w1 ⟨b, rfl, v1, M, hb, hM, hMe, hX1⟩)
  rw [if_pos hm] at hM
  have p2 : Ob w1 w.heap.size 32 [.slice none 0 0] := (Ob.new w 32 [.slice none 0 0]).ext hX1
  have hXw : Ext w w1 := ((Ext.refl w).alloc _).trans hX1
  have hzw := hXw.size
  have hMx := hide (hMe [] (by simp))
  obtain ⟨b2, hb2⟩ : ∃ b2, b2 = w.heap.size := ⟨_, rfl⟩
  rw [← hb2] at p2 ⊢
  clear hgr hX1 hMe hb2
  rw [← hM] at hGm
  have hML : M.length ≤ 4096 := by have := congrArg List.length hM; simp only [eds, List.length_map] at this; omega
  replace hM := hide hM
  refine wp_rangeQ (X := []) (xs := grp (eds M)) rfl (enters_of Try.func51 (by kernel_rfl) rfl) (groups_seqq [] M v1 w1 w1 b hMx.out (by omega) (fun g hg => Nat.le_trans (hGm.out g hg).2 (by omega)) (Ext.refl _) hb) (Ext.refl _) (Nat.le_refl _) (fun x vs W h => h.size) (fun x vs => Hgg.stab x vs)
    (fun k W => Ob W b2 32 [.slice none 0 0] ∧ Ext w W)
    (fun c k W => False)
    (fun k => (Stab.ob _ _ _).and (Stab.of_ext hzw))
    (fun c k => Stab.pure _)
    ⟨p2, hXw⟩
    (fun k x vs a' _ => ∃ r' f', vs = #[r', f'] ∧ a' = { tmps := #[.slice none 0 0, .slice A L.length lcap, .pointer (some ⟨b2, 0, none⟩), undef, r', f', undef, undef, undef, .slice A L.length lcap, .func (.func 51) #[] #[.pointer (some ⟨b, 0, none⟩)], r', f', undef, undef, undef, undef, undef, undef, undef, undef, undef, undef, undef, undef, undef, undef, undef, undef, undef, undef, undef, undef, undef, undef, undef, undef, undef, undef], defers := [] })
    (fun k x vs a' => Stab.pure _) ?assign ?body ?done ?stop
  case assign =>
    rintro LL k x vs W K _ ⟨r', f', rfl, -, -⟩ hK
    gi_wp2
    exact hK _ _ (Ext.refl _) ⟨_, _, rfl, rfl⟩
  case stop =>
    rintro D c k W hD hk h
    exact h.elim
  case done =>
    rintro D W hD2 ⟨-, hX⟩ hK
    go_wp2_with fail
    refine ret_mark hK (v := .tuple #[]) ?_ ⟨rfl, put_ext hX (by omega) _⟩
    simp [results, Try.f33, go_sem]
  case body =>
    rintro LL k ⟨q, J⟩ vs a' Wo hL2 hrec hx ⟨hb2, hX⟩ ⟨rv, fv, e', hr', hf'⟩ ⟨rv', fv', rfl, rfl⟩
    have k2 := hb2.cell 0 rfl
    have m2 := hb2.lt
    haveI : In b2 Wo := ⟨m2⟩
    have hb2' := hide hb2
    have hX' := hide hX
    clear hb2 hX hx hrec
    gi_wp2
    gi_loopg [15] 1 (fun gh i wr => i = .int .i64 0 ∧ gh = 1 ∧ wr = Wo)
    case atStart => exact ⟨rfl, rfl, rfl⟩
    case round =>
      obtain ⟨rfl, rfl, rfl⟩ := hrel
      gi_wp2
      exact ⟨keeps_ext (Ext.refl _), BelX.refl _ _ _, ⟨hb2'.out, hX'.out⟩, Qk.of_ext (Ext.refl _)⟩
end Go.Proofs.Ytljkneajdndgjaa
set_option linter.unusedVariables false
set_option linter.unusedSimpArgs false
namespace Go.Proofs.Ytljkneajdndgjaa
open Go.RowKit
theorem jv_lowF (J : List Jp) {T t : Int} (ht : t < T) : jv (J.filter fun j => decide (j.1 < T)) t = jv J t := by
  induction J with
  | nil => rfl
  | cons j J ih =>
    rw [List.filter_cons]
    by_cases h : j.1 < T
    · rw [if_pos (by simpa using h)]
      show (if j.1 ≤ t then j.2 else 0) + _ = (if j.1 ≤ t then j.2 else 0) + _
      rw [ih]
    · rw [if_neg (by simpa using h), ih]
      show _ = (if j.1 ≤ t then j.2 else 0) + _
      rw [if_neg (by omega)]
      omega
/-- What functions are ahead of a tick is told by their values there. -/
theorem low_eq {J K : List Jp} {T : Int} (hJ : Canon J) (hK : Canon K) (h : ∀ t, t < T → jv J t = jv K t) : (J.filter fun j => decide (j.1 < T)) = K.filter fun j => decide (j.1 < T) := by
  refine canon_eq T _ _ ⟨hJ.1.sublist List.filter_sublist, fun j hj => hJ.2 j (List.mem_filter.1 hj).1⟩ ⟨hK.1.sublist List.filter_sublist, fun j hj => hK.2 j (List.mem_filter.1 hj).1⟩ (fun j hj => by simpa using (List.mem_filter.1 hj).2) (fun j hj => by simpa using (List.mem_filter.1 hj).2) (fun t ht => ?_)
  rw [jv_lowF J ht, jv_lowF K ht, h t ht]
end Go.Proofs.Ytljkneajdndgjaa
set_option linter.unusedVariables false
set_option linter.unusedSimpArgs false
namespace Go.Proofs.Ytljkneajdndgjaa
open Go.RowKit
theorem mayJ_jmps {l : List Ed} (hm : mayE l = true) (r : List Vl) : mayJ (jmps l r) = true := by
  by_cases h : jmps l r = []
  · rw [h]; rfl
  · have h1 := (mem_rows (mayE_rise hm).1 r).2 h
    refine (mayE_iff.1 hm).2.2 (r, jmps l r) ?_
    rw [grp_eq (mayE_rise hm)]
    exact List.mem_map.2 ⟨r, h1, rfl⟩
theorem ahead_low {l m : List Ed} {T : Int} (h1 : mpE (ahOp T) l = 0) (h2 : mpE (ahOp T) m = 0) (he : mpR (ahOp T) l = mpR (ahOp T) m) (hT : T ≤ 1125899906842624) (r : List Vl) (u : Int) (hu : u < T) : jv (jmps l r) u = jv (jmps m r) u := by
  have n1 : (ahOp T []).1 = 0 := by rw [ahOp_nil]
  have n2 : (ahOp T []).2 = [] := by rw [ahOp_nil]
  have key : ∀ {l : List Ed}, mpE (ahOp T) l = 0 → jv (jmps (mpR (ahOp T) l) r) u = jv (jmps l r) u := by
    intro l h
    obtain ⟨a, b, c⟩ := mp_zero h
    have hv := (mayE_rise a).1
    have e0 := op_rows n1 hv b r
    have hj := mayJ_jmps a r
    rw [c, jmps_each n2 hv]
    show jv (ahR (jmps l r) T) u = _
    unfold ahR
    rw [if_pos (show ahE (jmps l r) T = 0 from e0), ahL_val hj T u (by omega)]
    unfold ahV
    rw [if_pos hu]
  rw [← key h1, ← key h2, he]
section
variable {s hp f R T : Int} {l m : List Ed}
end
end Go.Proofs.Ytljkneajdndgjaa
set_option linter.unusedVariables false
set_option linter.unusedSimpArgs false
namespace Go.Proofs.Ytljkneajdndgjaa
open Go.RowKit
theorem hjv_stay {f : List Jp} {p : Int} (h : ∀ j ∈ f, j.1 ≠ p) : jv f p = jv f (p - 1) := by
  induction f with
  | nil => rfl
  | cons a r ih =>
    rw [jv, jv, ih (fun j hj => h j (List.mem_cons_of_mem _ hj))]
    have := h a (by simp)
    congr 1
    by_cases h1 : a.1 ≤ p
    · rw [if_pos h1, if_pos (by omega)]
    · rw [if_neg h1, if_neg (by omega)]
theorem hleF_iff (f : List Jp) : ∀ (g : List Jp) (m : Int), 0 ≤ leF f m g ↔ 0 ≤ m ∧ ∀ j ∈ g, 0 ≤ jv f j.1
  | [], m => by simp [leF]
  | a :: g, m => by
    have ih := hleF_iff f g (min m (jv f a.1))
    have e : leF f m (a :: g) = leF f (min m (jv f a.1)) g := by simp [leF]
    rw [e, ih]
    constructor
    · rintro ⟨h1, h2⟩
      refine ⟨by omega, fun j hj => ?_⟩
      rcases List.mem_cons.1 hj with rfl | hj
      · omega
      · exact h2 j hj
    · rintro ⟨h1, h2⟩
      exact ⟨by have := h2 a (by simp); omega, fun j hj => h2 j (List.mem_cons_of_mem _ hj)⟩
/-- Nowhere below none. -/
theorem hle_iff {f : List Jp} (h : mayJ f = true) : 0 ≤ leV f ↔ ∀ p, -1 ≤ p → 0 ≤ jv f p := by
  unfold leV
  rw [if_pos h, hleF_iff]
  constructor
  · rintro ⟨h1, h2⟩
    have key : ∀ n : Nat, 0 ≤ jv f ((n : Int) - 1) := by
      intro n
      induction n with
      | zero => exact h1
      | succ n ih =>
        by_cases hj : ∃ j ∈ f, j.1 = ((n + 1 : Nat) : Int) - 1
        · obtain ⟨j, hj, e⟩ := hj
          rw [← e]; exact h2 j hj
        · rw [hjv_stay (fun j hj' e => hj ⟨j, hj', e⟩)]
          have : ((n + 1 : Nat) : Int) - 1 - 1 = (n : Int) - 1 := by omega
          rw [this]; exact ih
    intro p hp
    have := key (p + 1).toNat
    rwa [show (((p + 1).toNat : Nat) : Int) - 1 = p by omega] at this
  · intro k
    exact ⟨k _ (Int.le_refl _), fun j hj => k _ (mayJ_at h j hj).1⟩
theorem hle_re {f : List Jp} {t : Int} (h0 : 0 ≤ t) (ht : t < 1125899906842624) (hf : reE f t = 0) (hl : 0 ≤ leV f) : 0 ≤ leV (reR f t) := by
  obtain ⟨hfm, hF⟩ := reE_zero.1 hf
  have hFm : mayJ (reR f t) = true := by unfold reR; rw [if_pos hf]; exact hF
  rw [hle_iff hFm]
  rw [hle_iff hfm] at hl
  intro p hp
  rw [← atV_of hFm]
  by_cases hpt : p < t
  · rw [re_left hf hpt hp ht, atV_of hfm]; exact hl _ (by omega)
  · rw [re_right hf (by omega) h0 ht, atV_of hfm]; exact hl p hp
theorem tab_iff {l : List Ed} (hm : mayE l = true) : tabE l = true ↔ ∀ r, 0 ≤ leV (jmps l r) := by
  unfold tabE
  rw [hm, Bool.true_and, List.all_eq_true]
  rw [grp_eq (mayE_rise hm)]
  constructor
  · intro h r
    by_cases hr : r ∈ rowsL l
    · have := h (r, jmps l r) (List.mem_map.2 ⟨r, hr, rfl⟩)
      simpa using this
    · rw [mem_rows (mayE_rise hm).1, Classical.not_not] at hr
      rw [hr]
      decide
  · intro h g hg
    obtain ⟨r, -, rfl⟩ := List.mem_map.1 hg
    simpa using h r
/-- What is there from a tick on. -/
theorem rest_high {l : List Ed} {T : Int} (h0 : 0 ≤ T) (hT : T < 1125899906842624) (h : mpE (reOp T) l = 0) : mayE (mpR (reOp T) l) = true ∧ ((tabE l = true → tabE (mpR (reOp T) l) = true) ∧ ∀ r u, T ≤ u → jv (jmps (mpR (reOp T) l) r) u = jv (jmps l r) u) := by
  have n1 : (reOp T []).1 = 0 := by rw [reOp_nil]
  have n2 : (reOp T []).2 = [] := by rw [reOp_nil]
  obtain ⟨a, b, c⟩ := mp_zero h
  have hv := (mayE_rise a).1
  have e0 : ∀ r, reE (jmps l r) T = 0 := fun r => op_rows n1 hv b r
  have hFm : ∀ r, mayJ (reR (jmps l r) T) = true := fun r => by unfold reR; rw [if_pos (e0 r)]; exact (reE_zero.1 (e0 r)).2
  have hj : ∀ r, jmps (mpR (reOp T) l) r = reR (jmps l r) T := fun r => by rw [c, jmps_each n2 hv]; rfl
  have hlen : (evL (reOp T) (byRows l)).length ≤ 4096 := by
    unfold mpE at h
    rw [if_pos a] at h
    have := (each_zero h).2.1
    rwa [grp_eq (mayE_rise a)] at this
  have hm : mayE (mpR (reOp T) l) = true := by rw [c]; exact may_each n2 hv hlen (fun r => hFm r)
  refine ⟨hm, fun ht => ?_, fun r u hu => ?_⟩
  · rw [tab_iff hm]
    rw [tab_iff a] at ht
    intro r
    rw [hj]
    exact hle_re h0 hT (e0 r) (ht r)
  · rw [hj, ← atV_of (hFm r), re_right (e0 r) hu h0 hT, atV_of (mayJ_jmps a r)]
section
variable {s hp R T : Int} {l m : List Ed}
end
end Go.Proofs.Ytljkneajdndgjaa
