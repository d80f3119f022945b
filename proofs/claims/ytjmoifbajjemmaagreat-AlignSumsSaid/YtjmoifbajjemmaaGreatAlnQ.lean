/-
  A helper of ours: no claim of its own. Layer 16 (align): what was put and what was released, as slices that grow beside an align.
-/
import Derived.Test.YtjmoifbajjemmaaGreatAlnO
import Derived.Test.YtjmoifbajjemmaaGreatEdgK
set_option linter.unusedVariables false
set_option linter.unusedSimpArgs false
namespace Go.Proofs.YtjmoifbajjemmaaGreat
open Go.RowKit
/-- The same sizes at each tick, row by row. -/
def Eqv (a b : List Ed) : Prop := ∀ r t, t < 1125899906842624 → jv (jmps a r) t = jv (jmps b r) t
def Fine (l : List Ed) : Prop := ∀ e ∈ l, badE e = false ∧ nowJ e.2 = false
theorem Fine.row {l : List Ed} (h : Fine l) (r : List Vl) : ∀ j ∈ jmps l r, tooJ j = false ∧ nowJ j = false := fun j hj => by
  obtain ⟨h1, h2⟩ := h _ (jmps_mem.1 hj)
  unfold badE at h1
  simp at h1
  exact ⟨h1.2, h2⟩
theorem Fine.val {l : List Ed} (h : Fine l) : ∀ e ∈ l, mayR e.1 = true := fun e he => by
  have h1 := (h e he).1
  unfold badE at h1
  simp at h1
  exact h1.1
theorem Fine.app {a b : List Ed} (ha : Fine a) (hb : Fine b) : Fine (a ++ b) := fun e he => (List.mem_append.1 he).elim (ha e) (hb e)
theorem Fine.sub {a b : List Ed} (h : Fine a) (hs : ∀ e ∈ b, e ∈ a) : Fine b := fun e he => h e (hs e he)
theorem ne_jmps {l : List Ed} (h0 : neE l = 0) (r : List Vl) : jmps (neR l) r = nmL (jmps l r) ∧ nmE (jmps l r) = 0 := by
  obtain ⟨h1, h2, h3⟩ := ne_zero h0
  have hv := Fine.val (l := l) h1
  have h4 := op_rows (op := nmOp) (by rw [nmOp_nil]) hv (each_zero h2).1 r
  have h5 : nmE (jmps l r) = 0 := h4
  refine ⟨?_, h5⟩
  rw [h3, jmps_each (by rw [nmOp_nil]) hv]
  show nmR (jmps l r) = _
  unfold nmR
  rw [if_pos h5]
theorem ne_eqv {l : List Ed} (h0 : neE l = 0) : Eqv (neR l) l := fun r t ht => by
  rw [(ne_jmps h0 r).1]
  exact nmL_val _ (fun j hj => (Fine.row (ne_zero h0).1 r j hj).2) t ht
theorem ne_ats {l : List Ed} (h0 : neE l = 0) : ∀ e ∈ neR l, ∃ e' ∈ l, e'.2.1 = e.2.1 := fun e he => by
  have h1 : e.2 ∈ jmps (neR l) e.1 := jmps_mem.2 he
  rw [(ne_jmps h0 e.1).1] at h1
  obtain ⟨j, hj, h2⟩ := ((plc_mem _ _ _).1 (tell_mem _ _ _ _ h1).1).resolve_left (by simp)
  simp only [inF, List.mem_filter] at hj
  exact ⟨_, jmps_mem.1 hj.1, h2⟩
theorem eqv_ne {a b : List Ed} (ha : Fine a) (hb : Fine b) (h : Eqv a b) (h0 : neE a = 0) : neE b = 0 ∧ neR a = neR b := by
  obtain ⟨h1, h2, h3⟩ := ne_zero h0
  have hva := Fine.val ha
  have hvb := Fine.val hb
  have hL : ∀ r, nmL (jmps b r) = nmL (jmps a r) := fun r => one_form (nm_canon _) (nm_canon _) (nmL_lt _ fun j hj => (hb.row r j hj).2) (nmL_lt _ fun j hj => (ha.row r j hj).2) fun t ht => by
    rw [nmL_val _ (fun j hj => (hb.row r j hj).2) t ht, nmL_val _ (fun j hj => (ha.row r j hj).2) t ht]
    exact (h r t ht).symm
  have hE : ∀ r, nmE (jmps b r) = 0 := fun r => by
    have k := (ne_jmps h0 r).2
    have a1 : (jmps b r).any tooJ = false := List.any_eq_false.2 fun j hj => by rw [(hb.row r j hj).1]; decide
    have a2 : (jmps b r).any nowJ = false := List.any_eq_false.2 fun j hj => by rw [(hb.row r j hj).2]; decide
    have b1 : (jmps a r).any tooJ = false := List.any_eq_false.2 fun j hj => by rw [(ha.row r j hj).1]; decide
    have b2 : (jmps a r).any nowJ = false := List.any_eq_false.2 fun j hj => by rw [(ha.row r j hj).2]; decide
    unfold nmE at k ⊢
    rw [b1, b2, if_neg (by decide), if_neg (by decide)] at k
    rw [a1, a2, if_neg (by decide), if_neg (by decide), hL r]; exact k
  have hR : ∀ r, (nmOp (jmps b r)).2 = (nmOp (jmps a r)).2 := fun r => by
    show nmR (jmps b r) = nmR (jmps a r)
    unfold nmR
    rw [if_pos (hE r), if_pos (ne_jmps h0 r).2, hL r]
  have hev : evL nmOp (byRows b) = evL nmOp (byRows a) := ed_ext (rise_each nmOp hvb) (rise_each nmOp hva) fun r => by
    rw [jmps_each (by rw [nmOp_nil]) hvb, jmps_each (by rw [nmOp_nil]) hva, hR r]
  have he : evE nmOp (byRows b) = 0 := evE_ok fun g hg => by
    obtain ⟨r, -, rfl⟩ := List.mem_map.1 hg
    exact hE r
  have hea : eachE nmOp (byRows b) = 0 := by
    unfold eachE
    rw [if_pos he, hev, if_neg (by have := (each_zero h2).2.1; omega)]
  have hne : neE b = 0 := by rw [ne_ok hb]; exact hea
  exact ⟨hne, by rw [h3, (ne_zero hne).2.2, hev]⟩
theorem Eqv.app {a b c : List Ed} (h : Eqv a b) (c : List Ed) : Eqv (a ++ c) (b ++ c) := fun r t ht => by
  rw [jmps_append, jmps_append, jv_append, jv_append, h r t ht]
/-- What is known of an input, of what was put and of what was released. -/
structure SumI (c was : Int) (held put got : List Ed) (N : Nat) : Prop where
  c0 : 0 ≤ was ∧ was ≤ c ∧ c ≤ 1125899906842624
  ats : ∀ e ∈ held, was ≤ e.2.1 ∧ e.2.1 < 1125899906842624
  fh : Fine held
  fp : Fine put
  fg : Fine got
  eqv : Eqv put (got ++ held)
  lp : put.length ≤ N
  lg : got.length + held.length ≤ N
theorem SumI.start : SumI 0 0 [] [] [] 0 := ⟨by decide, by simp, by intro e h; simp at h, by intro e h; simp at h, by intro e h; simp at h, fun _ _ _ => rfl, Nat.le_refl _, Nat.le_refl _⟩
section
variable {c was : Int} {held put got : List Ed} {N : Nat}
theorem SumI.more (h : SumI c was held put got N) {M : Nat} (hm : N ≤ M) : SumI c was held put got M := ⟨h.c0, h.ats, h.fh, h.fp, h.fg, h.eqv, Nat.le_trans h.lp hm, Nat.le_trans h.lg hm⟩
theorem SumI.puts (h : SumI c was held put got N) {l : List Ed} (h0 : putE [(c, held)] 0 l = 0) : putX [(c, held)] 0 l = [(c, adR held l)] ∧ SumI c was (adR held l) (put ++ l) got (N + l.length) := by
  have hE : mayE l = true ∧ lateE c l = false ∧ adE held l = 0 := by
    unfold putE at h0
    rw [if_neg (by simp)] at h0
    cases hm : mayE l
    · rw [hm] at h0; cases h0
    · rw [hm] at h0
      simp at h0
      cases hl : lateE c l
      · rw [hl] at h0; exact ⟨rfl, rfl, by simpa using h0⟩
      · rw [hl] at h0; cases h0
  obtain ⟨hm, hl, ha⟩ := hE
  have hn : neE (held ++ l) = 0 ∧ adR held l = neR (held ++ l) := by
    have ha' := ha
    unfold adE at ha
    cases hb : (mayE held && mayE l)
    · rw [hb] at ha; cases ha
    · rw [hb, if_pos rfl] at ha
      exact ⟨ha, by unfold adR; rw [if_pos ha']⟩
  obtain ⟨hn, hr⟩ := hn
  have hfl : Fine l := may_fine hm
  have hmr := ne_may hn
  refine ⟨by unfold putX; rw [h0]; rfl, h.c0, fun e he => ?_, ?_, h.fp.app hfl, h.fg, fun r t ht => ?_, by rw [List.length_append]; have := h.lp; omega, ?_⟩
  · rw [hr] at he
    refine ⟨?_, ?_⟩
    · obtain ⟨e', he', e1⟩ := ne_ats hn e he
      rcases List.mem_append.1 he' with hh | hh
      · have := (h.ats e' hh).1; omega
      · have h5 := List.any_eq_false.1 hl e' hh
        unfold ahT at h5
        rw [decide_eq_true_iff] at h5
        have := h.c0
        omega
    · have := okJ_iff.1 ((mayE_doc.1 hmr).2.1 e he).2
      omega
  · rw [hr]; exact may_fine hmr
  · have k1 := h.eqv r t ht
    have k2 := ne_eqv hn r t ht
    rw [← hr] at k2
    rw [jmps_append, jv_append] at k1 k2
    rw [jmps_append, jmps_append, jv_append, jv_append, k1, k2]
    omega
  · have := ad_len held l
    have := h.lg
    omega
theorem SumI.raise (h : SumI c was held put got N) (t : Int) : ∃ c', raiX [(c, held)] 0 t = [(c', held)] ∧ SumI c' was held put got N := by
  by_cases h0 : raiE [(c, held)] 0 t = 0
  · refine ⟨t, by unfold raiX; rw [h0]; rfl, ?_⟩
    have : 0 ≤ t ∧ t ≤ 1125899906842624 ∧ c ≤ t := by
      unfold raiE at h0
      rw [if_neg (by simp)] at h0
      split at h0
      · cases h0
      · simp at h0
        omega
    exact ⟨by have := h.c0; omega, h.ats, h.fh, h.fp, h.fg, h.eqv, h.lp, h.lg⟩
  · exact ⟨c, by unfold raiX; rw [if_neg h0], h⟩
theorem SumI.last (h : SumI c was held put got N) : raiE [(c, held)] 0 1125899906842624 = 0 ∧ raiX [(c, held)] 0 1125899906842624 = [(1125899906842624, held)] ∧ SumI 1125899906842624 was held put got N := by
  have h0 : raiE [(c, held)] 0 1125899906842624 = 0 := by
    unfold raiE
    rw [if_neg (by simp), if_neg (by omega)]
    have := h.c0
    simp
    omega
  exact ⟨h0, by unfold raiX; rw [h0]; rfl, by have := h.c0; omega, h.ats, h.fh, h.fp, h.fg, h.eqv, h.lp, h.lg⟩
theorem clk_one (h : c ≤ 1125899906842624) : clkX [(c, held)] = c := by
  simp only [clkX, List.foldl_cons, List.foldl_nil]; omega
theorem SumI.release (h : SumI c was held put got N) : SumI c c (held.filter fun e => !ahT c e.2) put (got ++ held.filter fun e => ahT c e.2) N ∧ ∀ e ∈ held.filter fun e => ahT c e.2, was ≤ e.2.1 ∧ e.2.1 < c := by
  have hp := List.filter_append_perm (fun e : Ed => ahT c e.2) held
  refine ⟨⟨⟨Int.le_trans h.c0.1 h.c0.2.1, Int.le_refl _, h.c0.2.2⟩, fun e he => ?_, h.fh.sub fun e he => (List.mem_filter.1 he).1, h.fp, h.fg.app (h.fh.sub fun e he => (List.mem_filter.1 he).1), fun r t ht => ?_, h.lp, ?_⟩, fun e he => ?_⟩
  · obtain ⟨h1, h2⟩ := List.mem_filter.1 he
    unfold ahT at h2
    simp at h2
    exact ⟨h2, (h.ats e h1).2⟩
  · rw [h.eqv r t ht, List.append_assoc, jmps_append, jmps_append, jv_append, jv_append]
    rw [jv_perm (jmps_perm hp r) t]
  · have := hp.length_eq
    rw [List.length_append] at this
    rw [List.length_append]
    have := h.lg
    omega
  · obtain ⟨h1, h2⟩ := List.mem_filter.1 he
    unfold ahT at h2
    simp at h2
    exact ⟨(h.ats e h1).1, h2⟩
theorem SumI.none (h : SumI 1125899906842624 was held put got N) : held.filter (fun e => !ahT 1125899906842624 e.2) = [] := by
  apply List.filter_eq_nil_iff.2
  intro e he
  have := (h.ats e he).2
  unfold ahT
  simp
  exact this
end
end Go.Proofs.YtjmoifbajjemmaaGreat
set_option linter.unusedVariables false
set_option linter.unusedSimpArgs false
namespace Go.Proofs.YtjmoifbajjemmaaGreat
open Go.RowKit
theorem IA.app {w w' : World} {v v' : Value} {S : List Nat} {a ia : Nat} {st : List Hi} (h : IA w (ob v ++ S) a ia st) (hg : w.grownBy w' v.ownBlock) (hv : v'.ownBlock = v.ownBlock ∨ v'.ownBlock = some w.heap.size) (h1 : ia ∉ ob v) (hS : ia ∈ S) : IA w' (ob v' ++ S) a ia st := by
  have hF := fr_grown hg
  have ha : a ∉ ob v := fun m => h.2.2.1.1 (List.mem_append_left _ m)
  refine ⟨⟨h.1.1.fr hF ha, h.1.2.fr hF h1⟩, fun p hp => (h.2.1 p hp).appA hg hv, ⟨fun m => ?_, List.mem_append_right _ hS⟩, h.2.2.2⟩
  rcases List.mem_append.1 m with m | m
  · rcases hv with e | e
    · exact ha (by unfold ob at m ⊢; rwa [e] at m)
    · unfold ob at m; rw [e] at m
      have := h.1.1.lt
      simp at m; omega
  · exact h.2.2.1.1 (List.mem_append_right _ m)
theorem AL.app {w w' : World} {v v' : Value} {S : List Nat} {a ia : Nat} {X : List Xi} (h : AL w (ob v ++ S) a ia X) (hg : w.grownBy w' v.ownBlock) (hv : v'.ownBlock = v.ownBlock ∨ v'.ownBlock = some w.heap.size) (h1 : ia ∉ ob v) (hS : ia ∈ S) : AL w' (ob v' ++ S) a ia X := by
  obtain ⟨st, e1, e2⟩ := h
  exact ⟨st, e1, e2.app hg hv h1 hS⟩
theorem AL.less {w : World} {S S' : List Nat} {a ia : Nat} {X : List Xi} (h : AL w S a ia X) (hs : ∀ b, b ∈ S' → b ∈ S) (hi : ia ∈ S') : AL w S' a ia X := by
  obtain ⟨st, e1, e2⟩ := h
  exact ⟨st, e1, e2.1, fun p hp => (e2.2.1 p hp).less hs, ⟨fun m => e2.2.2.1.1 (hs _ m), hi⟩, e2.2.2.2⟩
/-- What was put, what was released: two slices of one's own, with rows that lie in neither, nor in an align. -/
structure PG (w : World) (B ia : Nat) (u5 u6 : Value) (L5 L6 : List Ve) : Prop where
  o5 : OwnE w B u5 L5
  o6 : OwnE w B u6 L6
  d : PairD u5 u6
  r5 : ∀ p ∈ L5, Rw w (ob u5 ++ (ob u6 ++ [ia])) p.1 p.2.1
  r6 : ∀ p ∈ L6, Rw w (ob u5 ++ (ob u6 ++ [ia])) p.1 p.2.1
section
variable {w w' : World} {B a ia : Nat} {u5 u6 v v' : Value} {L5 L6 M : List Ve} {X : List Xi}
theorem perm3 {x y : Value} : ∀ b, b ∈ ob y ++ (ob x ++ [ia]) → b ∈ ob x ++ (ob y ++ [ia]) := by
  intro b hb
  simp only [List.mem_append] at hb ⊢
  rcases hb with h | h | h
  · exact .inr (.inl h)
  · exact .inl h
  · exact .inr (.inr h)
theorem PG.ext (h : PG w B ia u5 u6 L5 L6) (k : Ext w w') : PG w' B ia u5 u6 L5 L6 := ⟨own_ext h.o5 k, own_ext h.o6 k, h.d, fun p hp => Sl.ext (h.r5 p hp) k, fun p hp => Sl.ext (h.r6 p hp) k⟩
theorem PG.fr (h : PG w B ia u5 u6 L5 L6) (k : Fr [ia] w w') (hB : ia < B) : PG w' B ia u5 u6 L5 L6 := by
  have hm : ∀ b, b ∈ [ia] → b ∈ ob u5 ++ (ob u6 ++ [ia]) := fun b hb => List.mem_append_right _ (List.mem_append_right _ hb)
  refine ⟨own_keepA h.o5 fun g hg => ?_, own_keepA h.o6 fun g hg => ?_, h.d, fun p hp => Sl.fr (h.r5 p hp) k hm, fun p hp => Sl.fr (h.r6 p hp) k hm⟩
  · have := h.o5.lt g hg; exact k.block g this.2 (by simp; omega)
  · have := h.o6.lt g hg; exact k.block g this.2 (by simp; omega)
theorem PG.ge (h : PG w B ia u5 u6 L5 L6) : ∀ b, b ∈ ob u5 ++ ob u6 → B ≤ b ∧ b < w.heap.size := fun b hb => (List.mem_append.1 hb).elim (ob_ge h.o5 b) (ob_ge h.o6 b)
theorem PG.app5 (h : PG w B ia u5 u6 L5 L6) (hA : AL w (ob u5 ++ (ob u6 ++ [ia])) a ia X) (hM : Ew w (ob u5 ++ (ob u6 ++ [ia])) v M) (hB : ia < B) (ho : w'.ownsRow B 44 3 v' (L5.length + M.length) (ec L5 ++ ec M)) (hg : w.grownBy w' u5.ownBlock) (hv : v'.ownBlock = u5.ownBlock ∨ v'.ownBlock = some w.heap.size) :
    PG w' B ia v' u6 (L5 ++ M) L6 ∧ AL w' (ob v' ++ (ob u6 ++ [ia])) a ia X := by
  have ht := two_growA h.o5 h.o6 h.d hg hv
  have n1 : ia ∉ ob u5 := fun m => by have := (ob_ge h.o5 ia m).1; omega
  refine ⟨⟨own_appE ho, ht.1, ht.2, fun p hp => ?_, fun p hp => sl_appA (h.r6 p hp) (fun k hk => List.mem_append_left _ hk) (fun k hk => List.mem_append_right _ hk) hg hv⟩, hA.app hg hv n1 (by simp)⟩
  rcases List.mem_append.1 hp with hp | hp
  · exact sl_appA (h.r5 p hp) (fun k hk => List.mem_append_left _ hk) (fun k hk => List.mem_append_right _ hk) hg hv
  · exact sl_appA (hM.2 p hp) (fun k hk => List.mem_append_left _ hk) (fun k hk => List.mem_append_right _ hk) hg hv
theorem PG.app6 (h : PG w B ia u5 u6 L5 L6) (hA : AL w (ob u5 ++ (ob u6 ++ [ia])) a ia X) (hM : Ew w (ob u5 ++ (ob u6 ++ [ia])) v M) (hB : ia < B) (ho : w'.ownsRow B 44 3 v' (L6.length + M.length) (ec L6 ++ ec M)) (hg : w.grownBy w' u6.ownBlock) (hv : v'.ownBlock = u6.ownBlock ∨ v'.ownBlock = some w.heap.size) :
    PG w' B ia u5 v' L5 (L6 ++ M) ∧ AL w' (ob u5 ++ (ob v' ++ [ia])) a ia X := by
  have ht := two_growA h.o6 h.o5 h.d.swap hg hv
  have n1 : ia ∉ ob u6 := fun m => by have := (ob_ge h.o6 ia m).1; omega
  have hr : ∀ {p : Ve}, Rw w (ob u5 ++ (ob u6 ++ [ia])) p.1 p.2.1 → Rw w' (ob u5 ++ (ob v' ++ [ia])) p.1 p.2.1 := fun {p} hp =>
    Sl.less (sl_appA (v := u6) (v' := v') (S' := ob u5 ++ [ia]) (Sl.less hp perm3) (fun k hk => List.mem_append_left _ hk) (fun k hk => List.mem_append_right _ hk) hg hv) perm3
  refine ⟨⟨ht.1, own_appE ho, PairD.swap ht.2, fun p hp => hr (h.r5 p hp), fun p hp => ?_⟩, ((hA.less perm3 (by simp)).app hg hv n1 (by simp)).less perm3 (by simp)⟩
  rcases List.mem_append.1 hp with hp | hp
  · exact hr (h.r6 p hp)
  · exact hr (hM.2 p hp)
theorem PG.ew5 (h : PG w B ia u5 u6 L5 L6) : Ew w [] u5 L5 := ⟨Sl.own h.o5 (by simp), fun p hp => Sl.less (h.r5 p hp) (by simp)⟩
theorem PG.ew6 (h : PG w B ia u5 u6 L5 L6) : Ew w [] u6 L6 := ⟨Sl.own h.o6 (by simp), fun p hp => Sl.less (h.r6 p hp) (by simp)⟩
theorem PG.size (h : PG w B ia u5 u6 L5 L6) (hA : AL w (ob u5 ++ (ob u6 ++ [ia])) a ia X) : ∀ b, b ∈ ob u5 ++ (ob u6 ++ [ia]) → b < w.heap.size := fun b hb => by
  simp only [List.mem_append, List.mem_singleton] at hb
  rcases hb with hb | hb | hb
  · exact (ob_ge h.o5 b hb).2
  · exact (ob_ge h.o6 b hb).2
  · rw [hb]; exact hA.lt.2
end
theorem one_H {H : List (Value × List Ve)} {a : List Ed} (h : H.map (fun p => eds p.2) = [a]) : ∃ v1 l1, H = [(v1, l1)] ∧ eds l1 = a := by
  match H, h with
  | [(x, p)], h => simp at h; exact ⟨x, p, rfl, h⟩
theorem lRel1_c (S : List Nat) (a ia : Nat) (c : Int) (held : List Ed) (hc : c ≤ 1125899906842624) (hN : held.length ≤ 1000000000) (w : World) (h : AL w S a ia [(c, held)]) (hS : ∀ b, b ∈ S → b < w.heap.size) : Calls Tryz.prog 9 #[.pointer (some ⟨a, 0, none⟩)] w fun e w' => ∃ b o xc EA ecap l1, e = .returned (.slice (some ⟨b, o, none⟩) 1 xc) ∧ (eds l1 = held.filter (fun e => ahT c e.2) ∧ w'.cell? ⟨b, o, none⟩ = some (.slice EA l1.length ecap) ∧ Ew w' S (.slice EA l1.length ecap) l1) ∧ AL w' S a ia [(c, held.filter fun e => !ahT c e.2)] ∧ Fr [ia] w w' := by
  have := lRelease_c S a ia [(c, held)] (by simp) (by simpa using hN) w h hS
  rw [clk_one hc] at this
  refine this.mono fun e w' hr => ?_
  obtain ⟨v, H, rfl, hH, hM, hA, hF⟩ := hr
  obtain ⟨x1, l1, rfl, hl1⟩ := one_H (show H.map (fun p => eds p.2) = [held.filter fun e => ahT c e.2] from hH)
  obtain ⟨A, cap, rfl, -, -, hat⟩ := mt_form hM
  obtain ⟨b, o, rfl, -, -, c0⟩ := hat 0 _ rfl
  have hew := hM.2 _ (List.mem_cons_self ..)
  simp only at hew c0
  obtain ⟨EA, ecap, rfl⟩ := ew_one hew
  exact ⟨b, o, cap, EA, ecap, l1, rfl, ⟨hl1, c0, hew⟩, hA, hF⟩
end Go.Proofs.YtjmoifbajjemmaaGreat
