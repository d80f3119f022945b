/-
  A helper of ours: no claim of its own. Layer 14 (past): events' pointers deleted, by the library's Delete.
-/
import Derived.Test.YtajelkkiijdegaaGreatPasI
set_option linter.unusedVariables false
set_option linter.unusedSimpArgs false
namespace Go.Proofs.YtajelkkiijdegaaGreat
open Go.RowKit Go.Shelf Go.Lib
attribute [local go_sem] GW.cell GW.frozen In.eq_true In.le_true In.ne In.ne' In.ne_add In.ne_add' In.lt_add Upto.le_true Upto.le_add Upto.lt_add
theorem pzero_cells (n : Nat) : (Builtin.zeroCells (Value.pointer none).cells n).toList = List.replicate n (.pointer none) := by
  have hs : (Value.pointer none).cells = #[.pointer none] := rfl
  rw [hs]
  unfold Builtin.zeroCells
  apply List.ext_getElem
  · simp
  · intro i h1 h2
    simp [Nat.mod_one]
theorem psets_past (xs vs : List Value) (o : Nat) (h : xs.length ≤ o) : psets xs o vs = xs := by
  apply List.ext_getElem?
  intro i
  rw [psets_get]
  split
  · omega
  · rfl
theorem psets_del (l : List Nat) (p : Nat) (hp : p < l.length) : (psets (tg1 l) p (tg1 (l.drop (p + 1)))).take (l.length - 1) = tg1 (l.take p ++ l.drop (p + 1)) := by
  have hd : (tg1 (l.drop (p + 1))).length = l.length - (p + 1) := by rw [tg1_length, List.length_drop]
  apply List.ext_getElem?
  intro i
  have ht : (tg1 (l.take p)).length = p := by rw [tg1_length, List.length_take, Nat.min_eq_left (by omega)]
  rw [List.getElem?_take, psets_get, tg1_app, List.getElem?_append, ht, hd, tg1_length, ← tg1_take]
  by_cases h1 : i < p
  · rw [if_pos (by omega), if_neg (by omega), if_pos h1, List.getElem?_take, if_pos h1]
  · rw [if_neg h1]
    by_cases h2 : i < l.length - 1
    · rw [if_pos h2, if_pos (by omega)]
    · rw [if_neg h2, List.getElem?_eq_none (by rw [hd]; omega)]
theorem psets_cut (l : List Nat) (c : Nat) (hc : c ≤ l.length) : (psets (tg1 l) 0 (tg1 (l.drop c))).take (l.length - c) = tg1 (l.drop c) := by
  have hd : (tg1 (l.drop c)).length = l.length - c := by rw [tg1_length, List.length_drop]
  apply List.ext_getElem?
  intro i
  rw [List.getElem?_take, psets_get, hd, tg1_length]
  by_cases h2 : i < l.length - c
  · rw [if_pos h2, if_pos (by omega), Nat.sub_zero]
  · rw [if_neg h2, List.getElem?_eq_none (by rw [hd]; omega)]
set_option maxHeartbeats 8000000 in
set_option maxRecDepth 1000000 in
theorem pdel1_c (base g cap p : Nat) (l : List Nat) (w : World) (h : w.ownsRow base 103 1 (.slice (some ⟨g, 0, none⟩) l.length cap) l.length (tg1 l)) (hp : p < l.length) (hn : l.length ≤ 1048576) :
    Calls Tryz.prog 148 #[.slice (some ⟨g, 0, none⟩) l.length cap, .int .i64 p, .int .i64 ((p : Int) + 1)] w fun e w' =>
      e = .returned (.slice (some ⟨g, 0, none⟩) ((l.length - 1 : Nat)) cap) ∧ w'.ownsRow base 103 1 (.slice (some ⟨g, 0, none⟩) ((l.length - 1 : Nat)) cap) (l.length - 1) (tg1 (l.take p ++ l.drop (p + 1))) ∧ Fr [g] w w' := by
  have hcap : l.length ≤ cap ∧ cap ≤ 9223372036854775807 := by
    rcases h.2 with ⟨h', _⟩ | ⟨g', cap', cur, h', hb, hg, hnc, hcm, hcs, htake⟩
    · simp at h'
    · simp only [Value.slice.injEq] at h'
      obtain ⟨_, _, rfl⟩ := h'
      unfold maxLen at hcm
      exact ⟨hnc, by omega⟩
  obtain ⟨hc1, hc2⟩ := hcap
  obtain ⟨n, hnl⟩ : ∃ n, n = l.length := ⟨_, rfl⟩
  obtain ⟨news, hnews⟩ : ∃ news, news = tg1 (l.drop (p + 1)) := ⟨_, rfl⟩
  have hlen : news.length = (n - (p + 1)) := by rw [hnews, tg1_length, List.length_drop, hnl]
  rw [← hnl] at h hp hn hc1 ⊢
  have hcell := World.ownsRow.cellAt h
  have hfr := World.ownsRow.frozenAt h
  have hgl := (World.ownsRow.lt h g rfl).2
  have hone := tg1_one l
  have hmem : ∀ u ∈ news, u ∈ tg1 l := by
    intro u hu
    rw [hnews, ← tg1_drop] at hu
    exact List.mem_of_mem_drop hu
  have hget : ∀ t, t < news.length → w.cell? ⟨g, (p + 1) + t, none⟩ = news[t]? := by
    intro t ht
    rw [hcell _ (by omega), hnews, ← tg1_drop, List.getElem?_drop]
  obtain ⟨A, hA, hsrc⟩ : ∃ A : Addr, (if cap = p + 1 then some (⟨g, 0, none⟩ : Addr) else some ⟨g, (p + 1), none⟩) = some A ∧ Hid (∀ t u, news[t]? = some u → w.drew.cell? (A.add t) = some u) := by
    by_cases hx : cap = p + 1
    · refine ⟨⟨g, 0, none⟩, by simp [hx], fun t u hu => ?_⟩
      have h0 : news.length = 0 := by rw [hlen]; omega
      rw [List.length_eq_zero_iff.1 h0] at hu
      simp at hu
    · refine ⟨⟨g, (p + 1), none⟩, by simp [hx], fun t u hu => ?_⟩
      have ht := (List.getElem?_eq_some_iff.1 hu).1
      rw [add_plain]
      exact (hget t ht).trans hu
  have s1 : Hid (news.length = (n - (p + 1)) * 1) := by show _ = _; rw [Nat.mul_one]; exact hlen
  have s2 : Hid (∀ u ∈ news, u.oneCell' = true) := fun u hu => hone u (hmem u hu)
  have s3 : Hid (∀ t, t < news.length → (w.drew.cell? ⟨g, 0 + p * 1 + t, none⟩).isSome = true ∧ w.drew.frozen? ⟨g, 0 + p * 1 + t, none⟩ = false) := by
    intro t ht
    rw [Nat.zero_add, Nat.mul_one]
    refine ⟨?_, hfr _⟩
    show (w.cell? _).isSome = true
    rw [hcell _ (by omega), List.getElem?_eq_getElem (by rw [tg1_length]; omega)]
    rfl
  obtain ⟨W1, hW1⟩ : ∃ W1, W1 = w.drew.setCells g (0 + p * 1) news := ⟨_, rfl⟩
  have hD : w.drew.ownsRow base 103 1 (.slice (some ⟨g, 0, none⟩) n cap) n (tg1 l) := h
  have hO1 : W1.ownsRow base 103 1 (.slice (some ⟨g, 0, none⟩) n cap) n (psets (tg1 l) (p) news) := by
    rw [hW1, Nat.zero_add, Nat.mul_one]; exact pown_sets _ _ _ _ hD
  have hF1 : Fr [g] w W1 := by rw [hW1]; exact pfr_setCells (by simp) _ _ _ (Fr.refl _ w).drew
  have hcell1 := World.ownsRow.cellAt hO1
  have hfr1 := World.ownsRow.frozenAt hO1
  obtain ⟨W2, hW2⟩ : ∃ W2, W2 = W1.setCells g ((n - 1)) [.pointer none] := ⟨_, rfl⟩
  have hcl : ∀ ty, (Builtin.clear_ #[89] ty #[.slice (some ⟨g, (n - 1), none⟩) (n - (n - 1)) (cap - (n - 1))]).run Tryz.prog W1 = .ok (.tuple #[]) W2 := fun ty => by
    rw [hW2, show n - (n - 1) = 1 by omega]
    refine pmrun_clear W1 _ _ ty (.pointer none) _ Tryz.underlying89 Tryz.zeroValue103 g ((n - 1)) 1 (cap - (n - 1)) (by omega) (by first | kernel_rfl | rfl | simp [Builtin.zeroCells, Value.cells] | decide) ?_ (fun i hi => ?_) (fun i hi => hfr1 _)
    · intro u hu
      simp at hu
      subst hu
      rfl
    · simp only [List.length_cons, List.length_nil] at hi
      rw [hcell1 _ (by omega), List.getElem?_eq_getElem (by rw [psets_length, tg1_length]; omega)]
      rfl
  have hO2 : Hid (W2.ownsRow base 103 1 (.slice (some ⟨g, 0, none⟩) ((n - 1 : Nat)) cap) (n - 1) (tg1 (l.take p ++ l.drop (p + 1)))) := by
    have ht := pmown_take hO1 (i := n - 1) (by omega)
    rw [Nat.mul_one] at ht
    have hsd := psets_del l p (by omega)
    rw [← hnl, ← hnews] at hsd
    rw [hsd] at ht
    show W2.ownsRow _ _ _ _ _ _
    have := pown_sets [.pointer none] ((n - 1)) _ W1 ht
    rw [hW2]
    have hlt : (tg1 (l.take p ++ l.drop (p + 1))).length = (n - 1) := by rw [tg1_length, List.length_append, List.length_take, List.length_drop]; omega
    rwa [psets_past _ _ _ (by rw [hlt]; exact Nat.le_refl _)] at this
  have hF2 : Hid (Fr [g] w W2) := by rw [hW2]; exact pfr_setCells (by simp) _ _ _ hF1
  replace hW1 := hide hW1
  replace hW2 := hide hW2
  have hpI : (p : Int) + 1 ≤ n := by omega
  have hcI : (n : Int) ≤ cap := by omega
  have hne : ¬ (p : Int) = (p : Int) + 1 := by omega
  have hneb : ((p : Int) == (p : Int) + 1) = false := by rw [beq_eq_false_iff_ne]; exact hne
  have hnn : n ≤ 1048576 := by omega
  have hic : p ≤ cap := by omega
  have hjc : p + 1 ≤ cap := by omega
  have hpn1 : p + 1 ≤ n := by omega
  have hp10 : (0 : Int) ≤ (p : Int) + 1 := by omega
  have mixed : Tryz.prog.follows .mixedOrders = true := by kernel_rfl
  clear hcell hfr hone hmem hget hlen hD hO1 hF1 hcell1 hfr1 h hn hp hnews hnl
  have hen : p + (n - (p + 1)) = n - 1 := by omega
  have hEn : Hid (p + (n - (p + 1)) = n - 1) := hen
  rw [← hen] at hcl
  have hm1 : p + (n - (p + 1)) ≤ n := by omega
  have hm2 : ¬ cap = p + (n - (p + 1)) := by omega
  have hm3 : p + (n - (p + 1)) ≤ cap := by omega
  have hgW : g < W2.heap.size := (World.ownsRow.lt hO2.out g rfl).2
  clear hen
  haveI : In g w := ⟨hgl⟩
  obtain ⟨i0, hi0, -, hz2, -⟩ := tPev.info
  go_enter Tryz.func148, Tryz.ntmps148
  go_wp2_with fail
  go_region_law_o (refine step_append_room rfl (.tmp 22) (.tmp 25) 89 rfl 103 i0 1 Tryz.underlying89 hi0 hz2 g 0 p cap (by simp [Act.eval, Act.put]) A (n - (p + 1)) (cap - (p + 1)) news (by simp [Act.eval, Act.put, hA]) s1.out hsrc.out s2.out (by omega) s3.out ?_; rw [← hW1.out])
  go_wp2
  go_returns
  exact ⟨by rw [hEn.out]; rfl, hO2.out, hF2.out⟩
set_option maxHeartbeats 8000000 in
set_option maxRecDepth 1000000 in
theorem pdelA_c (base g cap c : Nat) (l : List Nat) (w : World) (h : w.ownsRow base 103 1 (.slice (some ⟨g, 0, none⟩) l.length cap) l.length (tg1 l)) (hp : 0 < c) (hcn : c ≤ l.length) (hn : l.length ≤ 1048576) :
    Calls Tryz.prog 148 #[.slice (some ⟨g, 0, none⟩) l.length cap, .int .i64 0, .int .i64 (c : Int)] w fun e w' =>
      e = .returned (.slice (some ⟨g, 0, none⟩) ((l.length - c : Nat)) cap) ∧ w'.ownsRow base 103 1 (.slice (some ⟨g, 0, none⟩) ((l.length - c : Nat)) cap) (l.length - c) (tg1 (l.drop c)) ∧ Fr [g] w w' := by
  have hcap : l.length ≤ cap ∧ cap ≤ 9223372036854775807 := by
    rcases h.2 with ⟨h', _⟩ | ⟨g', cap', cur, h', hb, hg, hnc, hcm, hcs, htake⟩
    · simp at h'
    · simp only [Value.slice.injEq] at h'
      obtain ⟨_, _, rfl⟩ := h'
      unfold maxLen at hcm
      exact ⟨hnc, by omega⟩
  obtain ⟨hc1, hc2⟩ := hcap
  obtain ⟨n, hnl⟩ : ∃ n, n = l.length := ⟨_, rfl⟩
  obtain ⟨news, hnews⟩ : ∃ news, news = tg1 (l.drop c) := ⟨_, rfl⟩
  have hlen : news.length = (n - c) := by rw [hnews, tg1_length, List.length_drop, hnl]
  rw [← hnl] at h hcn hn hc1 ⊢
  have hcell := World.ownsRow.cellAt h
  have hfr := World.ownsRow.frozenAt h
  have hgl := (World.ownsRow.lt h g rfl).2
  have hone := tg1_one l
  have hmem : ∀ u ∈ news, u ∈ tg1 l := by
    intro u hu
    rw [hnews, ← tg1_drop] at hu
    exact List.mem_of_mem_drop hu
  have hget : ∀ t, t < news.length → w.cell? ⟨g, c + t, none⟩ = news[t]? := by
    intro t ht
    rw [hcell _ (by omega), hnews, ← tg1_drop, List.getElem?_drop]
  obtain ⟨A, hA, hsrc⟩ : ∃ A : Addr, (if cap = c then some (⟨g, 0, none⟩ : Addr) else some ⟨g, c, none⟩) = some A ∧ Hid (∀ t u, news[t]? = some u → w.drew.cell? (A.add t) = some u) := by
    by_cases hx : cap = c
    · refine ⟨⟨g, 0, none⟩, by simp [hx], fun t u hu => ?_⟩
      have h0 : news.length = 0 := by rw [hlen]; omega
      rw [List.length_eq_zero_iff.1 h0] at hu
      simp at hu
    · refine ⟨⟨g, c, none⟩, by simp [hx], fun t u hu => ?_⟩
      have ht := (List.getElem?_eq_some_iff.1 hu).1
      rw [add_plain]
      exact (hget t ht).trans hu
  have s1 : Hid (news.length = (n - c) * 1) := by show _ = _; rw [Nat.mul_one]; exact hlen
  have s2 : Hid (∀ u ∈ news, u.oneCell' = true) := fun u hu => hone u (hmem u hu)
  have s3 : Hid (∀ t, t < news.length → (w.drew.cell? ⟨g, 0 + 0 * 1 + t, none⟩).isSome = true ∧ w.drew.frozen? ⟨g, 0 + 0 * 1 + t, none⟩ = false) := by
    intro t ht
    rw [Nat.zero_add]
    refine ⟨?_, hfr _⟩
    show (w.cell? _).isSome = true
    rw [hcell _ (by omega), List.getElem?_eq_getElem (by rw [tg1_length]; omega)]
    rfl
  obtain ⟨W1, hW1⟩ : ∃ W1, W1 = w.drew.setCells g (0 + 0 * 1) news := ⟨_, rfl⟩
  have hD : w.drew.ownsRow base 103 1 (.slice (some ⟨g, 0, none⟩) n cap) n (tg1 l) := h
  have hO1 : W1.ownsRow base 103 1 (.slice (some ⟨g, 0, none⟩) n cap) n (psets (tg1 l) (0) news) := by
    rw [hW1, Nat.zero_add, Nat.mul_one]; exact pown_sets _ _ _ _ hD
  have hF1 : Fr [g] w W1 := by rw [hW1]; exact pfr_setCells (by simp) _ _ _ (Fr.refl _ w).drew
  have hcell1 := World.ownsRow.cellAt hO1
  have hfr1 := World.ownsRow.frozenAt hO1
  obtain ⟨W2, hW2⟩ : ∃ W2, W2 = W1.setCells g ((n - c)) (List.replicate c (.pointer none)) := ⟨_, rfl⟩
  have hcl : ∀ ty, (Builtin.clear_ #[89] ty #[.slice (some ⟨g, (n - c), none⟩) (n - (n - c)) (cap - (n - c))]).run Tryz.prog W1 = .ok (.tuple #[]) W2 := fun ty => by
    rw [hW2, show n - (n - c) = c by omega]
    refine pmrun_clear W1 _ _ ty (.pointer none) _ Tryz.underlying89 Tryz.zeroValue103 g ((n - c)) c (cap - (n - c)) (by omega) (pzero_cells c) ?_ (fun i hi => ?_) (fun i hi => hfr1 _)
    · intro u hu
      rw [List.eq_of_mem_replicate hu]
      rfl
    · simp only [List.length_replicate] at hi
      rw [hcell1 _ (by omega), List.getElem?_eq_getElem (by rw [psets_length, tg1_length]; omega)]
      rfl
  have hO2 : Hid (W2.ownsRow base 103 1 (.slice (some ⟨g, 0, none⟩) ((n - c : Nat)) cap) (n - c) (tg1 (l.drop c))) := by
    have ht := pmown_take hO1 (i := n - c) (by omega)
    rw [Nat.mul_one] at ht
    have hsd := psets_cut l c (by omega)
    rw [← hnl, ← hnews] at hsd
    rw [hsd] at ht
    show W2.ownsRow _ _ _ _ _ _
    have := pown_sets (List.replicate c (.pointer none)) ((n - c)) _ W1 ht
    rw [hW2]
    have hlt : (tg1 (l.drop c)).length = (n - c) := by rw [tg1_length, List.length_drop]; omega
    rw [psets_past _ _ _ (by rw [hlen]; exact Nat.le_refl _)] at this
    rw [← hnews]
    exact this
  have hF2 : Hid (Fr [g] w W2) := by rw [hW2]; exact pfr_setCells (by simp) _ _ _ hF1
  replace hW1 := hide hW1
  replace hW2 := hide hW2
  have hpI : (c : Int) ≤ n := by omega
  have hcI : (n : Int) ≤ cap := by omega
  have hne : ¬ (0 : Int) = (c : Int) := by omega
  have hneb : ((0 : Int) == (c : Int)) = false := by rw [beq_eq_false_iff_ne]; exact hne
  have hnn : n ≤ 1048576 := by omega
  have hic : 0 ≤ cap := by omega
  have hjc : c ≤ cap := by omega
  have hpn1 : c ≤ n := by omega
  have hp10 : (0 : Int) ≤ (c : Int) := by omega
  have mixed : Tryz.prog.follows .mixedOrders = true := by kernel_rfl
  clear hcell hfr hone hmem hget hlen hD hO1 hF1 hcell1 hfr1 h hn hp hnews hnl
  have hen : 0 + (n - c) = n - c := by omega
  have hEn : Hid (0 + (n - c) = n - c) := hen
  have hm1 : n - c ≤ n := by omega
  have hm2 : ¬ cap = n - c := by omega
  have hm3 : n - c ≤ cap := by omega
  have hgW : g < W2.heap.size := (World.ownsRow.lt hO2.out g rfl).2
  clear hen
  haveI : In g w := ⟨hgl⟩
  obtain ⟨i0, hi0, -, hz2, -⟩ := tPev.info
  go_enter Tryz.func148, Tryz.ntmps148
  go_wp2_with fail
  go_region_law_o (refine step_append_room rfl (.tmp 22) (.tmp 25) 89 rfl 103 i0 1 Tryz.underlying89 hi0 hz2 g 0 0 cap (by simp [Act.eval, Act.put]) A (n - c) (cap - c) news (by simp [Act.eval, Act.put, hA]) s1.out hsrc.out s2.out (by omega) s3.out ?_; rw [← hW1.out])
  go_wp2
  go_returns
  exact ⟨rfl, hO2.out, hF2.out⟩
end Go.Proofs.YtajelkkiijdegaaGreat
