/-
  A helper of ours: no claim of its own. Layer 24 (multi): one thing deleted in place, by the library's Delete.
-/
import Derived.Test.YtnneicdphlidhaaMulC
import Derived.Deep.RegionLaw
import Derived.Lib.SliceRun
import Derived.Shelf.RegionOpenPlain
set_option linter.unusedVariables false
set_option linter.unusedSimpArgs false
namespace Go.Proofs.Ytnneicdphlidhaa
open Go.RowKit
attribute [local go_sem] GW.cell GW.frozen In.eq_true In.le_true In.ne In.ne' In.ne_add In.ne_add' In.lt_add Upto.le_true Upto.le_add Upto.lt_add
theorem mrun_clear {P : Program} (w : World) (t e ty : TypeId) (z : Value) (zs : List Value) (ht : P.underlying t = some (.slice e)) (hv : ∀ w, (zeroValue e).run P w = .ok z w) (b o n c : Nat) (hn : 0 < n) (hz : (Builtin.zeroCells z.cells n).toList = zs) (h1 : ∀ v ∈ zs, v.oneCell' = true)
    (hc : ∀ j, j < zs.length → (w.cell? ⟨b, o + j, none⟩).isSome = true) (hf : ∀ j, j < zs.length → w.frozen? ⟨b, o + j, none⟩ = false) :
    (Builtin.clear_ #[t] ty #[.slice (some ⟨b, o, none⟩) n c]).run P w = .ok (.tuple #[]) (w.setCells b o zs) := by
  have hst := run_storeCells_cells (P := P) b o zs 0 w (by simpa using hc) (by simpa using hf) h1
  simp only [Nat.add_zero] at hst
  obtain ⟨m, rfl⟩ : ∃ m, n = m + 1 := ⟨n - 1, by omega⟩
  simp [Builtin.clear_, run_underlying ht, hv, hz, hst]
theorem tThing : ElemT Try.prog 63 69 (.agg #[.int .i64 0, .int .i64 0]) 2 16 := ElemT.mk' Try.underlying63 (by kernel_rfl) rfl (by omega)
theorem mown_take {w : World} {B e : Nat} {g n i cap size : Nat} {xs : List Value} (h : w.ownsRow B e size (.slice (some ⟨g, 0, none⟩) n cap) n xs) (hi : i ≤ n) : w.ownsRow B e size (.slice (some ⟨g, 0, none⟩) i cap) i (xs.take (i * size)) := by
  rcases h.2 with ⟨h', _⟩ | ⟨g', cap', cur, h', hb, hg, hnc, hcm, hcs, htake⟩
  · simp at h'
  · simp only [Value.slice.injEq, Option.some.injEq, Addr.mk.injEq, and_true, true_and] at h'
    obtain ⟨rfl, rfl⟩ := h'
    have hm : i * size ≤ n * size := Nat.mul_le_mul_right _ hi
    refine ⟨by rw [List.length_take, h.1, Nat.min_eq_left hm], .inr ⟨g, cap, cur, rfl, hb, hg, by omega, hcm, hcs, ?_⟩⟩
    rw [← htake, List.take_take, Nat.min_eq_left hm]
/-- A list in which others are laid, from place o on. -/
def sets {α : Type} : List α → Nat → List α → List α
  | xs, _, [] => xs
  | xs, o, v :: r => sets (xs.set o v) (o + 1) r
theorem sets_get {α : Type} : ∀ (vs : List α) (xs : List α) (o i : Nat), (sets xs o vs)[i]? = if o ≤ i ∧ i < o + vs.length ∧ i < xs.length then vs[i - o]? else xs[i]?
  | [], xs, o, i => by rw [sets, if_neg]; simp; omega
  | v :: r, xs, o, i => by
    rw [sets, sets_get r (xs.set o v) (o + 1) i, List.length_set, List.getElem?_set]
    by_cases h0 : o = i
    · subst h0
      rw [if_neg (by omega), if_pos rfl]
      by_cases h1 : o < xs.length
      · rw [if_pos h1, if_pos ⟨Nat.le_refl _, by simp, h1⟩]; simp
      · rw [if_neg h1, if_neg (by omega), List.getElem?_eq_none (by omega)]
    · rw [if_neg h0]
      by_cases h1 : o + 1 ≤ i ∧ i < o + 1 + r.length ∧ i < xs.length
      · rw [if_pos h1, if_pos ⟨by omega, by simp; omega, h1.2.2⟩]
        obtain ⟨d, rfl⟩ : ∃ d, i = o + 1 + d := ⟨i - (o + 1), by omega⟩
        rw [show o + 1 + d - (o + 1) = d by omega, show o + 1 + d - o = d + 1 by omega, List.getElem?_cons_succ]
      · rw [if_neg h1, if_neg (by simp; omega)]
theorem sets_length {α : Type} : ∀ (vs : List α) (xs : List α) (o : Nat), (sets xs o vs).length = xs.length
  | [], _, _ => rfl
  | v :: r, xs, o => by rw [sets, sets_length r, List.length_set]
/-- Cells stored in a row of one's own. -/
theorem own_sets {B e : Nat} {g n cap size : Nat} : ∀ (vs : List Value) (o : Nat) (xs : List Value) (w : World), w.ownsRow B e size (.slice (some ⟨g, 0, none⟩) n cap) n xs → (w.setCells g o vs).ownsRow B e size (.slice (some ⟨g, 0, none⟩) n cap) n (sets xs o vs)
  | [], _, _, _, h => h
  | v :: r, o, xs, w, h => own_sets r (o + 1) _ _ (World.ownsRow.stored h o v).1
theorem fr_setCells {S : List Nat} {W : World} {g : Nat} (hg : g ∈ S) : ∀ (vs : List Value) (o : Nat) (w : World), Fr S W w → Fr S W (w.setCells g o vs)
  | [], _, _, h => h
  | v :: r, o, w, h => fr_setCells hg r (o + 1) _ (h.setCell _ v (.inl hg))
theorem tgs_take : ∀ (l : List Tg) (k : Nat), (tgs l).take (k * 2) = tgs (l.take k)
  | [], k => by simp [tgs]
  | p :: r, 0 => by simp [tgs]
  | p :: r, k + 1 => by
    rw [show tgs (p :: r) = [.int .i64 p.1, .int .i64 p.2] ++ tgs r from rfl, List.take_succ_cons, show tgs (p :: r.take k) = [.int .i64 p.1, .int .i64 p.2] ++ tgs (r.take k) from rfl, ← tgs_take r k, show (k + 1) * 2 = k * 2 + 2 by omega]
    rfl
theorem tgs_drop : ∀ (l : List Tg) (k : Nat), (tgs l).drop (k * 2) = tgs (l.drop k)
  | [], k => by simp [tgs]
  | p :: r, 0 => by simp [tgs]
  | p :: r, k + 1 => by
    rw [show tgs (p :: r) = [.int .i64 p.1, .int .i64 p.2] ++ tgs r from rfl, List.drop_succ_cons, ← tgs_drop r k, show (k + 1) * 2 = k * 2 + 2 by omega]
    rfl
theorem tgs_app (a b : List Tg) : tgs (a ++ b) = tgs a ++ tgs b := List.flatMap_append
/-- What is behind a place moved one to the left; then all but the last cell pair. -/
theorem sets_del (l : List Tg) (p : Nat) (hp : p < l.length) : (sets (tgs l) (p * 2) (tgs (l.drop (p + 1)))).take ((l.length - 1) * 2) = tgs (l.take p ++ l.drop (p + 1)) := by
  have hd : (tgs (l.drop (p + 1))).length = (l.length - (p + 1)) * 2 := by rw [tgs_length, List.length_drop]
  apply List.ext_getElem?
  intro i
  have ht : (tgs (l.take p)).length = p * 2 := by rw [tgs_length, List.length_take, Nat.min_eq_left (by omega)]
  rw [List.getElem?_take, sets_get, tgs_app, List.getElem?_append, ht, hd, tgs_length, ← tgs_take]
  by_cases h1 : i < p * 2
  · rw [if_pos (by omega), if_neg (by omega), if_pos h1, List.getElem?_take, if_pos h1]
  · rw [if_neg h1]
    by_cases h2 : i < (l.length - 1) * 2
    · rw [if_pos h2, if_pos (by omega)]
    · rw [if_neg h2, List.getElem?_eq_none (by rw [hd]; omega)]
set_option maxHeartbeats 8000000 in
set_option maxRecDepth 1000000 in
theorem mdelete_c (base g cap p : Nat) (l : List Tg) (w : World) (h : w.ownsRow base 69 2 (.slice (some ⟨g, 0, none⟩) l.length cap) l.length (tgs l)) (hp : p < l.length) (hn : l.length ≤ 1048576) :
    Calls Try.prog 42 #[.slice (some ⟨g, 0, none⟩) l.length cap, .int .i64 p, .int .i64 ((p : Int) + 1)] w fun e w' =>
      e = .returned (.slice (some ⟨g, 0, none⟩) ((l.length - 1 : Nat)) cap) ∧ w'.ownsRow base 69 2 (.slice (some ⟨g, 0, none⟩) ((l.length - 1 : Nat)) cap) (l.length - 1) (tgs (l.take p ++ l.drop (p + 1))) ∧ Fr [g] w w' := by
  have hcap : l.length ≤ cap ∧ cap ≤ 9223372036854775807 := by
    rcases h.2 with ⟨h', _⟩ | ⟨g', cap', cur, h', hb, hg, hnc, hcm, hcs, htake⟩
    · simp at h'
    · simp only [Value.slice.injEq] at h'
      obtain ⟨_, _, rfl⟩ := h'
      unfold maxLen at hcm
      exact ⟨hnc, by omega⟩
  obtain ⟨hc1, hc2⟩ := hcap
  obtain ⟨n, hnl⟩ : ∃ n, n = l.length := ⟨_, rfl⟩
  obtain ⟨news, hnews⟩ : ∃ news, news = tgs (l.drop (p + 1)) := ⟨_, rfl⟩
  have hlen : news.length = (n - (p + 1)) * 2 := by rw [hnews, tgs_length, List.length_drop, hnl]
  rw [← hnl] at h hp hn hc1 ⊢
  have hcell := World.ownsRow.cellAt h
  have hfr := World.ownsRow.frozenAt h
  have hgl := (World.ownsRow.lt h g rfl).2
  have hone : ∀ u ∈ tgs l, u.oneCell' = true := by
    intro u hu
    unfold tgs at hu
    obtain ⟨x, _, hx⟩ := List.mem_flatMap.1 hu
    simp at hx
    rcases hx with rfl | rfl <;> rfl
  have hmem : ∀ u ∈ news, u ∈ tgs l := by
    intro u hu
    rw [hnews, ← tgs_drop] at hu
    exact List.mem_of_mem_drop hu
  have hget : ∀ t, t < news.length → w.cell? ⟨g, (p + 1) * 2 + t, none⟩ = news[t]? := by
    intro t ht
    rw [hcell _ (by omega), hnews, ← tgs_drop, List.getElem?_drop]
  obtain ⟨A, hA, hsrc⟩ : ∃ A : Addr, (if cap = p + 1 then some (⟨g, 0, none⟩ : Addr) else some ⟨g, (p + 1) * 2, none⟩) = some A ∧ Hid (∀ t u, news[t]? = some u → w.drew.cell? (A.add t) = some u) := by
    by_cases hx : cap = p + 1
    · refine ⟨⟨g, 0, none⟩, by simp [hx], fun t u hu => ?_⟩
      have h0 : news.length = 0 := by rw [hlen]; omega
      rw [List.length_eq_zero_iff.1 h0] at hu
      simp at hu
    · refine ⟨⟨g, (p + 1) * 2, none⟩, by simp [hx], fun t u hu => ?_⟩
      have ht := (List.getElem?_eq_some_iff.1 hu).1
      rw [add_plain]
      exact (hget t ht).trans hu
  have s1 : Hid (news.length = (n - (p + 1)) * 2) := hlen
  have s2 : Hid (∀ u ∈ news, u.oneCell' = true) := fun u hu => hone u (hmem u hu)
  have s3 : Hid (∀ t, t < news.length → (w.drew.cell? ⟨g, 0 + p * 2 + t, none⟩).isSome = true ∧ w.drew.frozen? ⟨g, 0 + p * 2 + t, none⟩ = false) := by
    intro t ht
    rw [Nat.zero_add]
    refine ⟨?_, hfr _⟩
    show (w.cell? _).isSome = true
    rw [hcell _ (by omega), List.getElem?_eq_getElem (by rw [tgs_length]; omega)]
    rfl
  obtain ⟨W1, hW1⟩ : ∃ W1, W1 = w.drew.setCells g (0 + p * 2) news := ⟨_, rfl⟩
  have hD : w.drew.ownsRow base 69 2 (.slice (some ⟨g, 0, none⟩) n cap) n (tgs l) := h
  have hO1 : W1.ownsRow base 69 2 (.slice (some ⟨g, 0, none⟩) n cap) n (sets (tgs l) (p * 2) news) := by
    rw [hW1, Nat.zero_add]; exact own_sets _ _ _ _ hD
  have hF1 : Fr [g] w W1 := by rw [hW1]; exact fr_setCells (by simp) _ _ _ (Fr.refl _ w).drew
  have hcell1 := World.ownsRow.cellAt hO1
  have hfr1 := World.ownsRow.frozenAt hO1
  obtain ⟨W2, hW2⟩ : ∃ W2, W2 = W1.setCells g ((n - 1) * 2) [.int .i64 0, .int .i64 0] := ⟨_, rfl⟩
  have hcl : ∀ ty, (Builtin.clear_ #[63] ty #[.slice (some ⟨g, (n - 1) * 2, none⟩) (n - (n - 1)) (cap - (n - 1))]).run Try.prog W1 = .ok (.tuple #[]) W2 := fun ty => by
    rw [hW2, show n - (n - 1) = 1 by omega]
    refine mrun_clear W1 _ _ ty (.agg #[.int .i64 0, .int .i64 0]) _ Try.underlying63 Try.zeroValue69 g ((n - 1) * 2) 1 (cap - (n - 1)) (by omega) (by first | kernel_rfl | rfl | simp [Builtin.zeroCells, Value.cells] | decide) ?_ (fun i hi => ?_) (fun i hi => hfr1 _)
    · intro u hu
      simp at hu
      subst hu
      rfl
    · simp only [List.length_cons, List.length_nil] at hi
      rw [hcell1 _ (by omega), List.getElem?_eq_getElem (by rw [sets_length, tgs_length]; omega)]
      rfl
  have hO2 : Hid (W2.ownsRow base 69 2 (.slice (some ⟨g, 0, none⟩) ((n - 1 : Nat)) cap) (n - 1) (tgs (l.take p ++ l.drop (p + 1)))) := by
    have ht := mown_take hO1 (i := n - 1) (by omega)
    have hsd := sets_del l p (by omega)
    rw [← hnl, ← hnews] at hsd
    rw [hsd] at ht
    show W2.ownsRow _ _ _ _ _ _
    have := own_sets [.int .i64 0, .int .i64 0] ((n - 1) * 2) _ W1 ht
    rw [hW2]
    have hlt : (tgs (l.take p ++ l.drop (p + 1))).length = (n - 1) * 2 := by rw [tgs_length, List.length_append, List.length_take, List.length_drop]; omega
    rwa [show sets (tgs (l.take p ++ l.drop (p + 1))) ((n - 1) * 2) [Value.int .i64 0, .int .i64 0] = tgs (l.take p ++ l.drop (p + 1)) by
      rw [sets, sets, sets, List.set_eq_of_length_le (by rw [List.length_set, hlt]; omega), List.set_eq_of_length_le (by rw [hlt]; omega)]] at this
  have hF2 : Hid (Fr [g] w W2) := by rw [hW2]; exact fr_setCells (by simp) _ _ _ hF1
  replace hW1 := hide hW1
  replace hW2 := hide hW2
  have hpI : (p : Int) + 1 ≤ n := by omega
  have hcI : (n : Int) ≤ cap := by omega
  have hne : ¬ (p : Int) = (p : Int) + 1 := by omega
  have hneb : ((p : Int) == (p : Int) + 1) = false := by rw [beq_eq_false_iff_ne]; exact hne
  have hnn : n ≤ 1048576 := by omega
  have hic : p ≤ cap := by omega
  have hjc : p + 1 ≤ cap := by omega
  have hpn1 : p + 1 ≤ n := by omega
  have hp10 : (0 : Int) ≤ (p : Int) + 1 := by omega
  have mixed : Try.prog.follows .mixedOrders = true := by kernel_rfl
  clear hcell hfr hone hmem hget hlen hD hO1 hF1 hcell1 hfr1 h hn hp hnews hnl
  have hen : p + (n - (p + 1)) = n - 1 := by omega
  have hEn : Hid (p + (n - (p + 1)) = n - 1) := hen
  rw [← hen] at hcl
  have hm1 : p + (n - (p + 1)) ≤ n := by omega
  have hm2 : ¬ cap = p + (n - (p + 1)) := by omega
  have hm3 : p + (n - (p + 1)) ≤ cap := by omega
  have hgW : g < W2.heap.size := (World.ownsRow.lt hO2.out g rfl).2
  clear hen
  haveI : In g w := ⟨hgl⟩
  obtain ⟨i0, hi0, -, hz2, -⟩ := tThing.info
  go_enter Try.func42, Try.ntmps42
  go_wp2_with fail
  go_region_law_o (refine step_append_room rfl (.tmp 22) (.tmp 25) 63 rfl 69 i0 2 Try.underlying63 hi0 hz2 g 0 p cap (by simp [Act.eval, Act.put]) A (n - (p + 1)) (cap - (p + 1)) news (by simp [Act.eval, Act.put, hA]) s1.out hsrc.out s2.out (by omega) s3.out ?_; rw [← hW1.out])
  go_wp2
  go_returns
  exact ⟨by rw [hEn.out]; rfl, hO2.out, hF2.out⟩
end Go.Proofs.Ytnneicdphlidhaa
