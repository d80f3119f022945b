/-
  A helper of ours: no claim of its own. Layer 24 (multi): one thing inserted ahead of another, in place.
-/
import Derived.Test.YtnneicdphlidhaaMulF
set_option linter.unusedVariables false
set_option linter.unusedSimpArgs false
namespace Go.Proofs.Ytnneicdphlidhaa
open Go.RowKit Go.Shelf Go.Lib
attribute [local go_sem] GW.cell GW.frozen In.eq_true In.le_true In.ne In.ne' In.ne_add In.ne_add' In.lt_add Upto.le_true Upto.le_add Upto.lt_add
theorem shape_ob {w : World} {b : Nat} {T : TypeId} {vs : List Value} (h : Ob w b T vs) : w.shape? b = some (T, vs.length) := by
  unfold World.shape?
  rw [show w.heap[b]? = some (.cells vs.toArray T (0, 0)) from h]
  simp
theorem shape_own {w : World} {B e : Nat} {g n cap size : Nat} {xs : List Value} (h : w.ownsRow B e size (.slice (some ⟨g, 0, none⟩) n cap) n xs) : ∃ k, w.shape? g = some (e, k) ∧ k = cap * size := by
  rcases h.2 with ⟨h', _⟩ | ⟨g', cap', cur, h', hb, hg, hnc, hcm, hcs, htake⟩
  · simp at h'
  · simp only [Value.slice.injEq, Option.some.injEq, Addr.mk.injEq, and_true, true_and] at h'
    obtain ⟨rfl, rfl⟩ := h'
    refine ⟨cur.size, ?_, hcs⟩
    unfold World.shape?
    rw [hg]
theorem tgs_one (l : List Tg) : ∀ u ∈ tgs l, u.oneCell' = true := by
  intro u hu
  unfold tgs at hu
  obtain ⟨x, _, hx⟩ := List.mem_flatMap.1 hu
  simp at hx
  rcases hx with rfl | rfl <;> rfl
set_option maxHeartbeats 8000000 in
set_option maxRecDepth 1000000 in
/-- Ahead of another, where there is room: in place. -/
theorem minsert_room (base g cap xb p : Nat) (k c : Int) (l : List Tg) (w : World) (h : w.ownsRow base 69 2 (.slice (some ⟨g, 0, none⟩) l.length cap) l.length (tgs l)) (hn : l.length ≤ 1048576) (hp : p < l.length) (hr : l.length + 1 ≤ cap)
    (hx : Ob w xb 69 [.int .i64 k, .int .i64 c]) (hxg : xb ≠ g) :
    Calls Try.prog 43 #[.slice (some ⟨g, 0, none⟩) l.length cap, .int .i64 p, .slice (some ⟨xb, 0, none⟩) 1 1] w fun e w' =>
      e = .returned (.slice (some ⟨g, 0, none⟩) (l.length + 1) cap) ∧ w'.ownsRow base 69 2 (.slice (some ⟨g, 0, none⟩) (l.length + 1) cap) (l.length + 1) (tgs (l.take p ++ (k, c) :: l.drop p)) ∧ Fr [g] w w' := by
  have hc2 : cap ≤ 9223372036854775807 := by
    rcases h.2 with ⟨h', _⟩ | ⟨g', cap', cur, h', hb, hg, hnc, hcm, hcs, htake⟩
    · simp at h'
    · simp only [Value.slice.injEq] at h'
      obtain ⟨_, _, rfl⟩ := h'
      unfold maxLen at hcm
      omega
  obtain ⟨xs', hxl, hxt, hO⟩ := mown_more h hr
  obtain ⟨kB, hsb, hkB⟩ := shape_own h
  have hsa := shape_ob hx
  have x0 := hx.cell 0 rfl
  have x1 := hx.cell 1 rfl
  have hfa := hx.free 0
  have hfe := hx.free 2
  have hgl := (World.ownsRow.lt h g rfl).2
  have hxw := hx.lt
  have hcell := World.ownsRow.cellAt h
  have hcellO := World.ownsRow.cellAt hO
  have hfrO := World.ownsRow.frozenAt hO
  have hins := sets_ins l p k c hp xs' hxl hxt
  obtain ⟨n, hnl⟩ : ∃ n, n = l.length := ⟨_, rfl⟩
  obtain ⟨cs, hcs⟩ : ∃ cs, cs = tgs (l.drop p) := ⟨_, rfl⟩
  have hcl : cs.length = (n - p) * 2 := by rw [hcs, tgs_length, List.length_drop, hnl]
  rw [← hcs] at hins
  rw [← hnl] at h hO hp hr hn hxl hcell hcellO ⊢
  have hget : ∀ j v, cs[j]? = some v → w.cell? ⟨g, p * 2 + j, none⟩ = some v := by
    intro j v hj
    have hjl := (List.getElem?_eq_some_iff.1 hj).1
    rw [hcell _ (by omega)]
    rwa [hcs, ← tgs_drop, List.getElem?_drop] at hj
  have hone1 : ∀ v ∈ cs, v.oneCell' = true := by rw [hcs]; exact tgs_one _
  have hz2 : ¬ ((p : Int) = (n : Int)) := by omega
  have hsz : (Try.prog.info? 69).map (·.size) = some 2 := by
    obtain ⟨i0, hi0, _, h1, _⟩ := tThing.info
    rw [hi0]; simp [h1]
  have hov : ∀ lb cb, (callFunc 46 #[.slice (some ⟨xb, 0, none⟩) 1 1, .slice (some ⟨g, (p + 1) * 2, none⟩) lb cb]).run Try.prog w = .ok (.value (.bool false)) w := fun lb cb => by
    rw [run_callFunc_extern Try.func46 (by kernel_rfl) (by kernel_rfl) (by kernel_rfl) (e := Extern.SlicesOverlaps.overlaps #[63, 63] #[4]) (by kernel_rfl),
      Lib.run_overlaps_apart w 63 4 69 Try.underlying63 2 Try.sizeOf69 ⟨xb, 0, none⟩ ⟨g, (p + 1) * 2, none⟩ 1 1 lb cb hxg _ _ _ kB hsa hsb (by omega) hfa hfe]
    rfl
  have hcp1 : ∀ ty dc sc, (Builtin.copy_ #[63, 63] ty #[.slice (some ⟨g, (p + 1) * 2, none⟩) (n - p) dc, .slice (some ⟨g, p * 2, none⟩) (n + 1 - p) sc]).run Try.prog w.drew = .ok (goInt (Nat.min (n + 1 - p) (n - p))) (w.drew.setCells g ((p + 1) * 2) cs) := fun ty dc sc =>
    mrun_copy w.drew _ _ ty 69 2 g ((p + 1) * 2) (n - p) dc ⟨g, p * 2, none⟩ (n + 1 - p) sc cs Try.underlying63 hsz (by rw [hcl]; simp only [Nat.min_def]; split <;> omega)
      (fun j v hj => by rw [add_plain]; exact hget j v hj)
      (fun j hj => by
        show (w.cell? _).isSome = true
        rw [hcellO _ (by omega), List.getElem?_eq_getElem (by omega)]; rfl) (fun j hj => hfrO _) hone1
  obtain ⟨W1, hW1⟩ : ∃ W1, W1 = w.drew.setCells g ((p + 1) * 2) cs := ⟨_, rfl⟩
  have hO1 : W1.ownsRow base 69 2 (.slice (some ⟨g, 0, none⟩) (n + 1) cap) (n + 1) (sets xs' ((p + 1) * 2) cs) := by
    rw [hW1]
    have hD : w.drew.ownsRow base 69 2 (.slice (some ⟨g, 0, none⟩) (n + 1) cap) (n + 1) xs' := hO
    exact own_sets _ _ _ _ hD
  have hF1 : Fr [g] w W1 := by rw [hW1]; exact fr_setCells (by simp) _ _ _ (Fr.refl _ w).drew
  have hx1 := hx.fr hF1 (by simpa using hxg)
  have y0 := hx1.cell 0 rfl
  have y1 := hx1.cell 1 rfl
  have hcell1 := World.ownsRow.cellAt hO1
  have hfr1 := World.ownsRow.frozenAt hO1
  obtain ⟨W2, hW2⟩ : ∃ W2, W2 = W1.setCells g (p * 2) [.int .i64 k, .int .i64 c] := ⟨_, rfl⟩
  have hcp2 : ∀ ty dc, (Builtin.copy_ #[63, 63] ty #[.slice (some ⟨g, p * 2, none⟩) (n + 1 - p) dc, .slice (some ⟨xb, 0, none⟩) 1 1]).run Try.prog W1 = .ok (goInt (Nat.min 1 (n + 1 - p))) W2 := fun ty dc => by
    rw [hW2]
    refine mrun_copy W1 _ _ ty 69 2 g (p * 2) (n + 1 - p) dc ⟨xb, 0, none⟩ 1 1 [.int .i64 k, .int .i64 c] Try.underlying63 hsz (by simp only [Nat.min_def, List.length_cons, List.length_nil]; split <;> omega)
      (fun j v hj => ?_) (fun j hj => ?_) (fun j hj => hfr1 _) (fun v hv => by simp at hv; rcases hv with rfl | rfl <;> rfl)
    · rw [add_plain, Nat.zero_add]
      match j, hj with
      | 0, hj => cases hj; exact y0
      | 1, hj => cases hj; exact y1
      | j + 2, hj => simp at hj
    · simp only [List.length_cons, List.length_nil] at hj
      rw [hcell1 _ (by omega), List.getElem?_eq_getElem (by rw [sets_length]; omega)]; rfl
  have hO2 : Hid (W2.ownsRow base 69 2 (.slice (some ⟨g, 0, none⟩) (n + 1) cap) (n + 1) (tgs (l.take p ++ (k, c) :: l.drop p))) := by
    show W2.ownsRow _ _ _ _ _ _
    rw [hW2, ← hins]
    exact own_sets _ _ _ _ hO1
  have hF2 : Hid (Fr [g] w W2) := by rw [hW2]; exact fr_setCells (by simp) _ _ _ hF1
  rw [← hW1] at hcp1
  replace hW1 := hide hW1
  replace hW2 := hide hW2
  have mixed : Try.prog.follows .mixedOrders = true := by kernel_rfl
  have hb1 : (0 : Int) ≤ (p : Int) + 1 := by omega
  have hin : p ≤ n := by omega
  have htn : ((p : Int) + 1).toNat = p + 1 := by omega
  have hb2 : ¬ (cap = p + 1) := by omega
  have hb3 : (p : Int) ≤ (n : Int) + 1 := by omega
  have hb4 : ¬ (cap = p) := by omega
  have hpn : p + 1 ≤ n + 1 := by omega
  have hnc : n ≤ cap := by omega
  have hw1 : IntKind.i64.wrap ((p : Int) + 1) = (p : Int) + 1 := by rw [IntKind.wrap_i64]; omega
  have hb5 : (p : Int) + 1 ≤ (n : Int) + 1 := by omega
  have hg1 : ¬ ((cap : Int) < (n : Int) + 1) := by omega
  clear h hO hcell hcellO hfrO hget hone1 hO1 hF1 hx1 y0 y1 hcell1 hfr1 x0 x1 hfa hfe hsa hsb hx hins hcs hxt hxl hkB hnl hcl
  haveI : In g w := ⟨hgl⟩
  go_enter Try.func43, Try.ntmps43
  go_wp2_with (simp only [hov])
  go_region_law_o (refine step_copy_runI rfl _ _ 63 63 rfl _ _ (by simp [Act.eval, Act.put]) (by simp [Act.eval, Act.put]) (hcp1 _ _ _) ?_)
  go_wp2_with (at_builtin; refine wpList_copy_runI _ rfl _ _ 63 63 rfl _ _ rfl rfl (hcp2 _ _) ?_)
  go_returns
  exact ⟨rfl, hO2.out, hF2.out⟩
end Go.Proofs.Ytnneicdphlidhaa
