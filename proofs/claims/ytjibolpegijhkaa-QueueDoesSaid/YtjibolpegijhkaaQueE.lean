/-
  A helper of ours: no claim of its own. Layer 15 (queue): the first one taken out.
-/
import Derived.Test.YtjibolpegijhkaaQueD
set_option linter.unusedVariables false
set_option linter.unusedSimpArgs false
namespace Go.Proofs.Ytjibolpegijhkaa
open Go.RowKit
attribute [local go_sem] GW.cell GW.frozen In.eq_true In.le_true In.ne In.ne' In.ne_add In.ne_add' In.lt_add Upto.le_true Upto.le_add Upto.lt_add
theorem run_clear_cells {P : Program} (w : World) (t e ty : TypeId) (z : Value) (zs : List Value) (ht : P.underlying t = some (.slice e)) (hv : ∀ w, (zeroValue e).run P w = .ok z w) (b o n c : Nat) (hn : 0 < n) (hz : (Builtin.zeroCells z.cells n).toList = zs) (h1 : ∀ v ∈ zs, v.oneCell' = true)
    (hc : ∀ j, j < zs.length → (w.cell? ⟨b, o + j, none⟩).isSome = true) (hf : ∀ j, j < zs.length → w.frozen? ⟨b, o + j, none⟩ = false) :
    (Builtin.clear_ #[t] ty #[.slice (some ⟨b, o, none⟩) n c]).run P w = .ok (.tuple #[]) (w.setCells b o zs) := by
  have hst := run_storeCells_cells (P := P) b o zs 0 w (by simpa using hc) (by simpa using hf) h1
  simp only [Nat.add_zero] at hst
  obtain ⟨m, rfl⟩ : ∃ m, n = m + 1 := ⟨n - 1, by omega⟩
  simp [Builtin.clear_, run_underlying ht, hv, hz, hst]
theorem own_take {w : World} {B e : Nat} {g n i cap size : Nat} {xs : List Value} (h : w.ownsRow B e size (.slice (some ⟨g, 0, none⟩) n cap) n xs) (hi : i ≤ n) : w.ownsRow B e size (.slice (some ⟨g, 0, none⟩) i cap) i (xs.take (i * size)) := by
  rcases h.2 with ⟨h', _⟩ | ⟨g', cap', cur, h', hb, hg, hnc, hcm, hcs, htake⟩
  · simp at h'
  · simp only [Value.slice.injEq, Option.some.injEq, Addr.mk.injEq, and_true, true_and] at h'
    obtain ⟨rfl, rfl⟩ := h'
    have hm : i * size ≤ n * size := Nat.mul_le_mul_right _ hi
    refine ⟨by rw [List.length_take, h.1, Nat.min_eq_left hm], .inr ⟨g, cap, cur, rfl, hb, hg, by omega, hcm, hcs, ?_⟩⟩
    rw [← htake, List.take_take, Nat.min_eq_left hm]
theorem own_setCells {w0 : World} {B e : Nat} {g i cap size : Nat} {xs : List Value} : ∀ (vs : List Value) (o : Nat) (w : World), w.ownsRow B e size (.slice (some ⟨g, 0, none⟩) i cap) i xs → i * size ≤ o → (w.setCells g o vs).ownsRow B e size (.slice (some ⟨g, 0, none⟩) i cap) i xs
  | [], _, _, h, _ => h
  | v :: r, o, w, h, ho => by
    have h1 := (World.ownsRow.stored h o v).1
    rw [List.set_eq_of_length_le (by rw [h.1]; exact ho)] at h1
    exact own_setCells (w0 := w0) r (o + 1) _ h1 (by omega)
theorem own_typed0 {w : World} {B e size n : Nat} {v : Value} {xs : List Value} (h : w.ownsRow B e size v n xs) : ∀ k, v.ownBlock = some k → ∃ cur, w.heap[k]? = some (.cells cur e (0, 0)) := by
  intro k hk
  rcases h.2 with ⟨rfl, _⟩ | ⟨g, cap, cur, rfl, hb, hg, _⟩
  · cases hk
  · have : k = g := by simpa [Value.ownBlock] using hk.symm
    subst this
    exact ⟨_, hg⟩
theorem Ft.setCells {B g : Nat} {Ts : List TypeId} {w w' : World} {T : TypeId} (hB : B ≤ g) (hT : T ∈ Ts) : ∀ (vs : List Value) (o : Nat) (w' : World), Ft B Ts w w' → (∃ cur, w'.heap[g]? = some (.cells cur T (0, 0))) → Ft B Ts w (w'.setCells g o vs)
  | [], _, _, h, _ => h
  | v :: r, o, w', h, ⟨cur, hb⟩ => by
    refine Ft.setCells (w := w) (w' := w') hB hT r (o + 1) _ (h.set hB hb hT) ?_
    exact ⟨_, Go.heap_setCell_same w' g o cur T v hb⟩
set_option maxHeartbeats 8000000 in
set_option maxRecDepth 100000 in
theorem drop_c (B q : Nat) (P : List It) (hP : P.length ≤ 1000000) (h0 : 0 < P.length) (n : Int) (w : World) (h : QS w B q P n) : Calls Try.prog 19 #[.pointer (some ⟨q, 0, none⟩)] w fun e w' => e = .returned (.tuple #[]) ∧ (∃ P', ths P' = popL (ths P) ∧ QS w' B q P' n) ∧ Ft B Tq w w' := by
  obtain ⟨v, H, h1, h2, h3, hp, hn, hBq⟩ := h
  have hlt := Ob.lt h1
  haveI : In q w := ⟨hlt⟩
  have hHl := hp.length_eq
  obtain ⟨g, cap, rfl, hgB, hgl, hc1, hc2⟩ := item_block h2 (by omega)
  haveI : In g w := ⟨hgl⟩
  obtain ⟨r, hr⟩ : ∃ r, H[0]? = some r := ⟨_, List.getElem?_eq_getElem (by omega)⟩
  obtain ⟨m, hm⟩ : ∃ m, H.length = m + 1 := ⟨H.length - 1, by omega⟩
  obtain ⟨x, hx⟩ : ∃ x, H[m]? = some x := ⟨_, List.getElem?_eq_getElem (by omega)⟩
  obtain ⟨i, hi, hf, hpe⟩ := root_first h3 hp hn hr
  obtain ⟨-, hpop⟩ := hdL_get hf
  have hgoal : Hid (ths (P.eraseIdx i) = popL (ths P)) := by show List.map _ _ = _; rw [map_erase]; exact hpop.symm
  have hnum := hide (nums_erase hn i)
  obtain ⟨c0, c1, c2⟩ := item_cells h2 hr
  rw [Nat.zero_mul, Nat.zero_add] at *
  obtain ⟨x0, x1, x2⟩ := item_cells h2 hx
  have hcut := hide (hp_cut h3)
  have hcl : (cutd H).length = m := by rw [cutd_length]; omega
  have hqg : q ≠ g := fun e => Ob.not_own h1 h2 (by decide) (by rw [e]; rfl)
  have hgq : g ≠ q := fun e => hqg e.symm
  have f0 := World.ownsRow.frozenAt h2 0
  have f1 := World.ownsRow.frozenAt h2 1
  have f2 := World.ownsRow.frozenAt h2 2
  have q1 := Ob.cell h1 1 rfl
  have qf := Ob.free h1 1
  rw [hm] at q1 hc1
  obtain ⟨⟨xa, xn⟩, xk⟩ := x
  simp only at x0 x1 x2
  -- the world behind all stores
  have hD : ∀ w1, Ext w w1 → Qb (((((w1.setCell ⟨g, 0, none⟩ (.int .i64 xa)).setCell ⟨g, 1, none⟩ (.int .i64 xn)).setCell ⟨g, 2, none⟩ (.int .i64 xk)).setCells g (m * 3) [.int .i64 0, .int .i64 0, .int .i64 0]).setCell ⟨q, 1, none⟩ (.slice (some ⟨g, 0, none⟩) m cap)) q (.slice (some ⟨g, 0, none⟩) m cap) n ∧
      OwnI (((((w1.setCell ⟨g, 0, none⟩ (.int .i64 xa)).setCell ⟨g, 1, none⟩ (.int .i64 xn)).setCell ⟨g, 2, none⟩ (.int .i64 xk)).setCells g (m * 3) [.int .i64 0, .int .i64 0, .int .i64 0]).setCell ⟨q, 1, none⟩ (.slice (some ⟨g, 0, none⟩) m cap)) B (.slice (some ⟨g, 0, none⟩) m cap) (cutd H) ∧
      Ft B Tq w (((((w1.setCell ⟨g, 0, none⟩ (.int .i64 xa)).setCell ⟨g, 1, none⟩ (.int .i64 xn)).setCell ⟨g, 2, none⟩ (.int .i64 xk)).setCells g (m * 3) [.int .i64 0, .int .i64 0, .int .i64 0]).setCell ⟨q, 1, none⟩ (.slice (some ⟨g, 0, none⟩) m cap)) := by
    intro w1 hX
    have o0 := own_ext h2 hX
    rw [hm] at o0
    have o1 := (World.ownsRow.stored o0 0 (.int .i64 xa)).1
    have o2 := (World.ownsRow.stored o1 1 (.int .i64 xn)).1
    have o3 := (World.ownsRow.stored o2 2 (.int .i64 xk)).1
    have o4 := own_setCells (w0 := w) [.int .i64 0, .int .i64 0, .int .i64 0] (m * 3) _ (own_take o3 (i := m) (by omega)) (Nat.le_refl _)
    have b0 := Ob.ext h1 hX
    have bq : Ob ((((w1.setCell ⟨g, 0, none⟩ (.int .i64 xa)).setCell ⟨g, 1, none⟩ (.int .i64 xn)).setCell ⟨g, 2, none⟩ (.int .i64 xk)).setCells g (m * 3) [.int .i64 0, .int .i64 0, .int .i64 0]) q _ _ := (((((((b0.far ⟨g, 0, none⟩ (.int .i64 xa) hqg).far ⟨g, 1, none⟩ (.int .i64 xn) hqg).far ⟨g, 2, none⟩ (.int .i64 xk) hqg).far ⟨g, m * 3, none⟩ (.int .i64 0) hqg).far ⟨g, m * 3 + 1, none⟩ (.int .i64 0) hqg).far ⟨g, m * 3 + 1 + 1, none⟩ (.int .i64 0) hqg))
    have ht1 := own_typed0 o0 g rfl
    have ht2 := own_typed0 o1 g rfl
    have ht3 := own_typed0 o2 g rfl
    have ht4 := own_typed0 o3 g rfl
    obtain ⟨u1, t1⟩ := ht1
    obtain ⟨u2, t2⟩ := ht2
    obtain ⟨u3, t3⟩ := ht3
    obtain ⟨u4, t4⟩ := ht4
    have F3 := (((Ft.of_ext (B := B) (Ts := Tq) hX).set (i := 0) (u := .int .i64 xa) hgB t1 (by simp)).set (i := 1) (u := .int .i64 xn) hgB t2 (by simp)).set (i := 2) (u := .int .i64 xk) hgB t3 (by simp)
    have F4 := Ft.setCells (w' := w) hgB (T := 49) (by simp) [.int .i64 0, .int .i64 0, .int .i64 0] (m * 3) _ F3 ⟨_, t4⟩
    have F5 := F4.set (i := 1) (u := .slice (some ⟨g, 0, none⟩) m cap) hBq bq (by simp)
    refine ⟨bq.set 1 _, ?_, F5⟩
    have hF : Ft B [47] _ (((((w1.setCell ⟨g, 0, none⟩ (.int .i64 xa)).setCell ⟨g, 1, none⟩ (.int .i64 xn)).setCell ⟨g, 2, none⟩ (.int .i64 xk)).setCells g (m * 3) [.int .i64 0, .int .i64 0, .int .i64 0]).setCell ⟨q, 1, none⟩ (.slice (some ⟨g, 0, none⟩) m cap)) := (Ft.refl _).set (i := 1) hBq bq (by simp)
    have o5 := hF.own o4 (by decide)
    unfold OwnI
    rw [hcl]
    have e : itc (cutd H) = ((((itc H).set 0 (.int .i64 xa)).set 1 (.int .i64 xn)).set 2 (.int .i64 xk)).take (m * 3) := by
      unfold cutd
      rw [hm, Nat.add_sub_cancel, hx, ← itc_take, Option.getD_some, itc_set _ _ _ (by omega)]
    rw [e]
    exact o5
  have hS := hide (fun w1 (hX : Ext w w1) => sink_c (cutd H) (by omega) q 0 (fun h => h) (by omega) hcut.out B _ n _ (hD w1 hX).1 (hD w1 hX).2.1 hBq)
  have hFD := hide (fun w1 (hX : Ext w w1) => (hD w1 hX).2.2)
  have hcells : Hid (∀ w1, Ext w w1 → ∀ ty, (Builtin.clear_ #[45] ty #[.slice (some ⟨g, m * 3, none⟩) 1 (cap - m)]).run Try.prog (((w1.setCell ⟨g, 0, none⟩ (.int .i64 xa)).setCell ⟨g, 1, none⟩ (.int .i64 xn)).setCell ⟨g, 2, none⟩ (.int .i64 xk)) = .ok (.tuple #[]) ((((w1.setCell ⟨g, 0, none⟩ (.int .i64 xa)).setCell ⟨g, 1, none⟩ (.int .i64 xn)).setCell ⟨g, 2, none⟩ (.int .i64 xk)).setCells g (m * 3) [.int .i64 0, .int .i64 0, .int .i64 0])) := by
    intro w1 hX ty
    have o0 := own_ext h2 hX
    rw [hm] at o0
    have o3 := (World.ownsRow.stored (World.ownsRow.stored (World.ownsRow.stored o0 0 (.int .i64 xa)).1 1 (.int .i64 xn)).1 2 (.int .i64 xk)).1
    refine run_clear_cells _ _ 49 ty (.agg #[.int .i64 0, .int .i64 0, .int .i64 0]) _ Try.underlying45 Try.zeroValue49 g (m * 3) 1 (cap - m) (by omega) (by kernel_rfl) (by simp [Value.oneCell']) (fun j hj => ?_) (fun j hj => World.ownsRow.frozenAt o3 _)
    have hj3 : j < 3 := hj
    rw [World.ownsRow.cellAt o3 (m * 3 + j) (by omega), List.getElem?_eq_getElem (by rw [List.length_set, List.length_set, List.length_set, itc_length]; omega)]; rfl
  have hZ : Hid (∀ w1, Ext w w1 → ((((w1.setCell ⟨g, 0, none⟩ (.int .i64 xa)).setCell ⟨g, 1, none⟩ (.int .i64 xn)).setCell ⟨g, 2, none⟩ (.int .i64 xk)).setCells g (m * 3) [.int .i64 0, .int .i64 0, .int .i64 0]).cell? ⟨q, 1, none⟩ = some (.slice (some ⟨g, 0, none⟩) (m + 1) cap) ∧ ((((w1.setCell ⟨g, 0, none⟩ (.int .i64 xa)).setCell ⟨g, 1, none⟩ (.int .i64 xn)).setCell ⟨g, 2, none⟩ (.int .i64 xk)).setCells g (m * 3) [.int .i64 0, .int .i64 0, .int .i64 0]).frozen? ⟨q, 1, none⟩ = false ∧ q < ((((w1.setCell ⟨g, 0, none⟩ (.int .i64 xa)).setCell ⟨g, 1, none⟩ (.int .i64 xn)).setCell ⟨g, 2, none⟩ (.int .i64 xk)).setCells g (m * 3) [.int .i64 0, .int .i64 0, .int .i64 0]).heap.size) := by
    intro w1 hX
    have b0 := Ob.ext h1 hX
    rw [hm] at b0
    have bq : Ob ((((w1.setCell ⟨g, 0, none⟩ (.int .i64 xa)).setCell ⟨g, 1, none⟩ (.int .i64 xn)).setCell ⟨g, 2, none⟩ (.int .i64 xk)).setCells g (m * 3) [.int .i64 0, .int .i64 0, .int .i64 0]) q _ _ := (((((((b0.far ⟨g, 0, none⟩ (.int .i64 xa) hqg).far ⟨g, 1, none⟩ (.int .i64 xn) hqg).far ⟨g, 2, none⟩ (.int .i64 xk) hqg).far ⟨g, m * 3, none⟩ (.int .i64 0) hqg).far ⟨g, m * 3 + 1, none⟩ (.int .i64 0) hqg).far ⟨g, m * 3 + 1 + 1, none⟩ (.int .i64 0) hqg))
    exact ⟨bq.cell 1 rfl, bq.free 1, bq.lt⟩
  have hmI : (m : Int) < (m : Int) + 1 := by omega
  have hcm : ¬ m = cap := by omega
  have hmc : m < cap := by omega
  have hmc' : m ≤ cap := by omega
  clear h1 h2 h3 hp hn hi hf hpop hr hx hHl hD hcl
  go_enter Try.func19, Try.ntmps19
  go_wp2_with fail
  refine wp_region_gw_tail 12 (by kernel_rfl) (by kernel_rfl) ?_
  simp only [List.take_succ_cons, List.take_zero, List.drop_succ_cons, List.drop_zero]
  repeat (go_big_quiet_step (fail))
  refine wpQuiet_nil ?_
  intro g7
  obtain ⟨wz, hwz⟩ : ∃ wz, wz = (((g7.val.setCell ⟨g, 0, none⟩ (.int .i64 xa)).setCell ⟨g, 1, none⟩ (.int .i64 xn)).setCell ⟨g, 2, none⟩ (.int .i64 xk)).setCells g (m * 3) [.int .i64 0, .int .i64 0, .int .i64 0] := ⟨_, rfl⟩
  have hcl2 := hcells.out _ g7.grown
  have hS2 := hide (hS.out _ g7.grown)
  have hF2 := hide (hFD.out _ g7.grown)
  obtain ⟨z1, z2, z3⟩ := hZ.out _ g7.grown
  rw [← hwz] at hcl2 hS2 hF2 z1 z2 z3
  clear hcells hS hFD hZ hwz
  haveI : In q wz := ⟨z3⟩
  go_wp2_with (go_at_call 23; (refine hS2.out.mono ?_; rintro ee w9 ⟨rfl, H', k1, k2, k3, k4, k5⟩))
  go_returns
  exact ⟨rfl, ⟨_, hgoal.out, _, H', k3, k4, k1, k2.trans hpe, hnum.out, hBq⟩, hF2.out.trans k5⟩
end Go.Proofs.Ytjibolpegijhkaa
