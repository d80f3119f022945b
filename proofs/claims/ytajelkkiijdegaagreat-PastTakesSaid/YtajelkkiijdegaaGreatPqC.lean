/-
  A helper of ours: no claim of its own. Layer 14 (past): the event that is known by a number, by the code.
-/
import Derived.Test.YtajelkkiijdegaaGreatPqO
import Derived.Test.YtajelkkiijdegaaGreatSchE
import Derived.Test.YtajelkkiijdegaaGreatPasO
set_option linter.unusedVariables false
set_option linter.unusedSimpArgs false
namespace Go.Proofs.YtajelkkiijdegaaGreat
open Go.RowKit
attribute [local go_sem] GW.cell GW.frozen In.eq_true In.le_true In.ne In.ne' In.ne_add In.ne_add' In.lt_add Upto.le_true Upto.le_add Upto.lt_add
theorem two_lists : ∀ {a b : List Ch}, a.Pairwise (fun x y => x.1 < y.1) → b.Pairwise (fun x y => x.1 < y.1) → (∀ x, x ∈ a ↔ x ∈ b) → a = b
  | [], [], _, _, _ => rfl
  | [], y :: b, _, _, h => by have := (h y).2 (by simp); simp at this
  | x :: a, [], _, _, h => by have := (h x).1 (by simp); simp at this
  | x :: a, y :: b, ha, hb, h => by
    obtain ⟨a1, a2⟩ := List.pairwise_cons.1 ha
    obtain ⟨b1, b2⟩ := List.pairwise_cons.1 hb
    have e : x = y := by
      rcases List.mem_cons.1 ((h x).1 (by simp)) with e | e
      · exact e
      rcases List.mem_cons.1 ((h y).2 (by simp)) with e2 | e2
      · exact e2.symm
      have := b1 x e
      have := a1 y e2
      omega
    subst e
    refine congrArg _ (two_lists a2 b2 fun z => ⟨fun hz => ?_, fun hz => ?_⟩)
    · rcases List.mem_cons.1 ((h z).1 (List.mem_cons_of_mem _ hz)) with e | e
      · subst e; have := a1 z hz; omega
      · exact e
    · rcases List.mem_cons.1 ((h z).2 (List.mem_cons_of_mem _ hz)) with e | e
      · subst e; have := b1 z hz; omega
      · exact e
theorem heldD_mem {c : Int} {z : Ch} : ∀ {l : List Ev} {k : Nat}, z ∈ heldD c k l ↔ ∃ j e, l[j]? = some e ∧ knwB c e = true ∧ z = heldE (k + j) e
  | [], k => by simp [heldD]
  | e :: l, k => by
    rw [heldD, List.mem_append, heldD_mem (l := l)]
    constructor
    · rintro (h | ⟨j, e', h1, h2, h3⟩)
      · split at h
        · rename_i hk
          exact ⟨0, e, rfl, hk, by simpa using h⟩
        · simp at h
      · exact ⟨j + 1, e', by simpa using h1, h2, by rw [h3, show k + 1 + j = k + (j + 1) by omega]⟩
    · rintro ⟨j, e', h1, h2, h3⟩
      cases j with
      | zero => simp at h1; subst h1; left; rw [if_pos h2]; simpa using h3
      | succ j => right; exact ⟨j, e', by simpa using h1, h2, by rw [h3, show k + 1 + j = k + (j + 1) by omega]⟩
theorem heldD_srt (c : Int) : ∀ (l : List Ev) (k : Nat), (heldD c k l).Pairwise (fun x y => x.1 < y.1)
  | [], _ => by simp [heldD]
  | e :: l, k => by
    rw [heldD]
    split
    · rw [List.singleton_append, List.pairwise_cons]
      refine ⟨fun z hz => ?_, heldD_srt c l (k + 1)⟩
      obtain ⟨j, e', -, -, rfl⟩ := heldD_mem.1 hz
      show k + 1 < k + 1 + j + 1
      omega
    · exact heldD_srt c l (k + 1)
theorem heldD_count (c : Int) : ∀ (l : List Ev) (k : Nat), (heldD c k l).length = knwN c l
  | [], _ => rfl
  | e :: l, k => by
    have ih := heldD_count c l (k + 1)
    unfold knwN at ih ⊢
    rw [heldD, List.length_append, ih, List.filter_cons]
    split <;> simp <;> omega
theorem PInv.held {L s : List Pb} {S : StD} (h : PInv L S) (hp : s.Perm L) (hs : s.Pairwise (fun a b => pSer a ≤ pSer b)) : s.map heldC = heldD S.1 0 S.2 := by
  refine two_lists ?_ (heldD_srt _ _ _) fun z => ?_
  · have hi : s.Pairwise (fun a b => pId a ≠ pId b) := (hp.pairwise_iff (fun h => h.symm)).2 h.ids
    refine List.Pairwise.map _ (R := fun a b => pSer a < pSer b) (fun a b hab => hab) ?_
    refine List.Pairwise.imp_of_mem ?_ (hs.and hi)
    rintro a b ha hb ⟨h1, h2⟩
    rcases Nat.lt_or_eq_of_le h1 with e | e
    · exact e
    · exfalso
      obtain ⟨-, -, k3⟩ := h.known a (hp.mem_iff.1 ha)
      obtain ⟨-, -, k4⟩ := h.known b (hp.mem_iff.1 hb)
      rw [e, k4] at k3
      have := Option.some.inj k3
      simp only [Prod.mk.injEq] at this
      exact h2 this.1.1.symm
  · rw [heldD_mem, List.mem_map]
    constructor
    · rintro ⟨p, hp1, rfl⟩
      obtain ⟨k1, k2, k3⟩ := h.known p (hp.mem_iff.1 hp1)
      refine ⟨pSer p - 1, _, k3, ?_, ?_⟩
      · unfold knwB
        have : S.1 < p.1.2.2.2 := k1
        simp [this]
      · unfold heldC heldE
        rw [show 0 + (pSer p - 1) + 1 = pSer p by omega]
    · rintro ⟨j, e, h1, h2, rfl⟩
      unfold knwB at h2
      simp only [Bool.and_eq_true, Bool.not_eq_true', decide_eq_true_eq] at h2
      obtain ⟨q, hq, q1⟩ := h.all j e h1 h2.1 h2.2
      refine ⟨q, hp.mem_iff.2 hq, ?_⟩
      unfold heldC heldE pSer
      rw [q1]
      simp
theorem PInv.count {L : List Pb} {S : StD} (h : PInv L S) : L.length = knwN S.1 S.2 := by
  have hp : (L.mergeSort (fun a b => decide (pSer a ≤ pSer b))).Perm L := List.mergeSort_perm _ _
  have hs : (L.mergeSort (fun a b => decide (pSer a ≤ pSer b))).Pairwise (fun a b => pSer a ≤ pSer b) := by
    have := List.pairwise_mergeSort (le := fun a b : Pb => decide (pSer a ≤ pSer b)) (by intro a b c; simp; omega) (by intro a b; simp; omega) L
    exact this.imp (fun h => by simpa using h)
  have e := congrArg List.length (h.held hp hs)
  rw [List.length_map, hp.length_eq, heldD_count] at e
  exact e
theorem chs_get : ∀ (L : List (Value × Ch)) (i : Nat) (p : Value × Ch), L[i]? = some p → ∀ j u, (chO p.1 p.2)[j]? = some u → (L.flatMap fun p => chO p.1 p.2)[i * 6 + j]? = some u
  | q :: r, 0, p, h, j, u, hu => by
    simp at h; subst h
    have hj : j < (chO q.1 q.2).length := (List.getElem?_eq_some_iff.1 hu).1
    rw [List.flatMap_cons, List.getElem?_append_left (by omega), show 0 * 6 + j = j by omega]; exact hu
  | q :: r, i + 1, p, h, j, u, hu => by
    have := chs_get r i p (by simpa using h) j u hu
    rw [List.flatMap_cons, show (i + 1) * 6 + j = (chO q.1 q.2).length + (i * 6 + j) by simp [chO]; omega, List.getElem?_append_right (by omega), Nat.add_sub_cancel_left]
    exact this
theorem own_chat {w : World} {base : Nat} {v : Value} {L : List (Value × Ch)} (h : OwnCh w base v L) {k : Nat} {p : Value × Ch} (hp : L[k]? = some p) : ∃ g cap PA pc, v = .slice (some ⟨g, 0, none⟩) L.length cap ∧ g < w.heap.size ∧ p.1 = .slice PA p.2.2.1.length pc ∧ w.cell? ⟨g, k * 6, none⟩ = some (.int .i64 p.2.1) ∧ w.cell? ⟨g, k * 6 + 1, none⟩ = some p.1 ∧ w.cell? ⟨g, k * 6 + 2, none⟩ = some (.int .i64 p.2.2.2.1.1) ∧ w.cell? ⟨g, k * 6 + 3, none⟩ = some (.int .i64 p.2.2.2.1.2) ∧ w.cell? ⟨g, k * 6 + 4, none⟩ = some (.int .i64 p.2.2.2.2.1) ∧ w.cell? ⟨g, k * 6 + 5, none⟩ = some (.int .i64 p.2.2.2.2.2) := by
  have hk : k < L.length := (List.getElem?_eq_some_iff.1 hp).1
  obtain ⟨PA, pc, e⟩ := rwo_val (h.2 p (List.mem_of_getElem? hp))
  rcases h.1.2 with ⟨-, h2⟩ | ⟨g, cap, cur, rfl, hb, hg, -⟩
  · omega
  · have c0 := h.1.cells (g := g) rfl (k * 6 + 0) _ (chs_get L k p hp 0 _ rfl)
    have c1 := h.1.cells (g := g) rfl (k * 6 + 1) _ (chs_get L k p hp 1 _ rfl)
    have c2 := h.1.cells (g := g) rfl (k * 6 + 2) _ (chs_get L k p hp 2 _ rfl)
    have c3 := h.1.cells (g := g) rfl (k * 6 + 3) _ (chs_get L k p hp 3 _ rfl)
    have c4 := h.1.cells (g := g) rfl (k * 6 + 4) _ (chs_get L k p hp 4 _ rfl)
    have c5 := h.1.cells (g := g) rfl (k * 6 + 5) _ (chs_get L k p hp 5 _ rfl)
    rw [add_plain, Nat.zero_add] at c0 c1 c2 c3 c4 c5
    exact ⟨g, cap, PA, pc, rfl, block_lt_of_cell c0, e, c0, c1, c2, c3, c4, c5⟩
set_option maxHeartbeats 8000000 in
set_option maxRecDepth 100000 in
theorem refSameChange_c (c : Ch) (u v : Value) (w : World) (hu : Rw w [] u c.2.1) (hv : Rw w [] v c.2.1) : Calls Tryz.prog 12 #[chV u c, chV v c] w fun e w' => e = .returned (.bool true) ∧ Ext w w' := by
  have hsm := hide (fun w' (hX : Ext w w') => refRowSame_c (Sl.ext hu hX) (Sl.ext hv hX))
  obtain ⟨UA, uc, rfl⟩ := rw_val hu
  obtain ⟨VA, vc, rfl⟩ := rw_val hv
  obtain ⟨cs, cr, ⟨o1, o2⟩, n1, n2⟩ := c
  rw [decide_eq_true rfl] at hsm
  clear hu hv
  simp only at *
  go_enter Tryz.func12, Tryz.ntmps12
  go_wp2_with (go_at_call 23; first | ((with_reducible refine seq_gw' (hsm.out _ Gn.ext) ?_); intro g) | ((with_reducible refine seq_gw (hsm.out _ Gn.ext) ?_); intro g))
  go_returns
  exact ⟨by first | rfl | simp, Gn.ext⟩
set_option maxHeartbeats 8000000 in
set_option maxRecDepth 100000 in
theorem alike_c (w : World) {b1 b2 : Nat} {u v : Value} {M N : List (Value × Ch)} (hM : OwnCh w b1 u M) (hN : OwnCh w b2 v N) (he : M.map Prod.snd = N.map Prod.snd) (hl : M.length ≤ 100000) : Calls Tryz.prog 15 #[u, v] w fun e w' => e = .returned (.bool true) ∧ Ext w w' := by
  obtain ⟨A1, c1, rfl⟩ := hM.form
  obtain ⟨A2, c2, rfl⟩ := hN.form
  have hLL := hide (show M.length = N.length by have := congrArg List.length he; rwa [List.length_map, List.length_map] at this)
  have hne : ((M.length : Int) != (N.length : Int)) = false := by rw [hLL.out]; exact bne_self_eq_false _
  have hne2 : decide ((M.length : Int) = (N.length : Int)) = true := by rw [hLL.out]; exact decide_eq_true rfl
  have hnl : N.length ≤ 100000 := by have := hLL.out; omega
  replace hM := hide hM
  replace hN := hide hN
  replace he := hide he
  go_enter Tryz.func15, Tryz.ntmps15
  go_wp2_with fail
  go_loopg [5] M.length (fun gh iv wr => ∃ (k : Nat), iv = .int .i64 k ∧ k + gh = M.length ∧ Hid (Ext w wr))
  case atStart => exact ⟨0, rfl, by omega, Ext.refl _⟩
  case round =>
    obtain ⟨k, rfl, hk, hX⟩ := hrel
    by_cases hkl : k < M.length
    · have hkI : (k : Int) < M.length := by omega
      have hkI2 : (k : Int) < N.length := by have := hLL.out; omega
      obtain ⟨x, hx⟩ : ∃ x, M[k]? = some x := ⟨_, List.getElem?_eq_getElem hkl⟩
      obtain ⟨y, hy⟩ : ∃ y, N[k]? = some y := ⟨_, List.getElem?_eq_getElem (by rw [← hLL.out]; exact hkl)⟩
      have hxy : x.2 = y.2 := by
        have h1 := congrArg (fun l => l[k]?) he.out
        simp only [List.getElem?_map, hx, hy, Option.map_some] at h1
        exact Option.some.inj h1
      obtain ⟨ga, ca, PA, pa, ea, la, ya, x0, x1, x2, x3, x4, x5⟩ := own_chat (hM.out.ext hX.out) hx
      obtain ⟨gb, cb, PB, pb, eb, lb, yb, y0, y1, y2, y3, y4, y5⟩ := own_chat (hN.out.ext hX.out) hy
      have rx := hide ((hM.out.ext hX.out).2 x (List.mem_of_getElem? hx)).rw
      have ry := hide ((hN.out.ext hX.out).2 y (List.mem_of_getElem? hy)).rw
      cases ea
      cases eb
      haveI : In ga wr := ⟨la⟩
      haveI : In gb wr := ⟨lb⟩
      obtain ⟨xv, xs, xr, ⟨xo1, xo2⟩, xn1, xn2⟩ := x
      obtain ⟨yv, yc⟩ := y
      simp only at hxy
      subst hxy
      simp only at ya yb x0 x1 x2 x3 x4 x5 y0 y1 y2 y3 y4 y5 rx ry
      subst ya
      subst yb
      have hsm := hide (fun w' (hx' : Ext wr w') => refSameChange_c (xs, xr, (xo1, xo2), xn1, xn2) _ _ w' (Sl.ext rx.out hx') (Sl.ext ry.out hx'))
      obtain ⟨xl, hxl⟩ : ∃ xl, xl = xr.length := ⟨_, rfl⟩
      rw [← hxl] at hsm x1 y1
      replace hxl := hide hxl
      clear hx hy rx ry
      go_wp2_with fail
      refine wp_region_gw (by kernel_rfl) (by kernel_rfl) ?_
      repeat (go_big_quiet_step ((go_at_call 12; exact quiet_gw (hsm.out _ Gn.ext))))
      refine wpQuiet_nil ?_
      intro g4
      go_wp2_with fail
      go_roundg (M.length - (k + 1))
      case measure => omega
      case rel => exact ⟨k + 1, by go_num, by omega, hX.out.trans g4.grown⟩
    · have hge : (M.length : Int) ≤ k := by omega
      go_wp2_with fail
      go_returns
      exact ⟨by first | rfl | simp, hX.out⟩
end Go.Proofs.YtajelkkiijdegaaGreat
set_option linter.unusedVariables false
set_option linter.unusedSimpArgs false
namespace Go.Proofs.YtajelkkiijdegaaGreat
open Go.RowKit
attribute [local go_sem] GW.cell GW.frozen In.eq_true In.le_true In.ne In.ne' In.ne_add In.ne_add' In.lt_add Upto.le_true Upto.le_add Upto.lt_add
section
variable {base p : Nat} {sc : List Cl} {c ser : Int} {mb n : Nat} {L : List Pb}
end
end Go.Proofs.YtajelkkiijdegaaGreat
