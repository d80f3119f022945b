/-
  A helper of ours: no claim of its own. Layer 15 (queue): the one ahead of others; two items change places.
-/
import Derived.Test.YtjibolpegijhkaaQueA
import Derived.Test.YtjibolpegijhkaaReg2
set_option linter.unusedVariables false
set_option linter.unusedSimpArgs false
namespace Go.Proofs.Ytjibolpegijhkaa
open Go.RowKit
attribute [local go_sem] GW.cell GW.frozen In.eq_true In.le_true In.ne In.ne' In.ne_add In.ne_add' In.lt_add Upto.le_true Upto.le_add Upto.lt_add
/-- Places as cells. -/
def nc (l : List Nat) : List Value := l.map fun x : Nat => .int .i64 (x : Int)
abbrev Nw (w : World) (S : List Nat) (v : Value) (l : List Nat) : Prop := Sl w S 1 v l.length (nc l)
theorem nw_form {w : World} {S : List Nat} {v : Value} {l : List Nat} (h : Nw w S v l) : ∃ A cap, v = .slice A l.length cap ∧ l.length ≤ cap ∧ cap ≤ maxLen ∧
    ∀ (i : Nat) (x : Nat), l[i]? = some x → ∃ b o, A = some ⟨b, o, none⟩ ∧ b ∉ S ∧ b < w.heap.size ∧ w.cell? ⟨b, o + i, none⟩ = some (.int .i64 x) := by
  obtain ⟨A, cap, rfl, h1, h2, h3, h4⟩ := h
  refine ⟨A, cap, rfl, h1, h2, fun i x hx => ?_⟩
  have hg : (nc l)[i]? = some (.int .i64 x) := by simp [nc, hx]
  rcases h4 with h4 | ⟨b, o, rfl, hb, hc⟩
  · rw [h4] at hg; cases hg
  · have c0 := hc _ _ hg
    exact ⟨b, o, rfl, hb, block_lt_of_cell c0, c0⟩
/-- The one that is ahead, so far, and one more. -/
def aheadS (H : List It) (f j : Nat) : Nat := match H[j]?, H[f]? with
  | some x, some y => if isA x y = true then j else f
  | _, _ => f
def aheadL (H : List It) (f : Nat) (js : List Nat) : Nat := js.foldl (aheadS H) f
theorem aheadL_snoc (H : List It) (f : Nat) (js : List Nat) (j : Nat) : aheadL H f (js ++ [j]) = aheadS H (aheadL H f js) j := by simp [aheadL]
theorem aheadS_lt {H : List It} {f j : Nat} (hf : f < H.length) : aheadS H f j < H.length := by
  unfold aheadS
  split
  · rename_i x y h1 h2
    split
    · exact (List.getElem?_eq_some_iff.1 h1).1
    · exact hf
  · exact hf
theorem aheadS_yes {H : List It} {f j : Nat} {x y : It} (hx : H[j]? = some x) (hy : H[f]? = some y) : aheadS H f j = if isA x y = true then j else f := by unfold aheadS; rw [hx, hy]
theorem aheadS_no {H : List It} {f j : Nat} (h : H.length ≤ j) : aheadS H f j = f := by unfold aheadS; rw [List.getElem?_eq_none h]
set_option maxHeartbeats 8000000 in
set_option maxRecDepth 100000 in
theorem ahead_c (H : List It) (hH : H.length ≤ 1000000000) (q f : Nat) (js : List Nat) (hf : 0 < H.length → f < H.length) (B : Nat) (v : Value) (n : Int) (z : Value) (w : World) (h : Qb w q v n) (hi : OwnI w B v H) (hz : Nw w [] z js) :
    Calls Try.prog 21 #[.pointer (some ⟨q, 0, none⟩), .int .i64 f, z] w fun e w' => e = .returned (.int .i64 (aheadL H f js)) ∧ Ext w w' := by
  obtain ⟨A, cap, rfl, hl, hm, hat⟩ := nw_form hz
  unfold maxLen at hm
  obtain ⟨G, hcap, rfl⟩ := own_form hi
  have hHI : (H.length : Int) ≤ 1000000000 := by omega
  replace hat := hide hat
  replace h := hide h
  replace hi := hide hi
  clear hz
  obtain ⟨R, hR⟩ : ∃ R, R = aheadL H f js := ⟨_, rfl⟩
  rw [← hR]
  replace hR := hide hR
  obtain ⟨N, hN⟩ : ∃ N, N = H.length := ⟨_, rfl⟩
  have hNh := hide hN
  rw [← hN] at hH hf hHI
  have hqc := hide (Ob.cell h.out 1 rfl)
  rw [← hN] at hqc
  go_enter Try.func21, Try.ntmps21
  go_wp2_with fail
  go_loopg [1, 11] js.length (fun gh fv i wr => ∃ (k f' : Nat), fv = .int .i64 f' ∧ i = .int .i64 k ∧ k + gh = js.length ∧ (0 < N → f' < N) ∧ Hid (f' = aheadL H f (js.take k)) ∧ Ext w wr)
  case atStart => exact ⟨0, f, rfl, rfl, by omega, hf, rfl, Ext.refl w⟩
  case round =>
    obtain ⟨k, f', rfl, rfl, hk, hf', hfe, hX⟩ := hrel
    have q1 := jcell_later hX hqc.out
    have hqr : q < wr.heap.size := block_lt_of_cell q1
    haveI : In q wr := ⟨hqr⟩
    by_cases hlt : k < js.length
    · obtain ⟨j, hj⟩ : ∃ j, js[k]? = some j := ⟨_, List.getElem?_eq_getElem hlt⟩
      obtain ⟨b, o, rfl, -, hbl, c0⟩ := hat.out k j hj
      have k0 := jcell_later hX c0
      have hbr : b < wr.heap.size := block_lt_of_cell k0
      haveI : In b wr := ⟨hbr⟩
      have hnx : aheadL H f (js.take (k + 1)) = aheadS H f' j := by rw [take_snoc hj, aheadL_snoc, hfe.out]
      have hltI : (k : Int) < js.length := by omega
      by_cases hjn : j < N
      · replace hf' := hf' (by omega)
        obtain ⟨g, hcap', eG, hgB, hgl, hc1, hc2⟩ := item_block hi.out (by omega)
        simp only [Value.slice.injEq, true_and] at eG
        obtain ⟨rfl, rfl⟩ := eG
        have hgr : g < wr.heap.size := Nat.lt_of_lt_of_le hgl hX.size
        haveI : In g wr := ⟨hgr⟩
        obtain ⟨y, hy⟩ : ∃ y, H[f']? = some y := ⟨_, List.getElem?_eq_getElem (by omega)⟩
        obtain ⟨x, hx⟩ : ∃ x, H[j]? = some x := ⟨_, List.getElem?_eq_getElem (by omega)⟩
        obtain ⟨x0, x1, x2⟩ := item_cells (own_ext hi.out hX) hx
        obtain ⟨y0, y1, y2⟩ := item_cells (own_ext hi.out hX) hy
        have hA := hide (fun w' (hX' : Ext wr w') => isAhead_c q _ n x y w' (Ob.ext h.out (hX.trans hX')))
        rw [aheadS_yes hx hy] at hnx
        have d1 : decide ((j : Int) < (N : Int)) = true := by rw [decide_eq_true_iff]; omega
        have hjI : (j : Int) < N := by omega
        have hfI : (f' : Int) < N := by omega
        obtain ⟨⟨xa, xn⟩, xk⟩ := x
        obtain ⟨⟨ya, yn⟩, yk⟩ := y
        simp only at x0 x1 x2 y0 y1 y2
        clear hx hy hat hN c0 hi h hj
        generalize isA ((xa, xn), xk) ((ya, yn), yk) = m at *
        cases m
        · rw [if_neg (by decide)] at hnx
          replace hnx := hide hnx
          go_wp2_with fail
          refine wp_region_gw (by kernel_rfl) (by kernel_rfl) ?_
          repeat (go_big_quiet_step ((go_at_call 24; with_reducible exact quiet_gw (hA.out _ (GW.grown _)))))
          refine wpQuiet_nil ?_
          intro g7
          go_wp2_with fail
          go_roundg (js.length - (k + 1))
          case measure => omega
          case rel => exact ⟨k + 1, f', rfl, by go_num, by omega, fun _ => hf', hnx.out.symm, hX.trans g7.grown⟩
        · rw [if_pos rfl] at hnx
          replace hnx := hide hnx
          go_wp2_with fail
          refine wp_region_gw (by kernel_rfl) (by kernel_rfl) ?_
          repeat (go_big_quiet_step ((go_at_call 24; with_reducible exact quiet_gw (hA.out _ (GW.grown _)))))
          refine wpQuiet_nil ?_
          intro g7
          go_wp2_with fail
          go_roundg (js.length - (k + 1))
          case measure => omega
          case rel => exact ⟨k + 1, j, rfl, by go_num, by omega, fun _ => hjn, hnx.out.symm, hX.trans g7.grown⟩
      · rw [aheadS_no (by omega)] at hnx
        replace hnx := hide hnx
        have d1 : decide ((j : Int) < (N : Int)) = false := by rw [decide_eq_false_iff_not]; omega
        clear hat hN c0 hi h hj
        go_wp2_with fail
        refine wp_region_gw (by kernel_rfl) (by kernel_rfl) ?_
        repeat (go_big_quiet_step (fail))
        refine wpQuiet_nil ?_
        intro g7
        go_wp2_with fail
        go_roundg (js.length - (k + 1))
        case measure => omega
        case rel => exact ⟨k + 1, f', rfl, by go_num, by omega, hf', hnx.out.symm, hX.trans g7.grown⟩
    · have hge : (js.length : Int) ≤ k := by omega
      have hRf : Hid (R = f') := by show _ = _; rw [hR.out, hfe.out, List.take_of_length_le (by omega)]
      clear hfe hR hat
      go_wp2_with fail
      go_returns
      rw [hRf.out]
      exact ⟨rfl, hX⟩
section
variable {P : Program} {ops : Array Oper} {Φ : Nat → Value → World → Prop} {Q : Exit → Act → World → Prop} {G : World → World → Prop} {J : (Nat → Bool) → World → Prop}
theorem goodM_done {i : Nat} {o : Oper} {b : Act} {w : World} {Lf : Nat → Bool} (hGe : ∀ x y, Ext x y → G x y) (hJe : ∀ L x y, J L x → Ext x y → J L y) (hJ : J (done Lf i) w) (h : RGood P ops Φ Q i o b w) : RGoodM P ops Φ G J Q i o Lf b w := by
  rcases h with ⟨hw, hwp⟩ | ⟨hw, hv⟩
  · exact .inl ⟨hw, Oper.wp_mono (fun b' w' ⟨v, e, h1, h2⟩ => ⟨v, e, h1, hGe _ _ h2, hJe _ _ _ hJ h2⟩) hwp⟩
  · exact .inr ⟨hw, hv, hJ⟩
end
/-- While two items change places: what is there, by what has been stored. -/
abbrev swJ (q : Nat) (v : Value) (n : Int) (B N : Nat) (X0 X1 X2 : List Value) (Lf : Nat → Bool) (ww : World) : Prop :=
  Qb ww q v n ∧ (∃ xs, ww.ownsRow B 49 3 v N xs ∧ (Lf 25 = false → xs = X0) ∧ (Lf 25 = true → Lf 27 = false → xs = X1) ∧ (Lf 27 = true → xs = X2)) ∧ (Lf 25 = true → Lf 16 = true ∧ Lf 23 = true) ∧ (Lf 27 = true → Lf 25 = true)
section
variable {q : Nat} {v : Value} {n : Int} {B N : Nat} {X0 X1 X2 : List Value}
theorem swJ_ext {L : Nat → Bool} {x y : World} (hJ : swJ q v n B N X0 X1 X2 L x) (hx : Ext x y) : swJ q v n B N X0 X1 X2 L y := by
  obtain ⟨k1, ⟨xs, k2, k3⟩, k4⟩ := hJ
  exact ⟨Ob.ext k1 hx, ⟨xs, own_ext k2 hx, k3⟩, k4⟩
theorem swJ_keys (L L' : Nat → Bool) (x : World) (hk : ∀ k, k ∈ [16, 23, 25, 27] → L k = L' k) (hJ : swJ q v n B N X0 X1 X2 L x) : swJ q v n B N X0 X1 X2 L' x := by
  have e16 := hk 16 (by simp)
  have e23 := hk 23 (by simp)
  have e25 := hk 25 (by simp)
  have e27 := hk 27 (by simp)
  unfold swJ at hJ ⊢
  rw [← e16, ← e23, ← e25, ← e27]
  exact hJ
theorem swJ_done {L : Nat → Bool} {x : World} {k : Nat} (hk : k = 16 ∨ k = 23) (hL : L 25 = false) (hJ : swJ q v n B N X0 X1 X2 L x) : swJ q v n B N X0 X1 X2 (done L k) x := by
  have d25 : done L k 25 = L 25 := by unfold done; rw [if_neg (by omega)]
  have d27 : done L k 27 = L 27 := by unfold done; rw [if_neg (by omega)]
  unfold swJ at hJ ⊢
  rw [d25, d27]
  obtain ⟨k1, k2, k3, k4⟩ := hJ
  exact ⟨k1, k2, fun h => (by rw [hL] at h; cases h), k4⟩
end
theorem Ft.of_fr {B : Nat} {Ts : List TypeId} {w w' : World} {g : Nat} {cur : Array Value} {T : TypeId} {fz : Nat × Nat} (h : Fr [g] w w') (hB : B ≤ g) (hg : w.heap[g]? = some (.cells cur T fz)) (hT : T ∈ Ts) : Ft B Ts w w' :=
  ⟨h.os, h.tape, h.output, h.size, fun k hk hc => h.block k hk fun m => by
    rw [List.mem_singleton] at m; subst m
    rcases hc with hc | hc
    · omega
    · exact hc _ _ _ hg hT⟩
set_option maxHeartbeats 8000000 in
set_option maxRecDepth 100000 in
theorem swap_c (H : List It) (hH : H.length ≤ 1000000000) (q i j : Nat) (hi' : i < H.length) (hj' : j < H.length) (hij : i ≠ j) (B : Nat) (v : Value) (n : Int) (w : World) (h : Qb w q v n) (hi : OwnI w B v H) (hq : B ≤ q) :
    Calls Try.prog 22 #[.pointer (some ⟨q, 0, none⟩), .int .i64 i, .int .i64 j] w fun e w' => e = .returned (.tuple #[]) ∧ Qb w' q v n ∧ OwnI w' B v (swp H i j) ∧ Ft B [47, 49] w w' := by
  have hFt := hide (Ft.refl (B := B) (Ts := [47, 49]) w)
  obtain ⟨g, hcap, rfl, hgB, hgl, hc1, hc2⟩ := item_block hi (by omega)
  obtain ⟨x, hx⟩ : ∃ x, H[i]? = some x := ⟨_, List.getElem?_eq_getElem hi'⟩
  obtain ⟨y, hy⟩ : ∃ y, H[j]? = some y := ⟨_, List.getElem?_eq_getElem hj'⟩
  obtain ⟨x0, x1, x2⟩ := item_cells hi hx
  obtain ⟨y0, y1, y2⟩ := item_cells hi hy
  have fi : ∀ k, w.frozen? ⟨g, k, none⟩ = false := fun k => World.ownsRow.frozenAt hi k
  have fi0 := fi (i * 3)
  have fi1 := fi (i * 3 + 1)
  have fi2 := fi (i * 3 + 2)
  have fj0 := fi (j * 3)
  have fj1 := fi (j * 3 + 1)
  have fj2 := fi (j * 3 + 2)
  have q1 := Ob.cell h 1 rfl
  have hqr := Ob.lt h
  haveI : In q w := ⟨hqr⟩
  haveI : In g w := ⟨hgl⟩
  have hqg : q ≠ g := fun e => Ob.not_own h hi (by decide) (by rw [e]; rfl)
  have hiI : (i : Int) < H.length := by omega
  have hjI : (j : Int) < H.length := by omega
  have hHI : (H.length : Int) ≤ 1000000000 := by omega
  have hsw : Hid (itc (swp H i j) = ((((((itc H).set (i * 3) (.int .i64 y.1.1)).set (i * 3 + 1) (.int .i64 y.1.2)).set (i * 3 + 2) (.int .i64 y.2)).set (j * 3) (.int .i64 x.1.1)).set (j * 3 + 1) (.int .i64 x.1.2)).set (j * 3 + 2) (.int .i64 x.2)) := by
    show _ = _
    unfold swp
    rw [hx, hy, itc_set _ _ _ (by simpa using hj'), itc_set _ _ _ hi']
    rfl
  obtain ⟨⟨xa, xn⟩, xk⟩ := x
  obtain ⟨⟨ya, yn⟩, yk⟩ := y
  simp only at x0 x1 x2 y0 y1 y2
  replace h := hide h
  replace hi := hide hi
  have hlen := hide (swp_length H i j)
  have hxx := hide hx
  have hyy := hide hy
  clear hx hy fi
  generalize swp H i j = H2 at *
  obtain ⟨N, hN⟩ : ∃ N, N = H.length := ⟨_, rfl⟩
  have hNh := hide hN
  have hiN : i < N := by omega
  have hjN : j < N := by omega
  rw [← hN] at hi' hj' hc1 hiI hjI hHI q1
  have ho0 : w.ownsRow B 49 3 (.slice (some ⟨g, 0, none⟩) N hcap) N (itc H) := by rw [hN]; exact hi.out
  obtain ⟨h0x, h1x, h2x⟩ := itc_get H i _ hxx.out
  obtain ⟨h0y, h1y, h2y⟩ := itc_get H j _ hyy.out
  have rx0 := h0x
  have rx1 := h1x
  have rx2 := h2x
  have ry0 := h0y
  have ry1 := h1y
  have ry2 := h2y
  have hQ0 : Qb w q (.slice (some ⟨g, 0, none⟩) N hcap) n := by rw [hN]; exact h.out
  have hJe : ∀ L x y, swJ q (.slice (some ⟨g, 0, none⟩) N hcap) n B N (itc H) ((((itc H).set (i * 3) (.int .i64 ya)).set (i * 3 + 1) (.int .i64 yn)).set (i * 3 + 2) (.int .i64 yk)) (((((((itc H).set (i * 3) (.int .i64 ya)).set (i * 3 + 1) (.int .i64 yn)).set (i * 3 + 2) (.int .i64 yk)).set (j * 3) (.int .i64 xa)).set (j * 3 + 1) (.int .i64 xn)).set (j * 3 + 2) (.int .i64 xk)) L x → Ext x y → swJ q (.slice (some ⟨g, 0, none⟩) N hcap) n B N (itc H) ((((itc H).set (i * 3) (.int .i64 ya)).set (i * 3 + 1) (.int .i64 yn)).set (i * 3 + 2) (.int .i64 yk)) (((((((itc H).set (i * 3) (.int .i64 ya)).set (i * 3 + 1) (.int .i64 yn)).set (i * 3 + 2) (.int .i64 yk)).set (j * 3) (.int .i64 xa)).set (j * 3 + 1) (.int .i64 xn)).set (j * 3 + 2) (.int .i64 xk)) L y := fun _ _ _ h k => swJ_ext h k
  have hJ0 : swJ q (.slice (some ⟨g, 0, none⟩) N hcap) n B N (itc H) ((((itc H).set (i * 3) (.int .i64 ya)).set (i * 3 + 1) (.int .i64 yn)).set (i * 3 + 2) (.int .i64 yk)) (((((((itc H).set (i * 3) (.int .i64 ya)).set (i * 3 + 1) (.int .i64 yn)).set (i * 3 + 2) (.int .i64 yk)).set (j * 3) (.int .i64 xa)).set (j * 3 + 1) (.int .i64 xn)).set (j * 3 + 2) (.int .i64 xk)) (fun _ => false) w := 
    ⟨hQ0, ⟨_, ho0, fun _ => rfl, fun h => (by cases h), fun h => (by cases h)⟩, fun h => (by cases h), fun h => (by cases h)⟩
  have hiI' : (i : Int) < N := hiI
  have hjI' : (j : Int) < N := hjI
  go_enter Try.func22, Try.ntmps22
  clear hN
  --SWAP
  refine wp_region_objs (S := [g]) [.is (.pointer (some ⟨q, 0, none⟩)), .is (.pointer (some ⟨q, 0, none⟩)), .is (.pointer (some ⟨q, 1, none⟩)), .is (.slice (some ⟨g, 0, none⟩) N hcap), .is (.int .i64 i), .is (.pointer (some ⟨q, 0, none⟩)), .is (.pointer (some ⟨q, 0, none⟩)), .is (.pointer (some ⟨q, 1, none⟩)), .is (.slice (some ⟨g, 0, none⟩) N hcap), .is (.int .i64 j), .is (.pointer (some ⟨q, 0, none⟩)), .is (.pointer (some ⟨q, 0, none⟩)), .is (.pointer (some ⟨q, 1, none⟩)), .is (.slice (some ⟨g, 0, none⟩) N hcap), .is (.int .i64 j), .is (.pointer (some ⟨g, j * 3, none⟩)), .is (.agg #[.int .i64 ya, .int .i64 yn, .int .i64 yk]), .is (.pointer (some ⟨q, 0, none⟩)), .is (.pointer (some ⟨q, 0, none⟩)), .is (.pointer (some ⟨q, 1, none⟩)), .is (.slice (some ⟨g, 0, none⟩) N hcap), .is (.int .i64 i), .is (.pointer (some ⟨g, i * 3, none⟩)), .is (.agg #[.int .i64 xa, .int .i64 xn, .int .i64 xk]), .is (.pointer (some ⟨g, i * 3, none⟩)), .any, .is (.pointer (some ⟨g, j * 3, none⟩)), .any] (fun Lf ww => swJ q (.slice (some ⟨g, 0, none⟩) N hcap) n B N (itc H) ((((itc H).set (i * 3) (.int .i64 ya)).set (i * 3 + 1) (.int .i64 yn)).set (i * 3 + 2) (.int .i64 yk)) (((((((itc H).set (i * 3) (.int .i64 ya)).set (i * 3 + 1) (.int .i64 yn)).set (i * 3 + 2) (.int .i64 yk)).set (j * 3) (.int .i64 xa)).set (j * 3 + 1) (.int .i64 xn)).set (j * 3 + 2) (.int .i64 xk)) Lf ww) [16, 23, 25, 27] (by kernel_rfl) (by kernel_rfl) (by kernel_rfl) hJe swJ_keys hJ0 ?_ ?_
  · refine ⟨?_, ?_, ?_, ?_, ?_, ?_, ?_, ?_, ?_, ?_, ?_, ?_, ?_, ?_, ?_, ?_, ?_, ?_, ?_, ?_, ?_, ?_, ?_, ?_, ?_, ?_, ?_, ?_, trivial⟩
    · intro b w' Lf h
      have f0 : b.tmps.getD 0 undef = (.pointer (some ⟨q, 0, none⟩)) := h.else_ 0 (of_decide_eq_true (by kernel_rfl))
      exact .inl ⟨by decide, good_move (wanted_none rfl) rfl f0⟩
    · intro b w' Lf h
      have f6 : b.tmps.getD 6 undef = (.pointer (some ⟨q, 0, none⟩)) := h.dep 0 _ 6 (by kernel_rfl) rfl rfl
      exact .inl ⟨by decide, good_nilCheck (wanted_none rfl) rfl f6 rfl⟩
    · intro b w' Lf h
      have f7 : b.tmps.getD 7 undef = (.pointer (some ⟨q, 0, none⟩)) := h.dep 1 _ 7 (by kernel_rfl) rfl rfl
      exact .inl ⟨by decide, good_field (wanted_none rfl) rfl f7 (by simp [go_sem]) rfl⟩
    · intro b w' Lf h
      have f8 : b.tmps.getD 8 undef = (.pointer (some ⟨q, 1, none⟩)) := h.dep 2 _ 8 (by kernel_rfl) rfl rfl
      have c := Ob.cell h.obj.1 1 rfl
      exact .inl ⟨by decide, good_load (wanted_none rfl) rfl f8 (by simp [go_sem, c]) rfl⟩
    · intro b w' Lf h
      have f1 : b.tmps.getD 1 undef = (.int .i64 i) := h.else_ 1 (of_decide_eq_true (by kernel_rfl))
      exact .inl ⟨by decide, good_move (wanted_none rfl) rfl f1⟩
    · intro b w' Lf h
      have f0 : b.tmps.getD 0 undef = (.pointer (some ⟨q, 0, none⟩)) := h.else_ 0 (of_decide_eq_true (by kernel_rfl))
      exact .inl ⟨by decide, good_move (wanted_none rfl) rfl f0⟩
    · intro b w' Lf h
      have f11 : b.tmps.getD 11 undef = (.pointer (some ⟨q, 0, none⟩)) := h.dep 5 _ 11 (by kernel_rfl) rfl rfl
      exact .inl ⟨by decide, good_nilCheck (wanted_none rfl) rfl f11 rfl⟩
    · intro b w' Lf h
      have f12 : b.tmps.getD 12 undef = (.pointer (some ⟨q, 0, none⟩)) := h.dep 6 _ 12 (by kernel_rfl) rfl rfl
      exact .inl ⟨by decide, good_field (wanted_none rfl) rfl f12 (by simp [go_sem]) rfl⟩
    · intro b w' Lf h
      have f13 : b.tmps.getD 13 undef = (.pointer (some ⟨q, 1, none⟩)) := h.dep 7 _ 13 (by kernel_rfl) rfl rfl
      have c := Ob.cell h.obj.1 1 rfl
      exact .inl ⟨by decide, good_load (wanted_none rfl) rfl f13 (by simp [go_sem, c]) rfl⟩
    · intro b w' Lf h
      have f2 : b.tmps.getD 2 undef = (.int .i64 j) := h.else_ 2 (of_decide_eq_true (by kernel_rfl))
      exact .inl ⟨by decide, good_move (wanted_none rfl) rfl f2⟩
    · intro b w' Lf h
      have f0 : b.tmps.getD 0 undef = (.pointer (some ⟨q, 0, none⟩)) := h.else_ 0 (of_decide_eq_true (by kernel_rfl))
      exact .inl ⟨by decide, good_move (wanted_none rfl) rfl f0⟩
    · intro b w' Lf h
      have f16 : b.tmps.getD 16 undef = (.pointer (some ⟨q, 0, none⟩)) := h.dep 10 _ 16 (by kernel_rfl) rfl rfl
      exact .inl ⟨by decide, good_nilCheck (wanted_none rfl) rfl f16 rfl⟩
    · intro b w' Lf h
      have f17 : b.tmps.getD 17 undef = (.pointer (some ⟨q, 0, none⟩)) := h.dep 11 _ 17 (by kernel_rfl) rfl rfl
      exact .inl ⟨by decide, good_field (wanted_none rfl) rfl f17 (by simp [go_sem]) rfl⟩
    · intro b w' Lf h
      have f18 : b.tmps.getD 18 undef = (.pointer (some ⟨q, 1, none⟩)) := h.dep 12 _ 18 (by kernel_rfl) rfl rfl
      have c := Ob.cell h.obj.1 1 rfl
      exact .inl ⟨by decide, good_load (wanted_none rfl) rfl f18 (by simp [go_sem, c]) rfl⟩
    · intro b w' Lf h
      have f2 : b.tmps.getD 2 undef = (.int .i64 j) := h.else_ 2 (of_decide_eq_true (by kernel_rfl))
      exact .inl ⟨by decide, good_move (wanted_none rfl) rfl f2⟩
    · intro b w' Lf h
      have f19 : b.tmps.getD 19 undef = (.slice (some ⟨g, 0, none⟩) N hcap) := h.dep 13 _ 19 (by kernel_rfl) rfl rfl
      have f20 : b.tmps.getD 20 undef = (.int .i64 j) := h.dep 14 _ 20 (by kernel_rfl) rfl rfl
      exact .inl ⟨by decide, good_index (wanted_none rfl) rfl f19 f20 (by simp [go_sem, hjI]) rfl⟩
    · intro b w' Lf h
      have f21 : b.tmps.getD 21 undef = (.pointer (some ⟨g, j * 3, none⟩)) := h.dep 15 _ 21 (by kernel_rfl) rfl rfl
      obtain ⟨hQ, ⟨xs, ho, e0, e1, e2⟩, e3, e4⟩ := h.obj
      have hL25 : Lf 25 = false := by cases hL : Lf 25 with | false => rfl | true => exact absurd (e3 hL).1 (by rw [h.fresh]; decide)
      obtain rfl := e0 hL25
      have c0 := (World.ownsRow.cellAt ho (j * 3) (by omega)).trans ry0
      have c1 := (World.ownsRow.cellAt ho (j * 3 + 1) (by omega)).trans ry1
      have c2 := (World.ownsRow.cellAt ho (j * 3 + 2) (by omega)).trans ry2
      exact .inr (goodM_done (fun _ _ h => Fr.of_ext h) hJe (swJ_done (by decide) hL25 h.obj) (good_load (wanted_none rfl) rfl f21 (by simp [go_sem, c0, c1, c2]; try rfl) rfl))
    · intro b w' Lf h
      have f0 : b.tmps.getD 0 undef = (.pointer (some ⟨q, 0, none⟩)) := h.else_ 0 (of_decide_eq_true (by kernel_rfl))
      exact .inl ⟨by decide, good_move (wanted_none rfl) rfl f0⟩
    · intro b w' Lf h
      have f23 : b.tmps.getD 23 undef = (.pointer (some ⟨q, 0, none⟩)) := h.dep 17 _ 23 (by kernel_rfl) rfl rfl
      exact .inl ⟨by decide, good_nilCheck (wanted_none rfl) rfl f23 rfl⟩
    · intro b w' Lf h
      have f24 : b.tmps.getD 24 undef = (.pointer (some ⟨q, 0, none⟩)) := h.dep 18 _ 24 (by kernel_rfl) rfl rfl
      exact .inl ⟨by decide, good_field (wanted_none rfl) rfl f24 (by simp [go_sem]) rfl⟩
    · intro b w' Lf h
      have f25 : b.tmps.getD 25 undef = (.pointer (some ⟨q, 1, none⟩)) := h.dep 19 _ 25 (by kernel_rfl) rfl rfl
      have c := Ob.cell h.obj.1 1 rfl
      exact .inl ⟨by decide, good_load (wanted_none rfl) rfl f25 (by simp [go_sem, c]) rfl⟩
    · intro b w' Lf h
      have f1 : b.tmps.getD 1 undef = (.int .i64 i) := h.else_ 1 (of_decide_eq_true (by kernel_rfl))
      exact .inl ⟨by decide, good_move (wanted_none rfl) rfl f1⟩
    · intro b w' Lf h
      have f26 : b.tmps.getD 26 undef = (.slice (some ⟨g, 0, none⟩) N hcap) := h.dep 20 _ 26 (by kernel_rfl) rfl rfl
      have f27 : b.tmps.getD 27 undef = (.int .i64 i) := h.dep 21 _ 27 (by kernel_rfl) rfl rfl
      exact .inl ⟨by decide, good_index (wanted_none rfl) rfl f26 f27 (by simp [go_sem, hiI]) rfl⟩
    · intro b w' Lf h
      have f28 : b.tmps.getD 28 undef = (.pointer (some ⟨g, i * 3, none⟩)) := h.dep 22 _ 28 (by kernel_rfl) rfl rfl
      obtain ⟨hQ, ⟨xs, ho, e0, e1, e2⟩, e3, e4⟩ := h.obj
      have hL25 : Lf 25 = false := by cases hL : Lf 25 with | false => rfl | true => exact absurd (e3 hL).2 (by rw [h.fresh]; decide)
      obtain rfl := e0 hL25
      have c0 := (World.ownsRow.cellAt ho (i * 3) (by omega)).trans rx0
      have c1 := (World.ownsRow.cellAt ho (i * 3 + 1) (by omega)).trans rx1
      have c2 := (World.ownsRow.cellAt ho (i * 3 + 2) (by omega)).trans rx2
      exact .inr (goodM_done (fun _ _ h => Fr.of_ext h) hJe (swJ_done (by decide) hL25 h.obj) (good_load (wanted_none rfl) rfl f28 (by simp [go_sem, c0, c1, c2]; try rfl) rfl))
    · intro b w' Lf h
      have f9 : b.tmps.getD 9 undef = (.slice (some ⟨g, 0, none⟩) N hcap) := h.dep 3 _ 9 (by kernel_rfl) rfl rfl
      have f10 : b.tmps.getD 10 undef = (.int .i64 i) := h.dep 4 _ 10 (by kernel_rfl) rfl rfl
      exact .inl ⟨by decide, good_index (wanted_none rfl) rfl f9 f10 (by simp [go_sem, hiI]) rfl⟩
    · intro b w' Lf h
      have f30 : b.tmps.getD 30 undef = (.pointer (some ⟨g, i * 3, none⟩)) := h.dep 24 _ 30 (by kernel_rfl) rfl rfl
      have f22 : b.tmps.getD 22 undef = (.agg #[.int .i64 ya, .int .i64 yn, .int .i64 yk]) := h.dep 16 _ 22 (by kernel_rfl) rfl rfl
      obtain ⟨hQ, ⟨xs, ho, e0, e1, e2⟩, e3, e4⟩ := h.obj
      have hxl := ho.1
      obtain ⟨u0, n0⟩ : ∃ u, w'.cell? ⟨g, i * 3, none⟩ = some u := ⟨_, (World.ownsRow.cellAt ho (i * 3) (by omega)).trans (List.getElem?_eq_getElem (by omega))⟩
      obtain ⟨u1, n1⟩ : ∃ u, w'.cell? ⟨g, i * 3 + 1, none⟩ = some u := ⟨_, (World.ownsRow.cellAt ho (i * 3 + 1) (by omega)).trans (List.getElem?_eq_getElem (by omega))⟩
      obtain ⟨u2, n2⟩ : ∃ u, w'.cell? ⟨g, i * 3 + 2, none⟩ = some u := ⟨_, (World.ownsRow.cellAt ho (i * 3 + 2) (by omega)).trans (List.getElem?_eq_getElem (by omega))⟩
      have x0' := World.ownsRow.frozenAt ho (i * 3)
      have x1' := World.ownsRow.frozenAt ho (i * 3 + 1)
      have x2' := World.ownsRow.frozenAt ho (i * 3 + 2)
      have hlt' := (World.ownsRow.lt ho g rfl).2
      refine .inr (.inl ⟨wanted_none rfl, ?_⟩)
      unfold Oper.wp
      simp [execOp, Act.eval, f30, f22, go_sem, n0, n1, n2, x0', x1', x2', hlt']
      have hF := (((Fr.refl [g] w').setCell ⟨g, i * 3, none⟩ (.int .i64 ya) (.inl (by simp))).setCell ⟨g, i * 3 + 1, none⟩ (.int .i64 yn) (.inl (by simp))).setCell ⟨g, i * 3 + 2, none⟩ (.int .i64 yk) (.inl (by simp))
      have o1 := (World.ownsRow.stored ho (i * 3) (.int .i64 ya)).1
      have o2 := (World.ownsRow.stored o1 (i * 3 + 1) (.int .i64 yn)).1
      have o3 := (World.ownsRow.stored o2 (i * 3 + 2) (.int .i64 yk)).1
      have d16 := h.deps 16 (by kernel_rfl)
      have d23 := h.deps 23 (by kernel_rfl)
      have hL27 : Lf 27 = false := by cases hL : Lf 27 with | false => rfl | true => exact absurd (e4 hL) (by rw [h.fresh]; decide)
      obtain rfl := e0 h.fresh
      exact ⟨⟨undef, trivial⟩, hF, Ob.fr hQ hF (by simp [hqg]), ⟨_, o3, fun hh => by simp [done] at hh, fun _ _ => rfl, fun hh => by simp [done, hL27] at hh⟩, fun _ => ⟨by simp [done, d16], by simp [done, d23]⟩, fun _ => by simp [done]⟩
    · intro b w' Lf h
      have f14 : b.tmps.getD 14 undef = (.slice (some ⟨g, 0, none⟩) N hcap) := h.dep 8 _ 14 (by kernel_rfl) rfl rfl
      have f15 : b.tmps.getD 15 undef = (.int .i64 j) := h.dep 9 _ 15 (by kernel_rfl) rfl rfl
      exact .inl ⟨by decide, good_index (wanted_none rfl) rfl f14 f15 (by simp [go_sem, hjI]) rfl⟩
    · intro b w' Lf h
      have f31 : b.tmps.getD 31 undef = (.pointer (some ⟨g, j * 3, none⟩)) := h.dep 26 _ 31 (by kernel_rfl) rfl rfl
      have f29 : b.tmps.getD 29 undef = (.agg #[.int .i64 xa, .int .i64 xn, .int .i64 xk]) := h.dep 23 _ 29 (by kernel_rfl) rfl rfl
      obtain ⟨hQ, ⟨xs, ho, e0, e1, e2⟩, e3, e4⟩ := h.obj
      have hxl := ho.1
      obtain ⟨u0, n0⟩ : ∃ u, w'.cell? ⟨g, j * 3, none⟩ = some u := ⟨_, (World.ownsRow.cellAt ho (j * 3) (by omega)).trans (List.getElem?_eq_getElem (by omega))⟩
      obtain ⟨u1, n1⟩ : ∃ u, w'.cell? ⟨g, j * 3 + 1, none⟩ = some u := ⟨_, (World.ownsRow.cellAt ho (j * 3 + 1) (by omega)).trans (List.getElem?_eq_getElem (by omega))⟩
      obtain ⟨u2, n2⟩ : ∃ u, w'.cell? ⟨g, j * 3 + 2, none⟩ = some u := ⟨_, (World.ownsRow.cellAt ho (j * 3 + 2) (by omega)).trans (List.getElem?_eq_getElem (by omega))⟩
      have x0' := World.ownsRow.frozenAt ho (j * 3)
      have x1' := World.ownsRow.frozenAt ho (j * 3 + 1)
      have x2' := World.ownsRow.frozenAt ho (j * 3 + 2)
      have hlt' := (World.ownsRow.lt ho g rfl).2
      refine .inr (.inl ⟨wanted_none rfl, ?_⟩)
      unfold Oper.wp
      simp [execOp, Act.eval, f31, f29, go_sem, n0, n1, n2, x0', x1', x2', hlt']
      have hF := (((Fr.refl [g] w').setCell ⟨g, j * 3, none⟩ (.int .i64 xa) (.inl (by simp))).setCell ⟨g, j * 3 + 1, none⟩ (.int .i64 xn) (.inl (by simp))).setCell ⟨g, j * 3 + 2, none⟩ (.int .i64 xk) (.inl (by simp))
      have o1 := (World.ownsRow.stored ho (j * 3) (.int .i64 xa)).1
      have o2 := (World.ownsRow.stored o1 (j * 3 + 1) (.int .i64 xn)).1
      have o3 := (World.ownsRow.stored o2 (j * 3 + 2) (.int .i64 xk)).1
      have d25 := h.deps 25 (by kernel_rfl)
      obtain rfl := e1 d25 h.fresh
      exact ⟨⟨undef, trivial⟩, hF, Ob.fr hQ hF (by simp [hqg]), ⟨_, o3, fun hh => by simp [done, d25] at hh, fun _ hh => by simp [done] at hh, fun _ => rfl⟩, fun _ => ⟨by simp [done, (e3 d25).1], by simp [done, (e3 d25).2]⟩, fun _ => by simp [done, d25]⟩
  intro b1 w7 hF7 hd7 hz7 he7 hf7 hJ7
  obtain ⟨hQ7, ⟨xs, ho7, -, -, e7⟩, -, -⟩ := hJ7 (fun j => decide (j < 28)) (by intro j hj; simpa using hj) (by intro j hj; simpa using hj)
  obtain rfl := e7 rfl
  clear hJ7 e7 hf7
  have e := frame_puts hd7 hz7 he7
  obtain ⟨x, hx⟩ : ∃ x : Nat → Value, ∀ d, b1.tmps.getD d undef = x d := ⟨_, fun _ => rfl⟩
  rw [show dstsOf _ = [6, 7, 8, 9, 10, 11, 12, 13, 14, 15, 16, 17, 18, 19, 20, 21, 22, 23, 24, 25, 26, 27, 28, 29, 30, 31] from rfl] at e
  simp only [List.foldl, hx, Act.put, List.setIfInBounds_toArray, List.set_cons_succ, List.set_cons_zero] at e
  --END
  subst e
  obtain ⟨_, cur, f, hcur⟩ := own_typed ho0 g rfl
  replace hcur := hide hcur
  go_wp2_with fail
  go_returns
  refine ⟨rfl, by rw [← hNh.out]; exact hQ7, ?_, Ft.of_fr hF7 hgB hcur.out (by simp)⟩
  unfold OwnI
  rw [hlen.out, hsw.out, ← hNh.out]
  exact ho7
end Go.Proofs.Ytjibolpegijhkaa
