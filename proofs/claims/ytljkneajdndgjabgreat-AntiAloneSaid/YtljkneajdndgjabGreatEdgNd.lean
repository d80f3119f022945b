/-
  A helper of ours: no claim of its own. Layer 10 (edge): edges put together, by the document.
-/
import Derived.Test.YtljkneajdndgjabGreatAntF
import Derived.Test.YtljkneajdndgjabGreatAntB
import Derived.Test.YtljkneajdndgjabGreatStepX
import Derived.Test.YtljkneajdndgjabGreatEdgRo
import Derived.Test.YtljkneajdndgjabGreatEdgPg
import Derived.Test.YtljkneajdndgjabGreatEdgBj
set_option linter.unusedVariables false
set_option linter.unusedSimpArgs false
namespace Go.Proofs.YtljkneajdndgjabGreat
open Go.RowKit
theorem fine_of {f : List Jp} (h : mayJ f = true) : ∀ j ∈ f, tooJ j = false ∧ nowJ j = false := fun j hj => by
  have h1 := (mayJ_iff.1 h).2.1 j hj
  unfold okJ at h1
  rw [decide_eq_true_iff] at h1
  unfold tooJ nowJ
  constructor <;> simp <;> omega
theorem nm_selfA {f : List Jp} (h : mayJ f = true) : nmOp f = (0, f) := by
  have hf := fine_of h
  have e : nmL f = f := one_form (nm_canon _) (mayJ_canon h) (nmL_lt _ fun j hj => (hf j hj).2) (fun j hj => (mayJ_at h j hj).2) fun t ht => nmL_val _ (fun j hj => (hf j hj).2) t ht
  have a1 : f.any tooJ = false := List.any_eq_false.2 fun j hj => by rw [(hf j hj).1]; decide
  have a2 : f.any nowJ = false := List.any_eq_false.2 fun j hj => by rw [(hf j hj).2]; decide
  have e1 : nmE f = 0 := by
    unfold nmE
    rw [a1, a2, if_neg (by decide), if_neg (by decide), e]
    exact full_zero.2 h
  unfold nmOp nmR
  rw [e1, if_pos rfl, e]
/-- A row's function where it has no partner is in form. -/
theorem woR_may {q : List Vl} {J : List Jp} {x : List Vl} {H : List Gp} (h : woE q J x H = 0) : mayJ (woR q J x H) = true := by
  unfold woE at h
  unfold woR
  split at h
  · rename_i h0
    rw [if_pos h0, twR_ok h]
    exact (twE_zero.1 h).2.2
  · rename_i h0
    exact absurd h h0
theorem bld_row {q : List Vl} {J : List Jp} {x : List Vl} {H : List Gp} (hq : mayR q = true) (h : woE q J x H = 0) : bld q (woR q J x H) = (woR q J x H).map fun j => (q, j) := by
  unfold bld
  rw [hq, woR_may h]
  rfl
/-- The document's steps: no look at the room. -/
def raGo (x : List Vl) (H : List Gp) : List Gp → List Ed → Int × List Ed
  | [], S => (0, S)
  | (q, J) :: G, S => if woE q J x H = 0 then raGo x H G (S ++ (woR q J x H).map fun j => (q, j)) else (woE q J x H, [])
theorem raGo_step {x : List Vl} {H G : List Gp} {k : Nat} {q : List Vl} {J : List Jp} {S : List Ed} (h : G[k]? = some (q, J)) (hz : woE q J x H = 0) : raGo x H (G.drop k) S = raGo x H (G.drop (k + 1)) (S ++ (woR q J x H).map fun j => (q, j)) := by
  obtain ⟨hlt, he⟩ := List.getElem?_eq_some_iff.1 h
  rw [List.drop_eq_getElem_cons hlt, he, raGo, if_pos hz]
theorem raGo_stop {x : List Vl} {H G : List Gp} {k : Nat} {q : List Vl} {J : List Jp} {S : List Ed} (h : G[k]? = some (q, J)) (hz : woE q J x H ≠ 0) : raGo x H (G.drop k) S = (woE q J x H, []) := by
  obtain ⟨hlt, he⟩ := List.getElem?_eq_some_iff.1 h
  rw [List.drop_eq_getElem_cons hlt, he, raGo, if_neg hz]
/-- Both ways at once. -/
theorem al_ra (x : List Vl) (H : List Gp) : ∀ (G : List Gp) (S D : List Ed), (∀ g ∈ G, mayR g.1 = true) → (S.length ≤ 4096 → S = D) → (4096 < S.length → 4096 < D.length) →
    (alGo x H G S).1 = (raGo x H G D).1 ∧ ((alGo x H G S).1 = 0 → ((alGo x H G S).2.length ≤ 4096 → (alGo x H G S).2 = (raGo x H G D).2) ∧ (4096 < (alGo x H G S).2.length → 4096 < (raGo x H G D).2.length))
  | [], S, D, _, h1, h2 => ⟨rfl, fun _ => ⟨h1, h2⟩⟩
  | (q, J) :: G, S, D, hv, h1, h2 => by
    have hq := hv (q, J) (List.mem_cons_self ..)
    simp only at hq
    rw [alGo, raGo]
    by_cases h0 : woE q J x H = 0
    · rw [if_pos h0, if_pos h0, bld_row hq h0]
      refine al_ra x H G _ _ (fun g hg => hv g (List.mem_cons_of_mem _ hg)) ?_ ?_
      · intro hl
        by_cases hs : S.length ≤ 4096
        · rw [if_pos hs, h1 hs]
        · rw [if_neg hs] at hl
          exact absurd hl hs
      · intro hl
        by_cases hs : S.length ≤ 4096
        · rw [if_pos hs, h1 hs] at hl
          exact hl
        · have := h2 (by omega)
          rw [List.length_append]
          omega
    · rw [if_neg h0, if_neg h0]
      exact ⟨rfl, fun h => absurd h h0⟩
/-- What the document has put together, if nothing is wrong. -/
theorem raGo_flat (x : List Vl) (H : List Gp) : ∀ (G : List Gp) (D : List Ed), (raGo x H G D).1 = 0 → (∀ g ∈ G, woE g.1 g.2 x H = 0) ∧ (raGo x H G D).2 = D ++ G.flatMap fun g => (woR g.1 g.2 x H).map fun j => (g.1, j)
  | [], D, _ => ⟨by simp, by simp [raGo]⟩
  | (q, J) :: G, D, h => by
    rw [raGo] at h ⊢
    by_cases h0 : woE q J x H = 0
    · rw [if_pos h0] at h ⊢
      obtain ⟨i1, i2⟩ := raGo_flat x H G _ h
      refine ⟨fun g hg => ?_, by rw [i2]; simp⟩
      rcases List.mem_cons.1 hg with rfl | hg
      · exact h0
      · exact i1 g hg
    · rw [if_neg h0] at h
      exact absurd h h0
def idO (J : List Jp) : Int × List Jp := (0, J)
/-- Edges of rows in order, each row's in form: norm takes them as they are, if there is room. -/
theorem ne_flat (F : List Vl → List Jp) (rows : List (List Vl)) (hp : rows.Pairwise rlt) (hv : ∀ r ∈ rows, mayR r = true) (hF : ∀ r ∈ rows, mayJ (F r) = true) (out : List Ed) (ho : out = evL idO (rows.map fun q => (q, F q))) :
    neE out = (if 4096 < out.length then 7 else 0) ∧ neR out = (if 4096 < out.length then [] else out) := by
  have hr : Rise out := by rw [ho]; exact rise_rows idO F rows hp hv
  have hj : ∀ r, mayJ (jmps out r) = true := fun r => by
    rw [ho, jmps_rows idO F r rows hp]
    split
    · rename_i h
      exact hF r (hasR_iff.1 h)
    · exact mayJ_nil
  have hb : ∀ e ∈ out, badE e = false ∧ nowJ e.2 = false := fun e he => by
    rw [ho] at he
    simp only [evL, List.mem_flatMap, List.mem_map] at he
    obtain ⟨g, ⟨r, hr, rfl⟩, j, hj, rfl⟩ := he
    have h1 := fine_of (hF r hr) j hj
    unfold badE
    exact ⟨by rw [hv r hr, h1.1]; rfl, h1.2⟩
  have hev : ∀ g ∈ byRows out, nmOp g.2 = (0, g.2) := fun g hg => by
    unfold byRows at hg
    obtain ⟨r, -, rfl⟩ := List.mem_map.1 hg
    exact nm_selfA (hj r)
  have e0 : evE nmOp (byRows out) = 0 := by
    have : ∀ G : List Gp, (∀ g ∈ G, nmOp g.2 = (0, g.2)) → evE nmOp G = 0 := fun G => by
      induction G with
      | nil => intro _; rfl
      | cons g t ih => intro h; rw [evE, h g (List.mem_cons_self ..), if_pos rfl]; exact ih fun x hx => h x (List.mem_cons_of_mem _ hx)
    exact this _ hev
  have e1 : evL nmOp (byRows out) = out := by
    have h1 : evL nmOp (byRows out) = evL (fun f => (0, f)) (byRows out) := by
      have : ∀ G : List Gp, (∀ g ∈ G, nmOp g.2 = (0, g.2)) → evL nmOp G = evL (fun f => (0, f)) G := fun G => by
        induction G with
        | nil => intro _; rfl
        | cons g t ih =>
          intro h
          have e := ih fun x hx => h x (List.mem_cons_of_mem _ hx)
          unfold evL at e ⊢
          rw [List.flatMap_cons, List.flatMap_cons, e, h g (List.mem_cons_self ..)]
      exact this _ hev
    rw [h1, ← grp_eq hr, grp_back]
  have eE : neE out = (if 4096 < out.length then 7 else 0) := by rw [ne_ok hb, eachE, if_pos e0, e1]
  refine ⟨eE, ?_⟩
  unfold neR eachR
  rw [← ne_ok hb, eE, e1]
  split
  · rfl
  · rfl
/-- The document's answer is the code's. -/
theorem ao_ra (l r : List Ed) (x : List Vl) (hl : mayE l = true) (hr : mayE r = true) (hc : tabE l = true) (hd : tabE r = true) (hf : formE x = 0) :
    aoE l r x = (if (raGo x (grp r) (grp l) []).1 = 0 then neE (raGo x (grp r) (grp l) []).2 else (raGo x (grp r) (grp l) []).1) ∧ aoR l r x = (if (raGo x (grp r) (grp l) []).1 = 0 then neR (raGo x (grp r) (grp l) []).2 else []) := by
  have hR := mayE_rise hl
  have hrow := rowsL_ok hR.1
  have hv : ∀ q ∈ rowsL l, mayR q = true := fun q hq => by
    obtain ⟨e, he, rfl⟩ := (hrow.2 q).1 hq
    exact hR.1 e he
  obtain ⟨k1, k2⟩ := al_ra x (grp r) (grp l) [] [] (fun g hg => by rw [grp_eq hR] at hg; obtain ⟨q, hq, rfl⟩ := List.mem_map.1 hg; exact hv q hq) (fun _ => rfl) (fun h => absurd h (by simp))
  have hE : aoE l r x = (if (alGo x (grp r) (grp l) []).1 = 0 then (if 4096 < (alGo x (grp r) (grp l) []).2.length then 7 else 0) else (alGo x (grp r) (grp l) []).1) := by
    unfold aoE
    rw [hl, hr, hc, hd, if_pos (by rfl), if_pos (by rfl), if_pos hf]
  unfold aoR
  rw [hE]
  by_cases h0 : (alGo x (grp r) (grp l) []).1 = 0
  · obtain ⟨k3, k4⟩ := k2 h0
    have h0' := h0
    rw [k1] at h0'
    rw [if_pos h0, if_pos h0', if_pos h0']
    obtain ⟨m1, m2⟩ := raGo_flat x (grp r) (grp l) [] h0'
    rw [grp_eq hR] at m1
    have hout : (raGo x (grp r) (grp l) []).2 = evL idO ((rowsL l).map fun q => (q, woR q (jmps l q) x (grp r))) := by
      rw [m2, grp_eq hR]
      unfold byRows evL
      rw [List.nil_append, List.flatMap_map, List.flatMap_map]
      rfl
    obtain ⟨n1, n2⟩ := ne_flat (fun q => woR q (jmps l q) x (grp r)) (rowsL l) hrow.1 hv (fun q hq => woR_may (m1 (q, jmps l q) (List.mem_map.2 ⟨q, hq, rfl⟩))) _ hout
    rw [n1, n2]
    by_cases h4 : 4096 < (alGo x (grp r) (grp l) []).2.length
    · have := k4 h4
      rw [if_pos h4, if_pos this, if_pos this, if_neg (by decide)]
      exact ⟨rfl, rfl⟩
    · have e := k3 (by omega)
      rw [← e, if_neg h4, if_neg h4, if_pos rfl]
      exact ⟨rfl, rfl⟩
  · have h0' := h0
    rw [k1] at h0'
    rw [if_neg h0, if_neg h0', if_neg h0', if_neg h0, k1]
    exact ⟨rfl, rfl⟩
end Go.Proofs.YtljkneajdndgjabGreat
set_option linter.unusedVariables false
set_option linter.unusedSimpArgs false
namespace Go.Proofs.YtljkneajdndgjabGreat
open Go.RowKit
attribute [local go_sem] GW.cell GW.frozen In.eq_true In.le_true In.ne In.ne' In.ne_add In.ne_add' In.lt_add Upto.le_true Upto.le_add Upto.lt_add
theorem inF_next {l : List Jp} {k : Nat} {x : Jp} (hx : l[k]? = some x) : inF (l.take (k + 1)) = if x.1 = 1125899906842624 then inF (l.take k) else inF (l.take k) ++ [x] := by
  unfold inF
  rw [take_snoc hx, List.filter_append]
  by_cases h : x.1 = 1125899906842624
  · rw [if_pos h]; simp [h]
  · rw [if_neg h]; simp [h]
theorem inF_len (l : List Jp) : (inF l).length ≤ l.length := List.length_filter_le _ _
theorem any_next {l : List Jp} {k : Nat} {x : Jp} {p : Jp → Bool} (h : (l.take k).any p = false) (hx : l[k]? = some x) (hp : p x = false) : (l.take (k + 1)).any p = false := by
  rw [take_snoc hx, List.any_append, h]; simp [hp]
theorem any_yes {l : List Jp} {k : Nat} {x : Jp} {p : Jp → Bool} (hx : l[k]? = some x) (hp : p x = true) : l.any p = true := List.any_eq_true.2 ⟨x, List.mem_of_getElem? hx, hp⟩
set_option maxHeartbeats 8000000 in
set_option maxRecDepth 100000 in
theorem refNorm_c (l : List Jp) (hn : l.length ≤ 1024) (v : Value) (w : World) (h : Jw w [] v l) : Calls Tryz.prog 88 #[v] w fun e w' => ∃ v', e = .returned (.tuple #[v', .int .i64 (nmE l)]) ∧ OwnJ w' w.heap.size v' (nmR l) ∧ Ext w w' := by
  have hv0 := hide (fun (hb : ∀ j ∈ l, -1048576 ≤ j.2 ∧ j.2 ≤ 1048576) p w' (hX : Ext w w') => refValue_c l hb (by omega) p v w' (Sl.ext h hX))
  obtain ⟨A, cap, rfl, hl, hm, hat⟩ := jw_form h
  unfold maxLen at hm
  replace hat := hide hat
  have hnI : (l.length : Int) ≤ 1024 := by omega
  have hnd := hide hn
  obtain ⟨E, hE⟩ : ∃ E, E = nmE l := ⟨_, rfl⟩
  obtain ⟨R, hR⟩ : ∃ R, R = nmR l := ⟨_, rfl⟩
  rw [← hE, ← hR]
  replace hE := hide hE
  replace hR := hide hR
  clear h
  go_enter Tryz.func88, Tryz.ntmps88
  go_wp2_with fail
  go_loopg [4] l.length (fun gh i wr => ∃ (k : Nat), i = .int .i64 k ∧ k + gh = l.length ∧ Hid ((l.take k).any tooJ = false) ∧ Ext w wr)
  case atStart => exact ⟨0, rfl, by omega, rfl, Ext.refl w⟩
  case round =>
    obtain ⟨k, rfl, hk, hno, hX⟩ := hrel
    by_cases hlt : k < l.length
    · obtain ⟨x, hx⟩ : ∃ x, l[k]? = some x := ⟨_, List.getElem?_eq_getElem hlt⟩
      obtain ⟨b, o, rfl, -, hbl, c0, c1⟩ := hat.out k x hx
      have k1 := jcell_later hX c1
      have hbr : b < wr.heap.size := block_lt_of_cell k1
      cases ht : tooJ x
      · have hno' : Hid ((l.take (k + 1)).any tooJ = false) := any_next hno.out hx ht
        unfold tooJ at ht
        rw [decide_eq_false_iff_not] at ht
        have d1 : decide (1048576 < x.2) = false := by rw [decide_eq_false_iff_not]; omega
        have d2 : decide (x.2 < -1048576) = false := by rw [decide_eq_false_iff_not]; omega
        obtain ⟨xp, xn⟩ := x
        simp only at k1 d1 d2
        clear c0 c1 hx ht hno hv0
        go_wp2_with fail
        go_roundg (l.length - (k + 1))
        case measure => omega
        case rel => exact ⟨k + 1, by go_num, by omega, hno', hX⟩
      · have e1 : Hid (E = 2 ∧ R = []) := by
          have h1 : nmE l = 2 := by unfold nmE; rw [any_yes hx ht]; rfl
          refine ⟨hE.out.trans h1, hR.out.trans ?_⟩
          unfold nmR; rw [h1, if_neg (by decide)]
        unfold tooJ at ht
        rw [decide_eq_true_iff] at ht
        obtain ⟨xp, xn⟩ := x
        simp only at k1 ht
        clear c0 c1 hx hno hv0
        by_cases h1 : 1048576 < xn
        · clear ht
          go_wp2_with fail
          go_returns
          rw [e1.out.1, e1.out.2]
          exact ⟨_, rfl, World.ownsRow_nil _ _ _ _, hX⟩
        · have d1 : decide (1048576 < xn) = false := by rw [decide_eq_false_iff_not]; exact h1
          have h2 := ht.resolve_left h1
          clear ht h1
          go_wp2_with fail
          go_returns
          rw [e1.out.1, e1.out.2]
          exact ⟨_, rfl, World.ownsRow_nil _ _ _ _, hX⟩
    · have hk' : k = l.length := by omega
      have hge : (l.length : Int) ≤ k := by omega
      have hall : Hid (l.any tooJ = false) := by show _ = _; have := hno.out; rwa [hk', List.take_length] at this
      have hb := hide (net_ok hall.out)
      have hv1 := hide (hv0.out hb.out)
      have dk : decide (k < l.length) = false := by rw [decide_eq_false_iff_not]; exact hlt
      replace hk' := hide hk'
      have hlit := hide (World.ownsRow_lit (base := wr.heap.size) (e := 3) (size := 1) wr #[] 0 (Nat.le_refl _) (by decide) rfl)
      obtain ⟨w1, hw1⟩ : ∃ w1, w1 = wr := ⟨_, rfl⟩
      rw [← hw1] at hX hlit ⊢
      clear hlt hno hv0 hw1
      go_wp2_with fail
      go_loopg [5, 6] l.length (fun gh u i wr => ∃ (j : Nat), i = .int .i64 j ∧ j + gh = l.length ∧ Zw wr [] u (plc [] (inF (l.take j))) ∧ Hid ((l.take j).any nowJ = false) ∧ Ext w wr)
      case atStart => exact ⟨0, rfl, by omega, own_zw hlit.out, rfl, hX.alloc _⟩
      case round =>
        clear hlit
        obtain ⟨j, rfl, hj, hz, hno, hX2⟩ := hrel
        by_cases hlt2 : j < l.length
        · obtain ⟨x, hx⟩ : ∃ x, l[j]? = some x := ⟨_, List.getElem?_eq_getElem hlt2⟩
          obtain ⟨b, o, rfl, -, hbl, c0, c1⟩ := hat.out j x hx
          have k0 := jcell_later hX2 c0
          have hbr : b < wr.heap.size := block_lt_of_cell k0
          cases ht : nowJ x
          · have hno' : Hid ((l.take (j + 1)).any nowJ = false) := any_next hno.out hx ht
            have hinf := inF_next hx
            unfold nowJ at ht
            rw [decide_eq_false_iff_not] at ht
            have d1 : decide (x.1 < -1) = false := by rw [decide_eq_false_iff_not]; omega
            have d2 : decide (1125899906842624 < x.1) = false := by rw [decide_eq_false_iff_not]; omega
            have hlen : (plc [] (inF (l.take j))).length ≤ 4096 := by
              have h1 := plc_length (inF (l.take j)) [] Asc.nil'
              have h2 := inF_len (l.take j)
              have h3 : (l.take j).length ≤ l.length := by rw [List.length_take]; omega
              have h4 := hnd.out
              simp only [List.length_nil] at h1
              omega
            by_cases hF : x.1 < 1125899906842624
            · rw [if_neg (by omega)] at hinf
              have hnx : Hid (plc [] (inF (l.take (j + 1))) = ins (plc [] (inF (l.take j))) x.1) := by show _ = _; rw [hinf, plc_snoc]
              have hwt := hide (with_c (plc [] (inF (l.take j))) (plc_asc _ _ Asc.nil') hlen x.1 _ wr hz)
              obtain ⟨C, ccap, rfl, -, -, -⟩ := zw_form hz
              obtain ⟨xp, xn⟩ := x
              simp only at k0 d1 d2 hF
              clear c0 c1 hx ht hno hinf hz hlen
              go_wp2_with (go_at_call 130; refine hwt.out.mono ?_; rintro ee w7 ⟨v7, rfl, hz7, hx7⟩)
              go_roundg (l.length - (j + 1))
              case measure => omega
              case rel => exact ⟨j + 1, by go_num, by omega, by rw [hnx.out]; exact hz7, hno', hX2.trans hx7⟩
            · have d3 : decide (x.1 < 1125899906842624) = false := by rw [decide_eq_false_iff_not]; exact hF
              rw [if_pos (by omega)] at hinf
              have hnx : Hid (inF (l.take (j + 1)) = inF (l.take j)) := hinf
              obtain ⟨C, ccap, rfl, -, -, -⟩ := zw_form hz
              obtain ⟨xp, xn⟩ := x
              simp only at k0 d1 d2 d3
              replace hz := hide hz
              clear c0 c1 hx ht hno hinf hlen hF
              go_wp2_with fail
              go_roundg (l.length - (j + 1))
              case measure => omega
              case rel => exact ⟨j + 1, by go_num, by omega, by rw [hnx.out]; exact hz.out, hno', hX2⟩
          · have e1 : Hid (E = 13 ∧ R = []) := by
              have h1 : nmE l = 13 := by unfold nmE; rw [hall.out, any_yes hx ht]; rfl
              refine ⟨hE.out.trans h1, hR.out.trans ?_⟩
              unfold nmR; rw [h1, if_neg (by decide)]
            unfold nowJ at ht
            rw [decide_eq_true_iff] at ht
            obtain ⟨C, ccap, rfl, -, -, -⟩ := zw_form hz
            obtain ⟨xp, xn⟩ := x
            simp only at k0 ht
            clear c0 c1 hx hno hz
            by_cases h1 : xp < -1
            · clear ht
              go_wp2_with fail
              go_returns
              rw [e1.out.1, e1.out.2]
              exact ⟨_, rfl, World.ownsRow_nil _ _ _ _, hX2⟩
            · have d1 : decide (xp < -1) = false := by rw [decide_eq_false_iff_not]; exact h1
              have h2 := ht.resolve_left h1
              clear ht h1
              go_wp2_with fail
              go_returns
              rw [e1.out.1, e1.out.2]
              exact ⟨_, rfl, World.ownsRow_nil _ _ _ _, hX2⟩
        · have hj' : j = l.length := by omega
          have hge2 : (l.length : Int) ≤ j := by omega
          have hall2 : Hid (l.any nowJ = false) := by show _ = _; have := hno.out; rwa [hj', List.take_length] at this
          rw [hj', List.take_length] at hz
          obtain ⟨vf, hvfe⟩ : ∃ vf : Int → Int, vf = jv l := ⟨_, rfl⟩
          obtain ⟨ps, hpse⟩ : ∃ ps, ps = plc [] (inF l) := ⟨_, rfl⟩
          have hFt : Hid (E = full (tell vf ps 0) ∧ R = kept (tell vf ps 0)) := by
            show _ ∧ _
            have e : nmE l = full (nmL l) := by unfold nmE; rw [hall.out, hall2.out]; rfl
            rw [hE.out, hR.out, hvfe, hpse]
            refine ⟨e, ?_⟩
            unfold nmR
            rw [e]
            show (if full (nmL l) = 0 then nmL l else []) = kept (nmL l)
            unfold full kept
            cases mayJ (nmL l) <;> rfl
          have hvf : Hid (∀ p, vf p = jv l p) := fun p => by rw [hvfe]
          have hbv : Hid (∀ p, -1152921504606846976 ≤ vf p ∧ vf p ≤ 1152921504606846976) := fun p => by rw [hvfe]; have := jv_60 hb.out (by have := hnd.out; omega) p; omega
          have hbv' : Hid (∀ p ∈ ps, -1152921504606846976 ≤ vf p ∧ vf p ≤ 1152921504606846976) := fun p _ => hbv.out p
          have hpl : Hid (ps.length ≤ 4096) := by
            show _ ≤ _; rw [hpse]
            have h1 := plc_length (inF l) [] Asc.nil'
            have h2 := inF_len l
            have h3 := hnd.out
            simp only [List.length_nil] at h1; omega
          have hpI : (ps.length : Int) ≤ 4096 := by have := hpl.out; omega
          rw [← hpse] at hz
          have dj : decide (j < l.length) = false := by rw [decide_eq_false_iff_not]; exact hlt2
          have hXp := hide hX2
          have hXpB := hXp.out.size
          obtain ⟨wp, hwp⟩ : ∃ wp, wp = wr := ⟨_, rfl⟩
          rw [← hwp] at hz hXp hXpB hX2 ⊢
          obtain ⟨P, pcap, rfl, hpc1, hpc2, hpt⟩ := zw_form hz
          unfold maxLen at hpc2
          replace hpt := hide hpt
          have hzp := hide hz
          replace hj' := hide hj'
          clear hz hno hvfe hpse hwp hlt2 hX hX2
          go_wp2_with fail
          go_loopg [7, 8] ps.length (fun gh u i wr => ∃ (k : Nat), i = .int .i64 k ∧ k + gh = ps.length ∧ OwnZ wr wp.heap.size u ((ps.take k).map vf) ∧ Ext wp wr)
          case atStart => exact ⟨0, rfl, by omega, World.ownsRow_lit (base := wp.heap.size) (e := 3) (size := 1) wp #[] 0 (Nat.le_refl _) (by decide) rfl, (Ext.refl wp).alloc _⟩
          case round =>
            obtain ⟨k, rfl, hk, ho, hXr⟩ := hrel
            have hX := hXp.out.trans hXr
            have hzX := hX.size
            have hzX2 := hXr.size
            have htl : ((ps.take k).map vf).length ≤ k := by rw [List.length_map, List.length_take]; omega
            by_cases hlt : k < ps.length
            · obtain ⟨p, hp⟩ : ∃ p, ps[k]? = some p := ⟨_, List.getElem?_eq_getElem hlt⟩
              obtain ⟨pb, po, rfl, -, hpb, c0⟩ := hpt.out k p hp
              have k0 := jcell_later hXr c0
              have hbr : pb < wr.heap.size := block_lt_of_cell k0
              haveI : In pb wr := ⟨hbr⟩
              have hnx := map_next vf hp
              have hbp := hbv.out p
              obtain ⟨C, ccap, rfl⟩ := own_form ho
              replace ho := hide ho
              have hvp := hvf.out p
              generalize vf p = x at *
              generalize (ps.take k).map vf = acc at *
              replace hnx := hide hnx
              have c0h := hide c0
              clear c0 hp
              have hv1p := hide (hv1.out p)
              rw [← hvp] at hv1p
              clear hvp
              go_wp2_with (first | (go_at_call 18; (with_reducible refine seq_gw (hv1p.out _ hX) ?_); intro q1; have hz2 := GW.size q1) | (at_builtin; (refine wpl_app tZ rfl (.tmp 70) (.tmp 77) rfl rfl (own_ext ho.out ((q1.grown).alloc _)) rfl (src_z Tryz.underlying111 _ _ rfl x _) (by unfold maxLen; omega) (by omega) (by simp only [World.size_alloc]; omega) ?_; intro v8 w8 ho8 hg8 _)))
              go_roundg (ps.length - (k + 1))
              case measure => omega
              case rel => exact ⟨k + 1, by go_num, by omega, by rw [hnx.out]; exact own_appZ ho8, ext_grown ((hXr.trans q1.grown).alloc _) hg8 (fun q hq => (ho.out.lt q hq).1)⟩
            · have hk' : k = ps.length := by omega
              have hge : (ps.length : Int) ≤ k := by omega
              rw [hk', List.take_length] at ho
              have htd := hide (told_c ps vf hbv'.out hpl.out _ _ wr (Sl.ext hzp.out hXr) (own_zw ho))
              rw [← hFt.out.1, ← hFt.out.2] at htd
              obtain ⟨C, ccap, rfl⟩ := own_form ho
              rw [List.length_map] at htd ⊢
              replace hk' := hide hk'
              clear ho htl
              go_wp2_with (go_at_call 86; refine htd.out.mono ?_; rintro ee w9 ⟨v9, rfl, ho9, hx9⟩)
              go_returns
              exact ⟨_, rfl, own_base ho9 hzX, hX.trans hx9⟩
end Go.Proofs.YtljkneajdndgjabGreat
set_option linter.unusedVariables false
set_option linter.unusedSimpArgs false
namespace Go.Proofs.YtljkneajdndgjabGreat
open Go.RowKit
attribute [local go_sem] GW.cell GW.frozen In.eq_true In.le_true In.ne In.ne' In.ne_add In.ne_add' In.lt_add Upto.le_true Upto.le_add Upto.lt_add
theorem sl_put {w w' : World} {K : List Nat} {v' u : Value} {sz n : Nat} {xs : List Value} (h : Sl w K sz u n xs) (hF : Fr K w w') (hv : ∀ q, v'.ownBlock = some q → q ∈ K ∨ w.heap.size ≤ q) : Sl w' (ob v') sz u n xs := by
  have h2 : Sl w (ob v' ++ K) sz u n xs := Sl.new h fun b hb => by
    rcases List.mem_append.1 hb with hb | hb
    · exact hv b (by simpa [ob] using hb)
    · exact .inl hb
  exact Sl.less (Sl.fr h2 hF fun b hb => List.mem_append_right _ hb) fun b hb => List.mem_append_left _ hb
theorem Ew.new {w : World} {S S' : List Nat} {v : Value} {L : List Ve} (h : Ew w S v L) (hs : ∀ b, b ∈ S' → b ∈ S ∨ w.heap.size ≤ b) : Ew w S' v L := ⟨Sl.new h.1 hs, fun p hp => Sl.new (h.2 p hp) hs⟩
/-- Edges and rows that avoid a list. -/
def Apt (w : World) (S : List Nat) (lv rv : Value) (L : List Ve) (M : List Rv) : Prop := Ew w S lv L ∧ (Sl w S 1 rv M.length (rcs M) ∧ ∀ p ∈ M, Rw w S p.1 p.2)
theorem Apt.ext {w w' : World} {S : List Nat} {lv rv : Value} {L : List Ve} {M : List Rv} (h : Apt w S lv rv L M) (k : Ext w w') : Apt w' S lv rv L M := ⟨h.1.ext k, Sl.ext h.2.1 k, fun p hp => Sl.ext (h.2.2 p hp) k⟩
theorem Apt.put {w w' : World} {K : List Nat} {lv rv v' : Value} {L : List Ve} {M : List Rv} (h : Apt w K lv rv L M) (hF : Fr K w w') (hv : ∀ q, v'.ownBlock = some q → q ∈ K ∨ w.heap.size ≤ q) : Apt w' (ob v') lv rv L M :=
  ⟨⟨sl_put h.1.1 hF hv, fun p hp => sl_put (h.1.2 p hp) hF hv⟩, sl_put h.2.1 hF hv, fun p hp => sl_put (h.2.2 p hp) hF hv⟩
theorem Apt.start {w0 w1 w2 : World} {lv rv : Value} {L : List Ve} {M : List Rv} {b : Nat} (h : Ew w0 [] lv L) (hb : w0.heap.size ≤ b) (hb1 : b < w1.heap.size) (hX : Ext w0 w2) (ho : OwnRs w2 w1.heap.size rv M) (hq : ∀ p ∈ M, ∃ q ∈ L, q.1 = p.1 ∧ q.2.1 = p.2) : Apt w2 [b] lv rv L M := by
  have h2 : Ew w2 [b] lv L := (h.new (S' := [b]) fun c hc => .inr (by simp at hc; omega)).ext hX
  refine ⟨h2, Sl.own ho (fun c hc => by simp at hc; omega), fun p hp => ?_⟩
  obtain ⟨q, hq, e1, e2⟩ := hq p hp
  rw [← e1, ← e2]; exact h2.2 q hq
theorem eds_app (Y N : List Ve) : eds (Y ++ N) = eds Y ++ eds N := by simp [eds]

theorem anyT {α : Type} {p : α → Bool} {l : List α} {k : Nat} {x : α} (h : (l.take k).any p = false) (hx : l[k]? = some x) (hp : p x = false) : (l.take (k + 1)).any p = false := by
  rw [List.take_add_one, hx, Option.toList_some, List.any_append, h]; simpa using hp
theorem anyY {α : Type} {p : α → Bool} {l : List α} {k : Nat} {x : α} (hx : l[k]? = some x) (hp : p x = true) : l.any p = true := List.any_eq_true.2 ⟨x, List.mem_of_getElem? hx, hp⟩
end Go.Proofs.YtljkneajdndgjabGreat
