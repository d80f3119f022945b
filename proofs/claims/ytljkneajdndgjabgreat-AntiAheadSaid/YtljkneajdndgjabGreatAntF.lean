/-
  A helper of ours: no claim of its own. Layer 32 (anti): the rows without a partner, by the code.
-/
import Derived.Test.YtljkneajdndgjabGreatEdgBj
import Derived.Test.YtljkneajdndgjabGreatEdgEg
import Derived.Test.YtljkneajdndgjabGreatReg4
import Derived.Test.YtljkneajdndgjabGreatAntiAheadF
import Derived.Sort.LoopGhostIn
set_option linter.unusedVariables false
set_option linter.unusedSimpArgs false
namespace Go.Proofs.YtljkneajdndgjabGreat
open Go.RowKit
attribute [local go_sem] run_store_fn GW.cell GW.frozen In.eq_true In.le_true In.ne In.ne' In.ne_add In.ne_add' In.lt_add Upto.le_true Upto.le_add Upto.lt_add Oper.semAt_some wide_depth wide_fn
/-- The edges of a row and a function. -/
def bld (q : List Vl) (f : List Jp) : List Ed := if mayR q && mayJ f then f.map (fun j => (q, j)) else []
theorem bld_len (q : List Vl) (f : List Jp) : (bld q f).length ≤ 1024 := by
  unfold bld
  split
  · rename_i h
    rw [Bool.and_eq_true] at h
    rw [List.length_map]
    exact mayJ_len h.2
  · simp
/-- The rows without a partner, one after another, while there is room. -/
def alGo (x : List Vl) (H : List Gp) : List Gp → List Ed → Int × List Ed
  | [], S => (0, S)
  | (q, J) :: G, S => if woE q J x H = 0 then alGo x H G (if S.length ≤ 4096 then S ++ bld q (woR q J x H) else S) else (woE q J x H, [])
theorem alGo_step {x : List Vl} {H G : List Gp} {k : Nat} {q : List Vl} {J : List Jp} {S : List Ed} (h : G[k]? = some (q, J)) (hz : woE q J x H = 0) : alGo x H (G.drop k) S = alGo x H (G.drop (k + 1)) (if S.length ≤ 4096 then S ++ bld q (woR q J x H) else S) := by
  obtain ⟨hlt, he⟩ := List.getElem?_eq_some_iff.1 h
  rw [List.drop_eq_getElem_cons hlt, he, alGo, if_pos hz]
theorem alGo_stop {x : List Vl} {H G : List Gp} {k : Nat} {q : List Vl} {J : List Jp} {S : List Ed} (h : G[k]? = some (q, J)) (hz : woE q J x H ≠ 0) : alGo x H (G.drop k) S = (woE q J x H, []) := by
  obtain ⟨hlt, he⟩ := List.getElem?_eq_some_iff.1 h
  rw [List.drop_eq_getElem_cons hlt, he, alGo, if_neg hz]
/-- Alone's answer. -/
def aoE (l r : List Ed) (x : List Vl) : Int := if (mayE l && mayE r) = true then (if (tabE l && tabE r) = true then (if formE x = 0 then (if (alGo x (grp r) (grp l) []).1 = 0 then (if 4096 < (alGo x (grp r) (grp l) []).2.length then 7 else 0) else (alGo x (grp r) (grp l) []).1) else formE x) else 20) else 2
def aoR (l r : List Ed) (x : List Vl) : List Ed := if aoE l r x = 0 then (alGo x (grp r) (grp l) []).2 else []
def bldF (B : Nat) (q : List Vl) (R : List Jp) : Fact := .st (fun u w => ∃ M2, eds M2 = bld q R ∧ OwnEr w B u M2) (fun _ _ _ h k => by obtain ⟨M2, h1, h2⟩ := h; exact ⟨M2, h1, h2.ext k⟩)
def FbA (bx : Nat) (b : Nat) (W : World) : Prop := ∃ mv, Ob W bx 22 [mv] ∧ (b ≠ bx ∧ (mv.ownBlock ≠ some b ∧ b < W.heap.size))
theorem FbA.stab (B bx b : Nat) : Stab B (FbA bx b) := Stab.ex fun mv => (Stab.ob _ _ _).and ((Stab.pure _).and ((Stab.pure _).and ⟨fun A C h e => Nat.lt_of_lt_of_le h e.size, fun A l o o' h _ _ _ => by simpa using h⟩))
abbrev IA (ws : List Vl) (H G : List Gp) (w1 w2 : World) (b10 : Nat) (fv : Value) (k : Nat) (W : World) : Prop :=
  (Ext w1 W ∧ Ob W w1.heap.size 90 [fv]) ∧ ((∃ mv, ∃ M : List Ve, (Ob W b10 22 [mv] ∧ (OwnE W w2.heap.size mv M ∧ ∀ p, ∀ (_ : p ∈ M), Rw W (ob mv ++ List.range w2.heap.size) p.1 p.2.1)) ∧ (alGo ws H (G.drop k) (eds M) = alGo ws H G [] ∧ M.length ≤ 5120)) ∧ w2.heap.size ≤ W.heap.size)
theorem IA.stab (ws : List Vl) (H G : List Gp) (w1 w2 : World) (b10 : Nat) (fv : Value) (k B : Nat) (hB : w1.heap.size ≤ B) : Stab B (IA ws H G w1 w2 b10 fv k) :=
  ((Stab.of_ext hB).and (Stab.ob _ _ _)).and ((Stab.ex fun mv => Stab.ex fun N => ((Stab.ob _ _ _).and ((Stab.own _ _ _ _ _ _).and (Stab.all fun p => Stab.all fun _ => Stab.sl _ _ _ _ _))).and (Stab.pure _)).and ⟨fun A C h e => Nat.le_trans h e.size, fun A l o o' h _ _ _ => by simpa using h⟩)
abbrev IxA (ws : List Vl) (H G : List Gp) (w : World) (b6 b7 : Nat) (c : Code) (k : Nat) (W : World) : Prop :=
  (c = .ret ∧ ((alGo ws H G []).2 = [] ∧ (alGo ws H G []).1 ≠ 0)) ∧ ((Ob W b6 22 [.slice none 0 0] ∧ Ob W b7 27 [.int .i64 (alGo ws H G []).1]) ∧ Ext w W)
theorem IxA.stab (ws : List Vl) (H G : List Gp) (w : World) (b6 b7 : Nat) (c : Code) (k B : Nat) (hB : w.heap.size ≤ B) : Stab B (IxA ws H G w b6 b7 c k) :=
  (Stab.pure _).and (((Stab.ob _ _ _).and (Stab.ob _ _ _)).and (Stab.of_ext hB))
set_option maxHeartbeats 16000000 in
set_option maxRecDepth 100000 in
theorem antAlone_c (ws : List Vl) (L R : List Ve) (hi : ∀ v ∈ ws, inW v) (hLi : ∀ g ∈ grp (eds L), ∀ v ∈ g.1, inW v) (hRi : ∀ g ∈ grp (eds R), ∀ v ∈ g.1, inW v) (v u vx : Value) (w : World) (hL : Ew w [] v L) (hR : Ew w [] u R) (hx : Rw w [] vx ws) :
    Calls Tryz.prog 28 #[v, u, vx] w fun e w' => ∃ v' M, e = .returned (.tuple #[v', .int .i64 (aoE (eds L) (eds R) ws)]) ∧ eds M = aoR (eds L) (eds R) ws ∧ OwnEr w' w.heap.size v' M ∧ Ext w w' := by
  have h1 := hide (fun w' (hX : Ext w w') => edgeMay_c L v w' (hL.ext hX))
  have h2 := hide (fun w' (hX : Ext w w') => edgeMay_c R u w' (hR.ext hX))
  have h3 := hide (fun w' (hX : Ext w w') => edgeTable_c L v w' (hL.ext hX))
  have h4 := hide (fun w' (hX : Ext w w') => edgeTable_c R u w' (hR.ext hX))
  have h5 := hide (fun w' (hX : Ext w w') => form_c ws vx w' (Sl.ext hx hX))
  have h6 := hide (fun w' (hX : Ext w w') => groups_c R u w' (hR.ext hX))
  have h7 := hide (fun w' (hX : Ext w w') => groups_c L v w' (hL.ext hX))
  have hx' := hide hx
  obtain ⟨XA, xcap, rfl, -, -, -⟩ := rw_form hx
  obtain ⟨LA, lcap, rfl, -, -, -⟩ := ew_form hL
  obtain ⟨UA, ucap, rfl, -, -, -⟩ := ew_form hR
  clear hL hR hx
  obtain ⟨Wb, hWb⟩ : ∃ Wb, Wb = (((w.alloc (.cells #[(.slice XA ws.length xcap)] 24)).alloc (.cells #[.slice none 0 0] 22)).alloc (.cells #[.int .i64 0] 27)) := ⟨_, rfl⟩
  have hX0 : Hid (Ext w Wb) := by show Ext w Wb; rw [hWb]; exact (((Ext.refl w).alloc _).alloc _).alloc _
  have a5 : Ob Wb w.heap.size 24 [(.slice XA ws.length xcap)] := by rw [hWb]; exact ((Ob.new w 24 [(.slice XA ws.length xcap)]).alloc _).alloc _
  have a6 : Ob Wb (w.heap.size + 1) 22 [.slice none 0 0] := by
    rw [hWb]
    have h : Ob (((w.alloc (.cells #[(.slice XA ws.length xcap)] 24)).alloc (.cells #[.slice none 0 0] 22)).alloc (.cells #[.int .i64 0] 27)) ((w.alloc (.cells #[(.slice XA ws.length xcap)] 24))).heap.size 22 [.slice none 0 0] := (Ob.new (w.alloc (.cells #[(.slice XA ws.length xcap)] 24)) 22 [.slice none 0 0]).alloc _
    simpa only [World.size_alloc] using h
  have a7 : Ob Wb (w.heap.size + 1 + 1) 27 [.int .i64 0] := by
    rw [hWb]
    have h : Ob (((w.alloc (.cells #[(.slice XA ws.length xcap)] 24)).alloc (.cells #[.slice none 0 0] 22)).alloc (.cells #[.int .i64 0] 27)) (((w.alloc (.cells #[(.slice XA ws.length xcap)] 24)).alloc (.cells #[.slice none 0 0] 22))).heap.size 27 [.int .i64 0] := Ob.new ((w.alloc (.cells #[(.slice XA ws.length xcap)] 24)).alloc (.cells #[.slice none 0 0] 22)) 27 [.int .i64 0]
    simpa only [World.size_alloc] using h
  have hb67 : w.heap.size + 1 ≠ w.heap.size + 1 + 1 := by omega
  refine calls_marks Tryz.func28 rfl ?_
  simp only [Tryz.ntmps28, List.size_toArray, List.length_cons, List.length_nil, Nat.reduceAdd, Nat.reduceSub, Array.replicate_succ, Array.replicate_zero, List.push_toArray, List.append_toArray, List.nil_append, List.cons_append]
  obtain ⟨P, hP⟩ : ∃ P, P = alGo ws (grp (eds R)) (grp (eds L)) [] := ⟨_, rfl⟩
  obtain ⟨F, hF⟩ : ∃ F, F = formE ws := ⟨_, rfl⟩
  obtain ⟨E, hE⟩ : ∃ E, E = aoE (eds L) (eds R) ws := ⟨_, rfl⟩
  obtain ⟨Q, hQ⟩ : ∃ Q, Q = aoR (eds L) (eds R) ws := ⟨_, rfl⟩
  rw [← hE, ← hQ]
  unfold aoR at hQ
  rw [← hE, ← hP] at hQ
  unfold aoE at hE
  rw [← hP, ← hF] at hE
  rw [← hF] at h5
  clear hF
  replace hP := hide hP
  cases ha : mayE (eds L)
  · rw [ha] at h1 hE
    rw [if_neg (by simp)] at hE
    subst hE
    replace hQ := hide (show Q = [] by rw [hQ, if_neg (by decide)])
    clear h2 h3 h4 h5 h6 h7 ha
    go_wp2_with (go_at_call 31; (with_reducible refine seq_gw (h1.out _ (by rw [← hWb]; exact hX0.out)) ?_); intro g1)
    have o6 : Ob ((g1.val.setCell ⟨w.heap.size + 1, 0, none⟩ (.slice none 0 0)).setCell ⟨w.heap.size + 1 + 1, 0, none⟩ (.int .i64 2)) (w.heap.size + 1) 22 [.slice none 0 0] := (((hWb ▸ a6).ext g1.grown).set 0 _).far _ _ hb67
    have o7 : Ob ((g1.val.setCell ⟨w.heap.size + 1, 0, none⟩ (.slice none 0 0)).setCell ⟨w.heap.size + 1 + 1, 0, none⟩ (.int .i64 2)) (w.heap.size + 1 + 1) 27 [.int .i64 2] := (((hWb ▸ a7).ext g1.grown).far ⟨w.heap.size + 1, 0, none⟩ _ (Ne.symm hb67)).set 0 _
    have q6 := o6.cell 0 rfl
    have q7 := o7.cell 0 rfl
    exact ret_plain (v := .tuple #[.slice none 0 0, .int .i64 2]) (by simp [results, Tryz.f28, go_sem, q6, q7]) ⟨_, [], rfl, by rw [hQ.out]; rfl, OwnEr.nil _ _, (((hWb ▸ hX0.out : Ext w (((w.alloc (.cells #[(.slice XA ws.length xcap)] 24)).alloc (.cells #[.slice none 0 0] 22)).alloc (.cells #[.int .i64 0] 27))).trans g1.grown).setCell (p := ⟨w.heap.size + 1, 0, none⟩) (by show w.heap.size ≤ w.heap.size + 1; omega) _).setCell (p := ⟨w.heap.size + 1 + 1, 0, none⟩) (by show w.heap.size ≤ w.heap.size + 1 + 1; omega) _⟩
  rw [ha] at h1 hE
  have ha' := hide ha
  clear ha
  cases hb : mayE (eds R)
  · rw [hb] at h2 hE
    rw [if_neg (by simp)] at hE
    subst hE
    replace hQ := hide (show Q = [] by rw [hQ, if_neg (by decide)])
    clear h3 h4 h5 h6 h7 hb
    go_wp2_with (first | (go_at_call 31; (with_reducible refine seq_gw (h1.out _ (by rw [← hWb]; exact hX0.out)) ?_); intro g1) | (go_at_call 31; (with_reducible refine seq_gw' (h2.out _ ((by rw [← hWb]; exact hX0.out : Ext w (((w.alloc (.cells #[(.slice XA ws.length xcap)] 24)).alloc (.cells #[.slice none 0 0] 22)).alloc (.cells #[.int .i64 0] 27))).trans g1.grown)) ?_); intro g2))
    have o6 : Ob ((g2.val.setCell ⟨w.heap.size + 1, 0, none⟩ (.slice none 0 0)).setCell ⟨w.heap.size + 1 + 1, 0, none⟩ (.int .i64 2)) (w.heap.size + 1) 22 [.slice none 0 0] := (((hWb ▸ a6).ext g2.grown).set 0 _).far _ _ hb67
    have o7 : Ob ((g2.val.setCell ⟨w.heap.size + 1, 0, none⟩ (.slice none 0 0)).setCell ⟨w.heap.size + 1 + 1, 0, none⟩ (.int .i64 2)) (w.heap.size + 1 + 1) 27 [.int .i64 2] := (((hWb ▸ a7).ext g2.grown).far ⟨w.heap.size + 1, 0, none⟩ _ (Ne.symm hb67)).set 0 _
    have q6 := o6.cell 0 rfl
    have q7 := o7.cell 0 rfl
    exact ret_plain (v := .tuple #[.slice none 0 0, .int .i64 2]) (by simp [results, Tryz.f28, go_sem, q6, q7]) ⟨_, [], rfl, by rw [hQ.out]; rfl, OwnEr.nil _ _, (((hWb ▸ hX0.out : Ext w (((w.alloc (.cells #[(.slice XA ws.length xcap)] 24)).alloc (.cells #[.slice none 0 0] 22)).alloc (.cells #[.int .i64 0] 27))).trans g2.grown).setCell (p := ⟨w.heap.size + 1, 0, none⟩) (by show w.heap.size ≤ w.heap.size + 1; omega) _).setCell (p := ⟨w.heap.size + 1 + 1, 0, none⟩) (by show w.heap.size ≤ w.heap.size + 1 + 1; omega) _⟩
  rw [hb] at h2 hE
  rw [if_pos (by rfl)] at hE
  have hb' := hide hb
  clear hb
  cases hc : tabE (eds L)
  · rw [hc] at h3 hE
    rw [if_neg (by simp)] at hE
    subst hE
    replace hQ := hide (show Q = [] by rw [hQ, if_neg (by decide)])
    clear h4 h5 h6 h7 hc
    go_wp2_with (first | (go_at_call 31; (with_reducible refine seq_gw (h1.out _ (by rw [← hWb]; exact hX0.out)) ?_); intro g1) | (go_at_call 31; (with_reducible refine seq_gw' (h2.out _ ((by rw [← hWb]; exact hX0.out : Ext w (((w.alloc (.cells #[(.slice XA ws.length xcap)] 24)).alloc (.cells #[.slice none 0 0] 22)).alloc (.cells #[.int .i64 0] 27))).trans g1.grown)) ?_); intro g2) | (go_at_call 30; (with_reducible refine seq_gw' (h3.out _ ((by rw [← hWb]; exact hX0.out : Ext w (((w.alloc (.cells #[(.slice XA ws.length xcap)] 24)).alloc (.cells #[.slice none 0 0] 22)).alloc (.cells #[.int .i64 0] 27))).trans g2.grown)) ?_); intro g3))
    have o6 : Ob ((g3.val.setCell ⟨w.heap.size + 1, 0, none⟩ (.slice none 0 0)).setCell ⟨w.heap.size + 1 + 1, 0, none⟩ (.int .i64 20)) (w.heap.size + 1) 22 [.slice none 0 0] := (((hWb ▸ a6).ext g3.grown).set 0 _).far _ _ hb67
    have o7 : Ob ((g3.val.setCell ⟨w.heap.size + 1, 0, none⟩ (.slice none 0 0)).setCell ⟨w.heap.size + 1 + 1, 0, none⟩ (.int .i64 20)) (w.heap.size + 1 + 1) 27 [.int .i64 20] := (((hWb ▸ a7).ext g3.grown).far ⟨w.heap.size + 1, 0, none⟩ _ (Ne.symm hb67)).set 0 _
    have q6 := o6.cell 0 rfl
    have q7 := o7.cell 0 rfl
    exact ret_plain (v := .tuple #[.slice none 0 0, .int .i64 20]) (by simp [results, Tryz.f28, go_sem, q6, q7]) ⟨_, [], rfl, by rw [hQ.out]; rfl, OwnEr.nil _ _, (((hWb ▸ hX0.out : Ext w (((w.alloc (.cells #[(.slice XA ws.length xcap)] 24)).alloc (.cells #[.slice none 0 0] 22)).alloc (.cells #[.int .i64 0] 27))).trans g3.grown).setCell (p := ⟨w.heap.size + 1, 0, none⟩) (by show w.heap.size ≤ w.heap.size + 1; omega) _).setCell (p := ⟨w.heap.size + 1 + 1, 0, none⟩) (by show w.heap.size ≤ w.heap.size + 1 + 1; omega) _⟩
  rw [hc] at h3 hE
  clear hc
  cases hd : tabE (eds R)
  · rw [hd] at h4 hE
    rw [if_neg (by simp)] at hE
    subst hE
    replace hQ := hide (show Q = [] by rw [hQ, if_neg (by decide)])
    clear h5 h6 h7 hd
    go_wp2_with (first | (go_at_call 31; (with_reducible refine seq_gw (h1.out _ (by rw [← hWb]; exact hX0.out)) ?_); intro g1) | (go_at_call 31; (with_reducible refine seq_gw' (h2.out _ ((by rw [← hWb]; exact hX0.out : Ext w (((w.alloc (.cells #[(.slice XA ws.length xcap)] 24)).alloc (.cells #[.slice none 0 0] 22)).alloc (.cells #[.int .i64 0] 27))).trans g1.grown)) ?_); intro g2) | (go_at_call 30; (with_reducible refine seq_gw' (h3.out _ ((by rw [← hWb]; exact hX0.out : Ext w (((w.alloc (.cells #[(.slice XA ws.length xcap)] 24)).alloc (.cells #[.slice none 0 0] 22)).alloc (.cells #[.int .i64 0] 27))).trans g2.grown)) ?_); intro g3) | (go_at_call 30; (with_reducible refine seq_gw' (h4.out _ ((by rw [← hWb]; exact hX0.out : Ext w (((w.alloc (.cells #[(.slice XA ws.length xcap)] 24)).alloc (.cells #[.slice none 0 0] 22)).alloc (.cells #[.int .i64 0] 27))).trans g3.grown)) ?_); intro g4))
    have o6 : Ob ((g4.val.setCell ⟨w.heap.size + 1, 0, none⟩ (.slice none 0 0)).setCell ⟨w.heap.size + 1 + 1, 0, none⟩ (.int .i64 20)) (w.heap.size + 1) 22 [.slice none 0 0] := (((hWb ▸ a6).ext g4.grown).set 0 _).far _ _ hb67
    have o7 : Ob ((g4.val.setCell ⟨w.heap.size + 1, 0, none⟩ (.slice none 0 0)).setCell ⟨w.heap.size + 1 + 1, 0, none⟩ (.int .i64 20)) (w.heap.size + 1 + 1) 27 [.int .i64 20] := (((hWb ▸ a7).ext g4.grown).far ⟨w.heap.size + 1, 0, none⟩ _ (Ne.symm hb67)).set 0 _
    have q6 := o6.cell 0 rfl
    have q7 := o7.cell 0 rfl
    exact ret_plain (v := .tuple #[.slice none 0 0, .int .i64 20]) (by simp [results, Tryz.f28, go_sem, q6, q7]) ⟨_, [], rfl, by rw [hQ.out]; rfl, OwnEr.nil _ _, (((hWb ▸ hX0.out : Ext w (((w.alloc (.cells #[(.slice XA ws.length xcap)] 24)).alloc (.cells #[.slice none 0 0] 22)).alloc (.cells #[.int .i64 0] 27))).trans g4.grown).setCell (p := ⟨w.heap.size + 1, 0, none⟩) (by show w.heap.size ≤ w.heap.size + 1; omega) _).setCell (p := ⟨w.heap.size + 1 + 1, 0, none⟩) (by show w.heap.size ≤ w.heap.size + 1 + 1; omega) _⟩
  rw [hd] at h4 hE
  rw [if_pos (by rfl)] at hE
  clear hd
  by_cases he : F = 0
  case neg =>
    have he' : (F != 0) = true := by simpa using he
    rw [if_neg he] at hE
    subst hE
    replace hQ := hide (show Q = [] by rw [hQ, if_neg he])
    clear h6 h7 he
    go_wp2_with (first | (go_at_call 31; (with_reducible refine seq_gw (h1.out _ (by rw [← hWb]; exact hX0.out)) ?_); intro g1) | (go_at_call 31; (with_reducible refine seq_gw' (h2.out _ ((by rw [← hWb]; exact hX0.out : Ext w (((w.alloc (.cells #[(.slice XA ws.length xcap)] 24)).alloc (.cells #[.slice none 0 0] 22)).alloc (.cells #[.int .i64 0] 27))).trans g1.grown)) ?_); intro g2) | (go_at_call 30; (with_reducible refine seq_gw' (h3.out _ ((by rw [← hWb]; exact hX0.out : Ext w (((w.alloc (.cells #[(.slice XA ws.length xcap)] 24)).alloc (.cells #[.slice none 0 0] 22)).alloc (.cells #[.int .i64 0] 27))).trans g2.grown)) ?_); intro g3) | (go_at_call 30; (with_reducible refine seq_gw' (h4.out _ ((by rw [← hWb]; exact hX0.out : Ext w (((w.alloc (.cells #[(.slice XA ws.length xcap)] 24)).alloc (.cells #[.slice none 0 0] 22)).alloc (.cells #[.int .i64 0] 27))).trans g3.grown)) ?_); intro g4) | (go_at_call 32; (with_reducible refine seq_gw' (h5.out _ ((by rw [← hWb]; exact hX0.out : Ext w (((w.alloc (.cells #[(.slice XA ws.length xcap)] 24)).alloc (.cells #[.slice none 0 0] 22)).alloc (.cells #[.int .i64 0] 27))).trans g4.grown)) ?_); intro g5))
    have o6 : Ob ((g5.val.setCell ⟨w.heap.size + 1, 0, none⟩ (.slice none 0 0)).setCell ⟨w.heap.size + 1 + 1, 0, none⟩ (.int .i64 E)) (w.heap.size + 1) 22 [.slice none 0 0] := (((hWb ▸ a6).ext g5.grown).set 0 _).far _ _ hb67
    have o7 : Ob ((g5.val.setCell ⟨w.heap.size + 1, 0, none⟩ (.slice none 0 0)).setCell ⟨w.heap.size + 1 + 1, 0, none⟩ (.int .i64 E)) (w.heap.size + 1 + 1) 27 [.int .i64 E] := (((hWb ▸ a7).ext g5.grown).far ⟨w.heap.size + 1, 0, none⟩ _ (Ne.symm hb67)).set 0 _
    have q6 := o6.cell 0 rfl
    have q7 := o7.cell 0 rfl
    exact ret_plain (v := .tuple #[.slice none 0 0, .int .i64 E]) (by simp [results, Tryz.f28, go_sem, q6, q7]) ⟨_, [], rfl, by rw [hQ.out]; rfl, OwnEr.nil _ _, (((hWb ▸ hX0.out : Ext w (((w.alloc (.cells #[(.slice XA ws.length xcap)] 24)).alloc (.cells #[.slice none 0 0] 22)).alloc (.cells #[.int .i64 0] 27))).trans g5.grown).setCell (p := ⟨w.heap.size + 1, 0, none⟩) (by show w.heap.size ≤ w.heap.size + 1; omega) _).setCell (p := ⟨w.heap.size + 1 + 1, 0, none⟩) (by show w.heap.size ≤ w.heap.size + 1 + 1; omega) _⟩
  subst he
  rw [if_pos rfl] at hE
  replace hE := hide hE
  replace hQ := hide hQ
  go_wp2_with (first | (go_at_call 31; (with_reducible refine seq_gw (h1.out _ (by rw [← hWb]; exact hX0.out)) ?_); intro g1) | (go_at_call 31; (with_reducible refine seq_gw' (h2.out _ ((by rw [← hWb]; exact hX0.out : Ext w (((w.alloc (.cells #[(.slice XA ws.length xcap)] 24)).alloc (.cells #[.slice none 0 0] 22)).alloc (.cells #[.int .i64 0] 27))).trans g1.grown)) ?_); intro g2) | (go_at_call 30; (with_reducible refine seq_gw' (h3.out _ ((by rw [← hWb]; exact hX0.out : Ext w (((w.alloc (.cells #[(.slice XA ws.length xcap)] 24)).alloc (.cells #[.slice none 0 0] 22)).alloc (.cells #[.int .i64 0] 27))).trans g2.grown)) ?_); intro g3) | (go_at_call 30; (with_reducible refine seq_gw' (h4.out _ ((by rw [← hWb]; exact hX0.out : Ext w (((w.alloc (.cells #[(.slice XA ws.length xcap)] 24)).alloc (.cells #[.slice none 0 0] 22)).alloc (.cells #[.int .i64 0] 27))).trans g3.grown)) ?_); intro g4) | (go_at_call 32; (with_reducible refine seq_gw' (h5.out _ ((by rw [← hWb]; exact hX0.out : Ext w (((w.alloc (.cells #[(.slice XA ws.length xcap)] 24)).alloc (.cells #[.slice none 0 0] 22)).alloc (.cells #[.int .i64 0] 27))).trans g4.grown)) ?_); intro g5) | (go_at_call 56; refine (h6.out _ ((by rw [← hWb]; exact hX0.out : Ext w (((w.alloc (.cells #[(.slice XA ws.length xcap)] 24)).alloc (.cells #[.slice none 0 0] 22)).alloc (.cells #[.int .i64 0] 27))).trans g5.grown)).mono ?_; rintro ee w1 ⟨b, rfl, v1, N1, hb1, hN1, hNe1, hY1⟩; have hX1 := hide (((by rw [← hWb]; exact hX0.out : Ext w (((w.alloc (.cells #[(.slice XA ws.length xcap)] 24)).alloc (.cells #[.slice none 0 0] 22)).alloc (.cells #[.int .i64 0] 27))).trans g5.grown).trans hY1); have hY1' := hide (g5.grown.trans hY1); clear hY1) | (go_at_call 56; refine (h7.out _ ((hX1.out.alloc _).alloc _)).mono ?_; rintro ee w2 ⟨b2, rfl, v2, N2, hb2, hN2, hNe2, hY2⟩))
  rw [if_pos ha'.out] at hN2
  rw [if_pos hb'.out] at hN1
  have a5' := (hWb ▸ a5 : Ob (((w.alloc (.cells #[(.slice XA ws.length xcap)] 24)).alloc (.cells #[.slice none 0 0] 22)).alloc (.cells #[.int .i64 0] 27)) w.heap.size 24 [(.slice XA ws.length xcap)]).ext hY1'.out
  have a6' := (hWb ▸ a6 : Ob (((w.alloc (.cells #[(.slice XA ws.length xcap)] 24)).alloc (.cells #[.slice none 0 0] 22)).alloc (.cells #[.int .i64 0] 27)) (w.heap.size + 1) 22 [.slice none 0 0]).ext hY1'.out
  have a7' := (hWb ▸ a7 : Ob (((w.alloc (.cells #[(.slice XA ws.length xcap)] 24)).alloc (.cells #[.slice none 0 0] 22)).alloc (.cells #[.int .i64 0] 27)) (w.heap.size + 1 + 1) 27 [.int .i64 0]).ext hY1'.out
  have p9 : Ob w2 w1.heap.size 90 [(.func (.func 104) #[] #[.pointer (some ⟨b, 0, none⟩)])] := ((Ob.new w1 90 [(.func (.func 104) #[] #[.pointer (some ⟨b, 0, none⟩)])]).alloc _).ext hY2
  have p10 : Ob w2 (w1.heap.size + 1) 22 [.slice none 0 0] := by
    have h : Ob ((w1.alloc (.cells #[(.func (.func 104) #[] #[.pointer (some ⟨b, 0, none⟩)])] 90)).alloc (.cells #[.slice none 0 0] 22)) (w1.alloc (.cells #[(.func (.func 104) #[] #[.pointer (some ⟨b, 0, none⟩)])] 90)).heap.size 22 [.slice none 0 0] := Ob.new (w1.alloc (.cells #[(.func (.func 104) #[] #[.pointer (some ⟨b, 0, none⟩)])] 90)) 22 [.slice none 0 0]
    rw [World.size_alloc] at h
    exact h.ext hY2
  have hX12 : Ext w1 w2 := (((Ext.refl w1).alloc _).alloc _).trans hY2
  have hz12 := hX12.size
  have hz1 := hX1.out.size
  have g6 : w.heap.size ≤ w.heap.size + 1 := by omega
  have g7 : w.heap.size ≤ w.heap.size + 1 + 1 := by omega
  have l5 := a5'.lt
  have l6 := a6'.lt
  have l7 := a7'.lt
  have l10 := p10.lt
  have n9 : w1.heap.size ≠ w1.heap.size + 1 := by omega
  have g10 : w1.heap.size ≤ w1.heap.size + 1 := by omega
  have m5 : w.heap.size ≠ w1.heap.size + 1 := by omega
  have m6 : w.heap.size + 1 ≠ w1.heap.size + 1 := by omega
  have m7 : w.heap.size + 1 + 1 ≠ w1.heap.size + 1 := by omega
  clear h1 h2 h3 h4 h5 h6 h7 hWb a5 a6 a7 hX0 hY1' hY2 g5
  generalize h10 : w1.heap.size + 1 = b10 at *
  generalize h7 : w.heap.size + 1 + 1 = b7 at *
  generalize h6 : w.heap.size + 1 = b6 at *
  clear h6 h7 h10
  have hMx := hide (ew_box hNe2 p10)
  have hGl := mayE_len ha'.out
  have hHl := mayE_len hb'.out
  have hN1l : N1.length ≤ 4096 := by have := congrArg List.length hN1; simp only [eds, List.length_map] at this hHl; omega
  have hN2l : N2.length ≤ 4096 := by have := congrArg List.length hN2; simp only [eds, List.length_map] at this hGl; omega
  have hG8 : ∀ g ∈ grp (eds N2), g.1.length ≤ 1000000 := fun g hg => by rw [hN2] at hg; have := grp_r8 ha'.out g hg; omega
  have hH8 : ∀ g ∈ grp (eds N1), g.1.length ≤ 1000000 := fun g hg => by rw [hN1] at hg; have := grp_r8 hb'.out g hg; omega
  rw [← hN1] at hRi hP
  rw [← hN2] at hLi hP
  have hz2 : w.heap.size ≤ w2.heap.size := by omega
  replace hP := hP.out
  clear hN1 hN2 ha' hb' hGl hHl
  have hNe1' := hide hNe1
  have hb1' := hide hb1
  obtain ⟨A2, c2, rfl, -, -, -⟩ := ew_form hNe2
  clear hNe1 hb1
  refine wp_rangeX2 (X := [b10]) (xs := grp (eds N2)) rfl (enters_of Tryz.func104 (by kernel_rfl) rfl) (groups_seqx [b10] N2 _ w2 w2 b2 hMx.out (by omega) hG8 (Ext.refl _) hb2) (Ext.refl _) (Nat.le_refl _) (fun x vs W h => h.size) (fun x vs => Hgg.stab x vs)
    (FbA b10) (fun b => FbA.stab _ b10 b) (IA ws (grp (eds N1)) (grp (eds N2)) w1 w2 b10 (.func (.func 104) #[] #[.pointer (some ⟨b, 0, none⟩)]))
    (fun k A o ⟨_, ⟨mv, N, ⟨o1, o2, _⟩, _⟩, _⟩ => ⟨mv, o1.alloc o, (by have := o1.lt; omega), (fun h => by have := (o2.lt _ h).2; omega), by simp⟩)
    (IxA ws (grp (eds N1)) (grp (eds N2)) w b6 b7)
    (fun k => IA.stab ws _ _ w1 w2 _ _ k _ hz12)
    (fun c k => IxA.stab ws _ _ w _ _ c k _ hz2)
    ⟨⟨hX12, p9⟩, ⟨_, [], ⟨p10, World.ownsRow_nil _ _ _ _, by simp⟩, rfl, by simp⟩, Nat.le_refl _⟩
    (fun k x vs a' _ => ∃ ro fo, vs = #[ro, fo] ∧ a' = { tmps := #[.slice LA L.length lcap, .slice UA R.length ucap, (.slice XA ws.length xcap), undef, undef, .pointer (some ⟨w.heap.size, 0, none⟩), .pointer (some ⟨b6, 0, none⟩), .pointer (some ⟨b7, 0, none⟩), .int .i64 0, .pointer (some ⟨w1.heap.size, 0, none⟩), .pointer (some ⟨b10, 0, none⟩), ro, fo, undef, undef, .slice LA L.length lcap, .bool true, .bool false, .bool false, .slice UA R.length ucap, .bool true, .bool false, .bool false, .slice LA L.length lcap, .bool true, .bool false, .bool false, .slice UA R.length ucap, .bool true, .bool false, .bool false, (.slice XA ws.length xcap), .int .i64 0, .int .i64 0, .bool false, undef, .slice UA R.length ucap, (.func (.func 104) #[] #[.pointer (some ⟨b, 0, none⟩)]), .slice LA L.length lcap, .func (.func 104) #[] #[.pointer (some ⟨b2, 0, none⟩)], ro, fo, undef, undef, undef, undef, undef, undef, undef, undef, undef, undef, undef, undef, undef, undef, undef, undef, undef, undef, undef, undef, undef, undef, undef], defers := [] })
    (fun k x vs a' => Stab.pure _) ?assign ?body ?done ?stop
  case assign =>
    rintro LL k x vs W K _ ⟨ro, fo, rfl, -, -⟩ hK
    gi_wp2
    exact hK _ _ (Ext.refl _) ⟨ro, fo, rfl, rfl⟩
  case body =>
    rintro LL k x vs a' W hxk ⟨⟨hW1, o9⟩, ⟨mv, M, ⟨o10, hMo, hMr⟩, hgo, hMl⟩, h2W⟩ ⟨ro', fo', e', hr2, hf2⟩ ⟨ro, fo, rfl, rfl⟩
    obtain ⟨rfl, rfl⟩ : ro = ro' ∧ fo = fo' := by simpa using e'
    obtain ⟨q, J⟩ := x
    have hqi := hLi (q, J) (List.mem_of_getElem? hxk)
    simp only at hr2 hf2 hqi
    have hXw := hide (hX1.out.trans hW1)
    have hwo := hide (without_c q ws J N1 hqi hi hRi v1 ro fo (.slice XA ws.length xcap) W b (Sl.own hr2 (by simp)) (own_jw hf2 (by simp)) (Sl.ext hx'.out hXw.out) (hNe1'.out.ext hW1) (hb1'.out.ext hW1) (by omega) hH8)
    have k9 := o9.cell 0 rfl
    have k5 := (a5'.ext hW1).cell 0 rfl
    have o9' := hide o9
    have o10' := hide o10
    have hW1' := hide hW1
    have hr2' := hide hr2
    obtain ⟨RO, rocap, rfl⟩ := own_form hr2
    obtain ⟨FO, focap, rfl⟩ := own_form hf2
    obtain ⟨MA, mcap, rfl⟩ := own_form hMo
    have hM0 : OwnEr W w2.heap.size (.slice MA M.length mcap) M := ⟨hMo, fun p hp => hMr p hp⟩
    replace hM0 := hide hM0
    clear hr2 hf2 hqi o9 o10 hMo hMr
    obtain ⟨E1, hE1⟩ : ∃ E, E = woE q J ws (grp (eds N1)) := ⟨_, rfl⟩
    obtain ⟨R1, hR1⟩ : ∃ R, R = woR q J ws (grp (eds N1)) := ⟨_, rfl⟩
    rw [← hE1, ← hR1] at hwo
    by_cases hE0 : E1 = 0
    case neg =>
      have hst := alGo_stop (S := eds M) hxk (by rw [← hE1]; exact hE0)
      rw [← hE1, hgo, ← hP] at hst
      have hP0 := hide hP
      replace hst := hide hst
      have hE' : (E1 != 0) = true := by simpa using hE0
      have o6 := hide (a6'.ext hW1'.out)
      have o7 := hide (a7'.ext hW1'.out)
      have hE0' := hide hE0
      clear hE1 hR1 hxk hgo hP hE0 hW1
      gi_wp2_with (gi_at_call 59; refine (in_round hwo.out).mono ?_; rintro ee W3 ⟨g2, rfl, hog, hX3⟩; obtain ⟨GA, gcap, rfl⟩ := own_form hog; have y6 := o6.out.ext hX3; have y7 := o7.out.ext hX3; have k6 := y6.cell 0 rfl; have k7 := y7.cell 0 rfl; have fr6 := y6.free 0; have fr7 := y7.free 0; have ll6 := y6.lt; have ll7 := y7.lt; haveI : In b6 W3 := ⟨ll6⟩; haveI : In b7 W3 := ⟨ll7⟩; replace y6 := hide y6; replace y7 := hide y7; replace hX3 := hide hX3; clear hog)
      have z6 : Ob ((W3.setCell ⟨b6, 0, none⟩ (.slice none 0 0)).setCell ⟨b7, 0, none⟩ (.int .i64 E1)) b6 22 [.slice none 0 0] := (y6.out.set 0 _).far _ _ hb67
      have z7 : Ob ((W3.setCell ⟨b6, 0, none⟩ (.slice none 0 0)).setCell ⟨b7, 0, none⟩ (.int .i64 E1)) b7 27 [.int .i64 E1] := (y7.out.far ⟨b6, 0, none⟩ _ (Ne.symm hb67)).set 0 _
      have hmem : ∀ y ∈ [b6, b7], ∃ T vs, Ob W y T vs := by
        intro y hy
        simp only [List.mem_cons, List.not_mem_nil, or_false] at hy
        rcases hy with rfl | rfl
        · exact ⟨_, _, o6.out⟩
        · exact ⟨_, _, o7.out⟩
      exact ⟨keeps_fr (S := [b6, b7]) (((Fr.of_ext hX3.out).setCell ⟨b6, 0, none⟩ _ (.inl (by simp))).setCell ⟨b7, 0, none⟩ _ (.inl (by simp))) hmem, ⟨rfl, by rw [← hP0.out, hst.out], by rw [← hP0.out, hst.out]; exact hE0'.out⟩, ⟨z6, by rw [← hP0.out, hst.out]; exact z7⟩, ((hXw.out.trans hX3.out).setCell (p := ⟨b6, 0, none⟩) (by show w.heap.size ≤ b6; omega) _).setCell (p := ⟨b7, 0, none⟩) (by show w.heap.size ≤ b7; omega) _⟩
    have hst := alGo_step (S := eds M) hxk (by rw [← hE1]; exact hE0)
    rw [hgo, ← hR1, show (eds M).length = M.length from List.length_map _] at hst
    subst hE0
    replace hst := hide hst
    replace hP := hide hP
    clear hE1 hR1 hxk hgo
    by_cases h4 : M.length ≤ 4096
    case neg =>
      have h4I : ¬ (M.length : Int) ≤ 4096 := by omega
      have d4 : decide ((M.length : Int) ≤ 4096) = false := decide_eq_false h4I
      have hst' := hst.out
      rw [if_neg h4] at hst'
      replace hst' := hide hst'
      clear hst
      gi_wp2_with (gi_at_call 59; refine (in_round hwo.out).mono ?_; rintro ee W3 ⟨g2, rfl, hog, hX3⟩; obtain ⟨GA, gcap, rfl⟩ := own_form hog; have k10 := (o10'.out.ext hX3).cell 0 rfl; replace hX3 := hide hX3; clear hog)
      have hM3 := hM0.out.ext hX3.out
      refine ⟨keeps_fr (S := []) (Fr.of_ext hX3.out) (by simp), belX_fr (S := []) (Fr.of_ext hX3.out) h2W (by simp), ⟨⟨hW1'.out.trans hX3.out, o9'.out.ext hX3.out⟩, ⟨_, M, ⟨o10'.out.ext hX3.out, hM3.1, hM3.2⟩, hst'.out.symm, hMl⟩, Nat.le_trans h2W hX3.out.size⟩, ?_⟩
      rintro y T us ⟨mv0, om, hy1, hy2, hy3⟩ oy
      exact ⟨⟨mv0, om.ext hX3.out, hy1, hy2, Nat.lt_of_lt_of_le hy3 hX3.out.size⟩, oy.ext hX3.out⟩
    have h4I : (M.length : Int) ≤ 4096 := by omega
    have d4 : decide ((M.length : Int) ≤ 4096) = true := decide_eq_true h4I
    have hst' := hst.out
    rw [if_pos h4] at hst'
    replace hst' := hide hst'
    clear hst
    gi_wp2_with (gi_at_call 59; refine (in_round hwo.out).mono ?_; rintro ee W3 ⟨g2, rfl, hog, hX3⟩; have hj3 := hide (own_jw (S := []) hog (by simp)); obtain ⟨GA, gcap, rfl⟩ := own_form hog; have k10 := (o10'.out.ext hX3).cell 0 rfl; replace hX3 := hide hX3; clear hog)
    have o10a := hide (o10'.out.ext hX3.out)
    have q10 := hide (o10a.out.cell 0 rfl)
    have hMa := hide (hM0.out.ext hX3.out)
    have hz3 := hX3.out.size
    have hbd := hide (fun w' (hX' : Ext W3 w') => edgeBuild_c q R1 (.slice RO q.length rocap) (.slice GA R1.length gcap) w' (Sl.ext (Sl.own (S := []) hr2'.out (by simp)) (hX3.out.trans hX')) (Sl.ext hj3.out hX'))
    clear k10
    refine wpIn_region_list_tail 4 [(.is (.slice MA M.length mcap)), (.is (.slice RO q.length rocap)), (.is (.slice GA R1.length gcap)), bldF W3.heap.size q R1] (by kernel_rfl) (by kernel_rfl) (by kernel_rfl) (by kernel_rfl) (by kernel_rfl) (by kernel_rfl) (by kernel_rfl) (by kernel_rfl) ?_ ?_
    · refine ⟨?_, ?_, ?_, ?_, trivial⟩
      · intro b w' h hE
        have f10 : b.tmps.getD 10 undef = .pointer (some ⟨b10, 0, none⟩) := hE 10 (of_decide_eq_true (by kernel_rfl))
        have c0 := cell_later h.ext q10.out
        exact good_load (wanted_none rfl) rfl f10 (by simp [go_sem, c0]) rfl
      · intro b w' h hE
        have f11 : b.tmps.getD 11 undef = .slice RO q.length rocap := hE 11 (of_decide_eq_true (by kernel_rfl))
        exact good_move (wanted_none rfl) rfl f11
      · intro b w' h hE
        have f13 : b.tmps.getD 13 undef = .slice GA R1.length gcap := hE 13 (of_decide_eq_true (by kernel_rfl))
        exact good_move (wanted_none rfl) rfl f13
      · intro b w' h hE
        have f57 : b.tmps.getD 57 undef = .slice RO q.length rocap := h.dep 1 _ 57 (by kernel_rfl) rfl rfl
        have g57 : b.tmps[57]?.getD undef = .slice RO q.length rocap := by rw [← Array.getD_eq_getD_getElem?]; exact f57
        have f58 : b.tmps.getD 58 undef = .slice GA R1.length gcap := h.dep 2 _ 58 (by kernel_rfl) rfl rfl
        have g58 : b.tmps[58]?.getD undef = .slice GA R1.length gcap := by rw [← Array.getD_eq_getD_getElem?]; exact f58
        refine good_call (wanted_none rfl) rfl (enters Tryz.func37 (by kernel_rfl) rfl) ?_
        rw [show (#[.tmp 57, .tmp 58] : Array Operand).map b.eval = #[.slice RO q.length rocap, .slice GA R1.length gcap] by simp [Act.eval, g57, g58]]
        exact (hbd.out w' h.ext).mono fun e w1 ⟨v, M2, he, hM2, ho, hx⟩ => ⟨v, he, ⟨M2, hM2, ho.lower h.ext.size⟩, hx⟩
    · intro b w4 hX4 hd hz he' hf
      have e56 : b.tmps.getD 56 undef = .slice MA M.length mcap := hf 0 _ 56 (by omega) rfl rfl
      have e57 : b.tmps.getD 57 undef = .slice RO q.length rocap := hf 1 _ 57 (by omega) rfl rfl
      have e58 : b.tmps.getD 58 undef = .slice GA R1.length gcap := hf 2 _ 58 (by omega) rfl rfl
      have f59 : ∃ M2, eds M2 = bld q R1 ∧ OwnEr w4 W3.heap.size (b.tmps.getD 59 undef) M2 := hf 3 _ 59 (by omega) rfl rfl
      have e := frame_puts hd hz he'
      obtain ⟨X, hXx⟩ : ∃ X : Nat → Value, ∀ d, b.tmps.getD d undef = X d := ⟨_, fun _ => rfl⟩
      rw [hXx] at e56 e57 e58 f59
      obtain ⟨M2, hM2, f59⟩ := f59
      obtain ⟨A59, c59, q59⟩ := own_form f59.1
      rw [show dstsOf _ = [56, 57, 58, 59] from rfl] at e
      simp only [List.foldl_cons, List.foldl_nil, hXx, Act.put, List.setIfInBounds_toArray, List.set_cons_succ, List.set_cons_zero] at e
      rw [e56, e57, e58, q59] at e
      rw [q59] at f59
      replace f59 := hide f59
      clear hf he' hz hd hXx e56 e57 e58 q59
      subst e
      have hzw := hX4.size
      simp only [List.drop_succ_cons, List.drop_zero]
      have hl2 : M2.length ≤ 1024 := by have := bld_len q R1; rw [← hM2] at this; simpa [eds] using this
      have o10b := hide (o10a.out.ext hX4)
      have hMb := hide (hMa.out.ext hX4)
      have hno := Ob.not_own o10b.out hMb.out.1 (by decide)
      have hno' := hide hno
      replace hM2 := hide hM2
      replace hl2 := hide hl2
      go_wp2_with (at_builtin; (refine wpl_app tEdg rfl (.tmp 56) (.tmp 59) rfl rfl hMb.out.1 rfl (src_sl Tryz.underlying22 f59.out.ew.1 (Ew.one f59.out.ew) (by omega)) (by unfold maxLen; have := hl2.out; omega) (by have := hl2.out; omega) (by omega) ?_; intro v8 w8 ho8 hg8 hob8; obtain ⟨A8, c8, rfl⟩ := own_form ho8; have o10c := o10b.out.grown hg8 (Ne.symm hno); have k3 := o10c.cell 0 rfl; have f3 := o10c.free 0; have hlt3 := o10c.lt; haveI : In b10 w8 := ⟨hlt3⟩))
      dsimp only [onlyN, Exit.then]
      gi_wp2_with fail
      have hXX := hX3.out.trans hX4
      have hM8 : OwnEr w8 w2.heap.size (.slice A8 (M.length + M2.length) c8) (M ++ M2) := hMb.out.app (own_appE ho8) hg8 hob8 (fun p hp => ⟨_, f59.out.2 p hp, fun q hq => List.mem_append_right _ (List.mem_range.2 (by
        rcases List.mem_append.1 hq with hq | hq
        · have := (ob_ge hM0.out.1 q hq).2; omega
        · have := List.mem_range.1 hq; omega))⟩)
      have hF : Fr (ob (Value.slice MA M.length mcap) ++ [b10]) W (w8.setCell ⟨b10, 0, none⟩ (.slice A8 (M.length + M2.length) c8)) := ((Fr.of_ext hXX).grown hg8 (fun k hk => .inl (List.mem_append_left _ (by unfold ob; rw [show (Value.slice MA M.length mcap).ownBlock = some k from hk]; exact List.mem_singleton.2 rfl)))).setCell ⟨b10, 0, none⟩ _ (.inl (by simp))
      have hcl : ∀ y ∈ ob (Value.slice MA M.length mcap) ++ [b10], ∃ T vs, Ob W y T vs := fun y hy => by
        rcases List.mem_append.1 hy with hy | hy
        · exact ob_obj hM0.out.1 y hy
        · obtain rfl := List.mem_singleton.1 hy; exact ⟨_, _, o10'.out⟩
      have hgeS : ∀ y ∈ ob (Value.slice MA M.length mcap) ++ [b10], w2.heap.size ≤ y ∨ y ∈ [b10] := fun y hy => (List.mem_append.1 hy).imp (fun h => (ob_ge hM0.out.1 y h).1) id
      have hge1 : ∀ y ∈ ob (Value.slice MA M.length mcap) ++ [b10], w1.heap.size ≤ y := fun y hy => by
        rcases List.mem_append.1 hy with hy | hy
        · have := (ob_ge hM0.out.1 y hy).1; omega
        · obtain rfl := List.mem_singleton.1 hy; exact g10
      have hF3 : Fr [b10] w8 (w8.setCell ⟨b10, 0, none⟩ (.slice A8 (M.length + M2.length) c8)) := (Fr.refl [b10] w8).setCell ⟨b10, 0, none⟩ _ (.inl (by simp))
      have hl3 : M.length + M2.length = (M ++ M2).length := by rw [List.length_append]
      have o9b : Ob (w8.setCell ⟨b10, 0, none⟩ (.slice A8 (M.length + M2.length) c8)) w1.heap.size 90 [(.func (.func 104) #[] #[.pointer (some ⟨b, 0, none⟩)])] := (((o9'.out.ext hXX).grown hg8 (Ne.symm (Ob.not_own (o9'.out.ext hXX) hMb.out.1 (by decide)))).far _ _ n9)
      refine ⟨keeps_fr hF hcl, belX_fr hF h2W hgeS, ⟨⟨ext_fr hW1'.out hF hge1, o9b⟩, ⟨_, M ++ M2, ⟨o10c.set 0 _, own_fr hM8.1 hF3 (by simpa using l10), fun p hp => Sl.set (hM8.2 p hp) _ _ (List.mem_append_right _ (List.mem_range.2 l10))⟩, by rw [show eds (M ++ M2) = eds M ++ bld q R1 by rw [← hM2.out]; simp [eds]]; exact hst'.out.symm, by have := hl2.out; rw [List.length_append]; omega⟩, Nat.le_trans h2W hF.size⟩, ?_⟩
      rintro y T us ⟨mv0, om, hy1, hy2, hy3⟩ oy
      obtain rfl : mv0 = .slice MA M.length mcap := by
        have e1 := om
        unfold Ob at e1
        have e2 := o10'.out
        unfold Ob at e2
        rw [e2] at e1
        simpa using e1.symm
      have hyS : y ∉ ob (Value.slice MA M.length mcap) ++ [b10] := by
        intro h
        rcases List.mem_append.1 h with h | h
        · exact hy2 (by simpa [ob] using h)
        · exact hy1 (by simpa using h)
      refine ⟨⟨_, o10c.set 0 _, hy1, fun h => ?_, by have := hF.size; omega⟩, oy.fr hF hyS⟩
      rcases hob8 with h8 | h8
      · rw [h8] at h; exact hy2 h
      · rw [h8] at h
        have := Option.some.inj h
        have := hXX.size
        omega
  case done =>
    rintro D W hD ⟨⟨hW1, o9⟩, ⟨mv, M, ⟨o10, hMo, hMr⟩, hgo, hMl⟩, h2W⟩ hK
    rw [List.drop_length, ← hP] at hgo
    have hP1 : P = (0, eds M) := by rw [← hgo]; rfl
    have hE2 := hE.out
    have hQ2 := hQ.out
    rw [hP1, if_pos rfl, show (eds M).length = M.length from List.length_map _] at hE2
    rw [hP1] at hQ2
    have hXw := hide (hX1.out.trans hW1)
    have o6 := a6'.ext hW1
    have o7 := a7'.ext hW1
    have q6 := o6.cell 0 rfl
    have q7 := o7.cell 0 rfl
    have q10 := o10.cell 0 rfl
    have f6 := o6.free 0
    have f7 := o7.free 0
    have ll6 := o6.lt
    have ll7 := o7.lt
    have ll10 := o10.lt
    haveI : In b6 W := ⟨ll6⟩
    haveI : In b7 W := ⟨ll7⟩
    haveI : In b10 W := ⟨ll10⟩
    obtain ⟨MA, mcap, rfl⟩ := own_form hMo
    have hM0 : OwnEr W w2.heap.size (.slice MA M.length mcap) M := ⟨hMo, fun p hp => hMr p hp⟩
    replace hM0 := hide hM0
    have o6' := hide o6
    have o7' := hide o7
    have hK' := hide hK
    clear hgo hP hP1 hE hQ hMo hMr o9 o10 o6 o7 hW1 hK
    by_cases h4 : 4096 < M.length
    · have h4I : (4096 : Int) < M.length := by omega
      have d4 : decide ((4096 : Int) < M.length) = true := decide_eq_true h4I
      rw [if_pos h4] at hE2
      subst hE2
      replace hQ2 := hide (show Q = [] by rw [hQ2, if_neg (by decide)])
      go_wp2_with fail
      have y6 : Ob ((W.setCell ⟨b6, 0, none⟩ (.slice none 0 0)).setCell ⟨b7, 0, none⟩ (.int .i64 7)) b6 22 [.slice none 0 0] := (o6'.out.set 0 _).far _ _ hb67
      have y7 : Ob ((W.setCell ⟨b6, 0, none⟩ (.slice none 0 0)).setCell ⟨b7, 0, none⟩ (.int .i64 7)) b7 27 [.int .i64 7] := (o7'.out.far ⟨b6, 0, none⟩ _ (Ne.symm hb67)).set 0 _
      have hK2 := (KeepsOthers.setCell (W.setCell ⟨b6, 0, none⟩ (.slice none 0 0)) ⟨b7, 0, none⟩ (.int .i64 7)).same D _ ((KeepsOthers.setCell W ⟨b6, 0, none⟩ (.slice none 0 0)).same D _ hK'.out rfl) rfl
      have z6 := (ob_put (o' := .deferred none) hK2 rfl y6).cell 0 rfl
      have z7 := (ob_put (o' := .deferred none) hK2 rfl y7).cell 0 rfl
      refine ret_mark hK2 (v := .tuple #[.slice none 0 0, .int .i64 7]) ?_ ⟨_, [], rfl, by rw [hQ2.out]; rfl, OwnEr.nil _ _, put_ext ((hXw.out.setCell (p := ⟨b6, 0, none⟩) (by show w.heap.size ≤ b6; omega) _).setCell (p := ⟨b7, 0, none⟩) (by show w.heap.size ≤ b7; omega) _) (by omega) _⟩
      simp [results, Tryz.f28, go_sem, z6, z7]
    · have h4I : ¬ (4096 : Int) < M.length := by omega
      have d4 : decide ((4096 : Int) < M.length) = false := decide_eq_false h4I
      rw [if_neg h4] at hE2
      subst hE2
      replace hQ2 := hide (show Q = eds M by rw [hQ2, if_pos rfl])
      go_wp2_with fail
      have y6 : Ob ((W.setCell ⟨b6, 0, none⟩ (.slice MA M.length mcap)).setCell ⟨b7, 0, none⟩ (.int .i64 0)) b6 22 [.slice MA M.length mcap] := (o6'.out.set 0 _).far _ _ hb67
      have y7 : Ob ((W.setCell ⟨b6, 0, none⟩ (.slice MA M.length mcap)).setCell ⟨b7, 0, none⟩ (.int .i64 0)) b7 27 [.int .i64 0] := (o7'.out.far ⟨b6, 0, none⟩ _ (Ne.symm hb67)).set 0 _
      have hF2 : Fr [b6, b7] W ((W.setCell ⟨b6, 0, none⟩ (.slice MA M.length mcap)).setCell ⟨b7, 0, none⟩ (.int .i64 0)) := ((Fr.refl [b6, b7] W).setCell ⟨b6, 0, none⟩ _ (.inl (by simp))).setCell ⟨b7, 0, none⟩ _ (.inl (by simp))
      have hin12 : ∀ x ∈ [b6, b7], x < w2.heap.size := by intro x hx; simp only [List.mem_cons, List.not_mem_nil, or_false] at hx; omega
      have hK2 := (KeepsOthers.setCell (W.setCell ⟨b6, 0, none⟩ (.slice MA M.length mcap)) ⟨b7, 0, none⟩ (.int .i64 0)).same D _ ((KeepsOthers.setCell W ⟨b6, 0, none⟩ (.slice MA M.length mcap)).same D _ hK'.out rfl) rfl
      have z6 := (ob_put (o' := .deferred none) hK2 rfl y6).cell 0 rfl
      have z7 := (ob_put (o' := .deferred none) hK2 rfl y7).cell 0 rfl
      have hM2 : OwnEr (((W.setCell ⟨b6, 0, none⟩ (.slice MA M.length mcap)).setCell ⟨b7, 0, none⟩ (.int .i64 0)).putObj D (.deferred none)) w2.heap.size (.slice MA M.length mcap) M :=
        ⟨(Stab.own (B := 0) _ _ _ _ _ _).put _ D _ _ (own_fr hM0.out.1 hF2 hin12) (Nat.zero_le _) hK2 rfl, fun p hp => (Stab.sl (B := 0) _ _ _ _ _).put _ D _ _ (Sl.fr (hM0.out.2 p hp) hF2 (fun x hx => List.mem_append_right _ (List.mem_range.2 (hin12 x hx)))) (Nat.zero_le _) hK2 rfl⟩
      refine ret_mark hK2 (v := .tuple #[.slice MA M.length mcap, .int .i64 0]) ?_ ⟨_, rfl, M, hQ2.out.symm, hM2.lower hz2, put_ext ((hXw.out.setCell (p := ⟨b6, 0, none⟩) (by show w.heap.size ≤ b6; omega) _).setCell (p := ⟨b7, 0, none⟩) (by show w.heap.size ≤ b7; omega) _) (by omega) _⟩
      simp [results, Tryz.f28, go_sem, z6, z7]
  case stop =>
    rintro D c k W hD hk ⟨⟨rfl, h4, h5⟩, ⟨o6, o7⟩, hXw⟩ hK
    rw [← hP] at h4 h5 o7
    have hE2 := hE.out
    rw [if_neg h5] at hE2
    rw [← hE2] at o7 h5
    have hQ2 := hide (show Q = [] by rw [hQ.out, if_neg h5])
    have hK' := hide hK
    have hXw' := hide hXw
    clear hP hE hQ hE2 h4 h5 hXw hK
    go_wp2
    have z6 := (ob_put (o' := .deferred none) hK'.out rfl o6).cell 0 rfl
    have z7 := (ob_put (o' := .deferred none) hK'.out rfl o7).cell 0 rfl
    refine ret_mark hK'.out (v := .tuple #[.slice none 0 0, .int .i64 E]) ?_ ⟨_, [], rfl, by rw [hQ2.out]; rfl, OwnEr.nil _ _, put_ext hXw'.out (by omega) _⟩
    simp [results, Tryz.f28, go_sem, z6, z7]
end Go.Proofs.YtljkneajdndgjabGreat
