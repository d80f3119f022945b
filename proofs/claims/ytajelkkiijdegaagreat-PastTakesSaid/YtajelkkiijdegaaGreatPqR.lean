/-
  A helper of ours: no claim of its own. Layer 14 (past), the document's state of layer 13 in it: a message taken, by the document: a retract.
-/
import Derived.Test.YtajelkkiijdegaaGreatPqI
set_option linter.unusedVariables false
set_option linter.unusedSimpArgs false
namespace Go.Proofs.YtajelkkiijdegaaGreat
open Go.RowKit
attribute [local go_sem] GW.cell GW.frozen In.eq_true In.le_true In.ne In.ne' In.ne_add In.ne_add' In.lt_add Upto.le_true Upto.le_add Upto.lt_add
theorem set_same {α : Type} : ∀ {l : List α} {i : Nat} {x : α}, l[i]? = some x → l.set i x = l
  | _ :: _, 0, _, h => by simp at h; subst h; rfl
  | _ :: r, i + 1, x, h => by rw [List.set_cons_succ, set_same (by simpa using h)]
theorem evd_gone {L : List Lv} {i : Nat} {v : Value} {a : Int × List Vl} {q : Spn} {b c : Bool} (h : L[i]? = some (v, (a, q, b))) : (L.set i (v, (a, q, c))).flatMap (fun p => evD p.1 p.2) = L.flatMap (fun p => evD p.1 p.2) := by
  rw [List.flatMap_def, List.flatMap_def, List.map_set]
  congr 1
  exact set_same (by rw [List.getElem?_map, h]; rfl)
theorem evd_set {n1 n2 : Int} {v : Value} {a : Int × List Vl} {q : Spn} {b c : Bool} : ∀ {L : List Lv} {i : Nat}, L[i]? = some (v, (a, q, b)) → (L.set i (v, (a, (n1, n2), c))).flatMap (fun p => evD p.1 p.2) = ((L.flatMap (fun p => evD p.1 p.2)).set (i * 4 + 2) (.int .i64 n1)).set (i * 4 + 2 + 1) (.int .i64 n2)
  | x :: r, 0, h => by
    simp at h; subst h
    simp [evD]
  | x :: r, i + 1, h => by
    have ih := evd_set (n1 := n1) (n2 := n2) (c := c) (L := r) (i := i) (by simpa using h)
    have hl : (evD x.1 x.2).length = 4 := rfl
    rw [List.set_cons_succ, List.flatMap_cons, ih, List.flatMap_cons]
    rw [List.set_append_right _ _ (by rw [hl]; omega), List.set_append_right _ _ (by rw [hl]; omega), hl]
    congr 2
    · congr 1; omega
    · omega
def TkPost (base r : Nat) (sv : Value) (S : StD) (ev gv : Value) (n : Nat) (w w' : World) : Prop := ∃ L', Sd w' base r sv S ev gv L' ∧ L'.length = n ∧ Fr (r :: (ob ev ++ ob gv)) w w'
def chB (n : Nat) : Fact := .st (fun v w' => ∃ B, v = .pointer (some ⟨B, 0, none⟩) ∧ n ≤ B ∧ Ob w' B 39 [.int .i64 0, .slice none 0 0, .int .i64 0, .int .i64 0, .int .i64 0, .int .i64 0]) (fun v w w' ⟨B, h1, h2, h3⟩ hx => ⟨B, h1, h2, h3.ext hx⟩)
set_option maxHeartbeats 8000000 in
set_option maxRecDepth 100000 in
theorem docTake2_c (base r : Nat) (sv : Value) (S : StD) (ev gv : Value) (L : List Lv) (i f t : Int) (l : List Vl) (v : Value) (w : World) (h : Sd w base r sv S ev gv L) (hn : L.length ≤ 100000) (hv : Rw w [] v l) (h0 : chkD S ((2, i, f, t), l) = 0) (hbs : base ≤ w.heap.size) (j : Nat) (e : Ev) (hk : kn S.1 i 0 S.2 = some (j, e)) :
    Calls Tryz.prog 49 #[.pointer (some ⟨r, 1, none⟩), mg 2 i f t v] w fun ee w' => ∃ vc, ee = .returned (.tuple #[chV vc (j + 1, e.1.2, e.2.1, cut e.2.1 t), .int .i64 0]) ∧ RwO w' vc e.1.2 ∧ TkPost base r sv (S.1, S.2.set j (if t = e.2.1.1 then (e.1, e.2.1, true) else (e.1, (e.2.1.1, t), false))) ev gv L.length w w' := by
  have hcd := hide (fun w' (hX : Ext w w') => docCheck_c base r sv S ev gv L 2 i f t l v w' (h.ext hX) (by omega) (Sl.ext hv hX))
  have hfd := hide (fun w' (hX : Ext w w') => refFind_c base r sv S ev gv L i w' (h.ext hX) (by omega))
  have hfe : fndI S.1 i 0 S.2 = (j : Int) := by unfold fndI; rw [hk]
  rw [hfe] at hfd
  obtain ⟨-, hkj, hlv⟩ := kn_some hk
  rw [Nat.sub_zero] at hkj
  obtain ⟨p, hp, hpe⟩ : ∃ p, L[j]? = some p ∧ p.2 = e := by
    rw [← h.evs, List.getElem?_map] at hkj
    cases hq : L[j]? with
    | none => rw [hq] at hkj; cases hkj
    | some p => rw [hq] at hkj; exact ⟨p, rfl, by simpa using hkj⟩
  have hjl : j < L.length := (List.getElem?_eq_some_iff.1 hp).1
  obtain ⟨VA, vc, rfl⟩ := rw_val hv
  rw [h0] at hcd
  obtain ⟨ll, hll⟩ : ∃ ll, ll = l.length := ⟨_, rfl⟩
  rw [← hll] at hcd
  rw [← hll]
  replace hll := hide hll
  have hlt := h.ob.lt
  have hrow := hide (h.own.2 p (List.mem_of_getElem? hp))
  obtain ⟨g, cap, gg, cap2, PA, pc, e1, e2, hgl, hgl2, e3, q0, q1, q2, q3, q4⟩ := h.at hp
  subst e1; subst e2
  obtain ⟨pv, ⟨pi, pr⟩, ⟨p1, p2⟩, pg⟩ := p
  simp only at hpe q0 q1 q2 q3 q4 e3 hrow
  subst e3
  subst hpe
  have hpg : pg = false := (live_iff.1 hlv).2.1
  subst hpg
  simp only
  obtain ⟨pl, hpl⟩ : ∃ pl, pl = pr.length := ⟨_, rfl⟩
  rw [← hpl] at q1 hrow hp
  obtain ⟨S', hS'⟩ : ∃ S' : StD, S' = (S.1, S.2.set j (if t = p1 then ((pi, pr), (p1, p2), true) else ((pi, pr), (p1, t), false))) := ⟨_, rfl⟩
  obtain ⟨CU, hCU⟩ : ∃ c, c = cut (p1, p2) t := ⟨_, rfl⟩
  rw [← hS', ← hCU]
  obtain ⟨ca, cb⟩ := CU
  replace hS' := hide hS'
  replace hCU := hide hCU
  replace hpl := hide hpl
  have hOm0 := hide (show Ob ((w.alloc (.cells #[.int .i64 2, .int .i64 i, .int .i64 f, .int .i64 t, .slice VA ll vc] 44)).alloc (.cells #[.int .i64 0, .slice none 0 0, .int .i64 0, .int .i64 0, .int .i64 0, .int .i64 0] 39)) w.heap.size 44 [.int .i64 2, .int .i64 i, .int .i64 f, .int .i64 t, .slice VA ll vc] from (Ob.new w 44 [.int .i64 2, .int .i64 i, .int .i64 f, .int .i64 t, .slice VA ll vc]).alloc _)
  have hOr0 := hide (show Ob ((w.alloc (.cells #[.int .i64 2, .int .i64 i, .int .i64 f, .int .i64 t, .slice VA ll vc] 44)).alloc (.cells #[.int .i64 0, .slice none 0 0, .int .i64 0, .int .i64 0, .int .i64 0, .int .i64 0] 39)) (w.heap.size + 1) 39 [.int .i64 0, .slice none 0 0, .int .i64 0, .int .i64 0, .int .i64 0, .int .i64 0] by
    have := Ob.new (w.alloc (.cells #[.int .i64 2, .int .i64 i, .int .i64 f, .int .i64 t, .slice VA ll vc] 44)) 39 [.int .i64 0, .slice none 0 0, .int .i64 0, .int .i64 0, .int .i64 0, .int .i64 0]
    rw [World.size_alloc] at this
    exact this)
  have hh := hide h
  have hhp := hide hp
  have hj1 := hide (show RowKit.wrap64 ((j : Int) + 1) = (j : Int) + 1 by unfold RowKit.wrap64; omega)
  replace q0 := hide q0
  replace q1 := hide q1
  replace q2 := hide q2
  replace q3 := hide q3
  replace q4 := hide q4
  clear h hv h0 hk hkj hlv hp hfe
  go_enter Tryz.func49, Tryz.ntmps49
  go_wp2_with (first | (go_at_call 48; first | ((with_reducible refine seq_gw' (hcd.out _ Gn.ext) ?_); intro g1) | ((with_reducible refine seq_gw (hcd.out _ Gn.ext) ?_); intro g1)) | (go_at_call 22; first | ((with_reducible refine seq_gw' (hfd.out _ Gn.ext) ?_); intro g2) | ((with_reducible refine seq_gw (hfd.out _ Gn.ext) ?_); intro g2)))
  have hXg := hide (Gn.ext (w := w) : Ext w g2.val)
  have k1 := hide (cell_later hXg.out (hh.out.ob.cell 2 rfl))
  have k5 := hide (cell_later hXg.out q1.out)
  have k6 := hide (cell_later hXg.out q2.out)
  have k7 := hide (cell_later hXg.out q3.out)
  have hOm := hOm0.out.ext g2.grown
  have hOr := hide (hOr0.out.ext g2.grown)
  have m3 := hide (hOm.cell 3 rfl)
  have hbig : w.heap.size + 2 ≤ g2.val.heap.size := by have := g2.size; simp only [World.size_alloc] at this; omega
  clear hOm0 hOr0 hcd hfd hOm
  refine wp_region_list_tail 20 [(.is (.int .i64 j)), (.is (.int .i64 ((j : Int) + 1))), (.is (.pointer (some ⟨r, 1, none⟩))), (.is (.pointer (some ⟨r, 1, none⟩))), (.is (.pointer (some ⟨r, 2, none⟩))), (.is (.slice (some ⟨g, 0, none⟩) L.length cap)), (.is (.int .i64 j)), (.is (.pointer (some ⟨g, j * 4, none⟩))), (.is (.pointer (some ⟨g, j * 4 + 1, none⟩))), (.is (.slice PA pl pc)), (.is (.pointer (some ⟨r, 1, none⟩))), (.is (.pointer (some ⟨r, 1, none⟩))), (.is (.pointer (some ⟨r, 2, none⟩))), (.is (.slice (some ⟨g, 0, none⟩) L.length cap)), (.is (.int .i64 j)), (.is (.pointer (some ⟨g, j * 4, none⟩))), (.is (.pointer (some ⟨g, j * 4 + 2, none⟩))), (.is (.agg #[.int .i64 p1, .int .i64 p2])), (.is (.agg #[.int .i64 (j + 1), .slice PA pl pc, .int .i64 p1, .int .i64 p2, .int .i64 0, .int .i64 0])), chB g2.val.heap.size] (by kernel_rfl) (by kernel_rfl) (by kernel_rfl) (by kernel_rfl) (by kernel_rfl) (by kernel_rfl) (by kernel_rfl) ?_ ?_
  · refine ⟨?_, ?_, ?_, ?_, ?_, ?_, ?_, ?_, ?_, ?_, ?_, ?_, ?_, ?_, ?_, ?_, ?_, ?_, ?_, ?_, trivial⟩
    · intro b w' h hE
      have f8 : b.tmps.getD 8 undef = .int .i64 j := hE 8 (of_decide_eq_true (by kernel_rfl))
      exact good_move (wanted_none rfl) rfl f8
    · intro b w' h hE
      have f74 : b.tmps.getD 74 undef = .int .i64 j := h.dep 0 _ 74 (by kernel_rfl) rfl rfl
      exact good_bin (wanted_none rfl) rfl f74 rfl (by rfl) (by simp [go_sem, IntWalk.i64_left, hj1.out]) rfl
    · intro b w' h hE
      have f0 : b.tmps.getD 0 undef = .pointer (some ⟨r, 1, none⟩) := hE 0 (of_decide_eq_true (by kernel_rfl))
      exact good_move (wanted_none rfl) rfl f0
    · intro b w' h hE
      have f76 : b.tmps.getD 76 undef = .pointer (some ⟨r, 1, none⟩) := h.dep 2 _ 76 (by kernel_rfl) rfl rfl
      exact good_nilCheck (wanted_none rfl) rfl f76 rfl
    · intro b w' h hE
      have f77 : b.tmps.getD 77 undef = .pointer (some ⟨r, 1, none⟩) := h.dep 3 _ 77 (by kernel_rfl) rfl rfl
      exact good_field (wanted_none rfl) rfl f77 (by simp [go_sem]) rfl
    · intro b w' h hE
      have f78 : b.tmps.getD 78 undef = .pointer (some ⟨r, 2, none⟩) := h.dep 4 _ 78 (by kernel_rfl) rfl rfl
      have c0 := cell_later h.ext k1.out
      exact good_load (wanted_none rfl) rfl f78 (by simp [go_sem, c0]) rfl
    · intro b w' h hE
      have f8 : b.tmps.getD 8 undef = .int .i64 j := hE 8 (of_decide_eq_true (by kernel_rfl))
      exact good_move (wanted_none rfl) rfl f8
    · intro b w' h hE
      have f79 : b.tmps.getD 79 undef = .slice (some ⟨g, 0, none⟩) L.length cap := h.dep 5 _ 79 (by kernel_rfl) rfl rfl
      have f80 : b.tmps.getD 80 undef = .int .i64 j := h.dep 6 _ 80 (by kernel_rfl) rfl rfl
      exact good_index (wanted_none rfl) rfl f79 f80 (by simp [go_sem, hjl]) rfl
    · intro b w' h hE
      have f81 : b.tmps.getD 81 undef = .pointer (some ⟨g, j * 4, none⟩) := h.dep 7 _ 81 (by kernel_rfl) rfl rfl
      exact good_field (wanted_none rfl) rfl f81 (by simp [go_sem]) rfl
    · intro b w' h hE
      have f82 : b.tmps.getD 82 undef = .pointer (some ⟨g, j * 4 + 1, none⟩) := h.dep 8 _ 82 (by kernel_rfl) rfl rfl
      have c0 := cell_later h.ext k5.out
      exact good_load (wanted_none rfl) rfl f82 (by simp [go_sem, c0]) rfl
    · intro b w' h hE
      have f0 : b.tmps.getD 0 undef = .pointer (some ⟨r, 1, none⟩) := hE 0 (of_decide_eq_true (by kernel_rfl))
      exact good_move (wanted_none rfl) rfl f0
    · intro b w' h hE
      have f84 : b.tmps.getD 84 undef = .pointer (some ⟨r, 1, none⟩) := h.dep 10 _ 84 (by kernel_rfl) rfl rfl
      exact good_nilCheck (wanted_none rfl) rfl f84 rfl
    · intro b w' h hE
      have f85 : b.tmps.getD 85 undef = .pointer (some ⟨r, 1, none⟩) := h.dep 11 _ 85 (by kernel_rfl) rfl rfl
      exact good_field (wanted_none rfl) rfl f85 (by simp [go_sem]) rfl
    · intro b w' h hE
      have f86 : b.tmps.getD 86 undef = .pointer (some ⟨r, 2, none⟩) := h.dep 12 _ 86 (by kernel_rfl) rfl rfl
      have c0 := cell_later h.ext k1.out
      exact good_load (wanted_none rfl) rfl f86 (by simp [go_sem, c0]) rfl
    · intro b w' h hE
      have f8 : b.tmps.getD 8 undef = .int .i64 j := hE 8 (of_decide_eq_true (by kernel_rfl))
      exact good_move (wanted_none rfl) rfl f8
    · intro b w' h hE
      have f87 : b.tmps.getD 87 undef = .slice (some ⟨g, 0, none⟩) L.length cap := h.dep 13 _ 87 (by kernel_rfl) rfl rfl
      have f88 : b.tmps.getD 88 undef = .int .i64 j := h.dep 14 _ 88 (by kernel_rfl) rfl rfl
      exact good_index (wanted_none rfl) rfl f87 f88 (by simp [go_sem, hjl]) rfl
    · intro b w' h hE
      have f89 : b.tmps.getD 89 undef = .pointer (some ⟨g, j * 4, none⟩) := h.dep 15 _ 89 (by kernel_rfl) rfl rfl
      exact good_field (wanted_none rfl) rfl f89 (by simp [go_sem]) rfl
    · intro b w' h hE
      have f90 : b.tmps.getD 90 undef = .pointer (some ⟨g, j * 4 + 2, none⟩) := h.dep 16 _ 90 (by kernel_rfl) rfl rfl
      have c0 := cell_later h.ext k6.out
      have c1 := cell_later h.ext k7.out
      exact good_load (wanted_none rfl) rfl f90 (by simp [go_sem, c0, c1]) rfl
    · intro b w' h hE
      have f75 : b.tmps.getD 75 undef = .int .i64 ((j : Int) + 1) := h.dep 1 _ 75 (by kernel_rfl) rfl rfl
      have g75 : b.tmps[75]?.getD undef = .int .i64 ((j : Int) + 1) := by rw [← Array.getD_eq_getD_getElem?]; exact f75
      have f83 : b.tmps.getD 83 undef = .slice PA pl pc := h.dep 9 _ 83 (by kernel_rfl) rfl rfl
      have g83 : b.tmps[83]?.getD undef = .slice PA pl pc := by rw [← Array.getD_eq_getD_getElem?]; exact f83
      have f91 : b.tmps.getD 91 undef = .agg #[.int .i64 p1, .int .i64 p2] := h.dep 17 _ 91 (by kernel_rfl) rfl rfl
      have g91 : b.tmps[91]?.getD undef = .agg #[.int .i64 p1, .int .i64 p2] := by rw [← Array.getD_eq_getD_getElem?]; exact f91
      exact good_run (wanted_none rfl) (by simp [execOp, Act.eval, go_sem, g75, g83, g91, Sem.run_bind, Sem.run_pure, Result.andThen_ok]) rfl
    · intro b w' h hE
      have hz0 := h.ext.size
      refine good_grow (w' := w'.alloc (.cells #[.int .i64 0, .slice none 0 0, .int .i64 0, .int .i64 0, .int .i64 0, .int .i64 0] 39)) (v := .pointer (some ⟨w'.heap.size, 0, none⟩)) (wanted_none rfl) ?_ ⟨_, rfl, hz0, Ob.new w' _ _⟩ ((Ext.refl _).alloc _)
      simp [execOp, go_sem, Sem.run_bind, Sem.run_pure, Result.andThen_ok]
  · intro b w2 hX2 hd hz he' hf
    have e74 : b.tmps.getD 74 undef = .int .i64 j := hf 0 _ 74 (by omega) rfl rfl
    have e75 : b.tmps.getD 75 undef = .int .i64 ((j : Int) + 1) := hf 1 _ 75 (by omega) rfl rfl
    have e76 : b.tmps.getD 76 undef = .pointer (some ⟨r, 1, none⟩) := hf 2 _ 76 (by omega) rfl rfl
    have e77 : b.tmps.getD 77 undef = .pointer (some ⟨r, 1, none⟩) := hf 3 _ 77 (by omega) rfl rfl
    have e78 : b.tmps.getD 78 undef = .pointer (some ⟨r, 2, none⟩) := hf 4 _ 78 (by omega) rfl rfl
    have e79 : b.tmps.getD 79 undef = .slice (some ⟨g, 0, none⟩) L.length cap := hf 5 _ 79 (by omega) rfl rfl
    have e80 : b.tmps.getD 80 undef = .int .i64 j := hf 6 _ 80 (by omega) rfl rfl
    have e81 : b.tmps.getD 81 undef = .pointer (some ⟨g, j * 4, none⟩) := hf 7 _ 81 (by omega) rfl rfl
    have e82 : b.tmps.getD 82 undef = .pointer (some ⟨g, j * 4 + 1, none⟩) := hf 8 _ 82 (by omega) rfl rfl
    have e83 : b.tmps.getD 83 undef = .slice PA pl pc := hf 9 _ 83 (by omega) rfl rfl
    have e84 : b.tmps.getD 84 undef = .pointer (some ⟨r, 1, none⟩) := hf 10 _ 84 (by omega) rfl rfl
    have e85 : b.tmps.getD 85 undef = .pointer (some ⟨r, 1, none⟩) := hf 11 _ 85 (by omega) rfl rfl
    have e86 : b.tmps.getD 86 undef = .pointer (some ⟨r, 2, none⟩) := hf 12 _ 86 (by omega) rfl rfl
    have e87 : b.tmps.getD 87 undef = .slice (some ⟨g, 0, none⟩) L.length cap := hf 13 _ 87 (by omega) rfl rfl
    have e88 : b.tmps.getD 88 undef = .int .i64 j := hf 14 _ 88 (by omega) rfl rfl
    have e89 : b.tmps.getD 89 undef = .pointer (some ⟨g, j * 4, none⟩) := hf 15 _ 89 (by omega) rfl rfl
    have e90 : b.tmps.getD 90 undef = .pointer (some ⟨g, j * 4 + 2, none⟩) := hf 16 _ 90 (by omega) rfl rfl
    have e91 : b.tmps.getD 91 undef = .agg #[.int .i64 p1, .int .i64 p2] := hf 17 _ 91 (by omega) rfl rfl
    have e92 : b.tmps.getD 92 undef = .agg #[.int .i64 (j + 1), .slice PA pl pc, .int .i64 p1, .int .i64 p2, .int .i64 0, .int .i64 0] := hf 18 _ 92 (by omega) rfl rfl
    have f9 : ∃ B, (b.tmps.getD 9 undef) = .pointer (some ⟨B, 0, none⟩) ∧ g2.val.heap.size ≤ B ∧ Ob w2 B 39 [.int .i64 0, .slice none 0 0, .int .i64 0, .int .i64 0, .int .i64 0, .int .i64 0] := hf 19 _ 9 (by omega) rfl rfl
    have e := frame_puts hd hz he'
    obtain ⟨X, hXx⟩ : ∃ X : Nat → Value, ∀ d, b.tmps.getD d undef = X d := ⟨_, fun _ => rfl⟩
    rw [hXx] at e74 e75 e76 e77 e78 e79 e80 e81 e82 e83 e84 e85 e86 e87 e88 e89 e90 e91 e92 f9
    obtain ⟨B9, q9, hB9, oB9⟩ := f9
    rw [show dstsOf _ = [74, 75, 76, 77, 78, 79, 80, 81, 82, 83, 84, 85, 86, 87, 88, 89, 90, 91, 92, 9] from rfl] at e
    simp only [List.foldl_cons, List.foldl_nil, hXx, Act.put, List.setIfInBounds_toArray, List.set_cons_succ, List.set_cons_zero] at e
    rw [e74, e75, e76, e77, e78, e79, e80, e81, e82, e83, e84, e85, e86, e87, e88, e89, e90, e91, e92, q9] at e
    clear hf he' hz hd hXx e74 e75 e76 e77 e78 e79 e80 e81 e82 e83 e84 e85 e86 e87 e88 e89 e90 e91 e92 q9
    subst e
    have hzw := hX2.size
    simp only [List.drop_succ_cons, List.drop_zero]
    have z0 := oB9.cell 0 rfl
    have z1 := oB9.cell 1 rfl
    have z2 := oB9.cell 2 rfl
    have z3 := oB9.cell 3 rfl
    have z4 := oB9.cell 4 rfl
    have z5 := oB9.cell 5 rfl
    have y0 := oB9.free 0
    have y1 := oB9.free 1
    have y2 := oB9.free 2
    have y3 := oB9.free 3
    have y4 := oB9.free 4
    have y5 := oB9.free 5
    have hlt9 := oB9.lt
    haveI : In B9 w2 := ⟨hlt9⟩
    have hX3 : Ext g2.val ((((((w2.setCell ⟨B9, 0, none⟩ (.int .i64 ((j : Int) + 1))).setCell ⟨B9, 1, none⟩ (.slice PA pl pc)).setCell ⟨B9, 2, none⟩ (.int .i64 p1)).setCell ⟨B9, 3, none⟩ (.int .i64 p2)).setCell ⟨B9, 4, none⟩ (.int .i64 0)).setCell ⟨B9, 5, none⟩ (.int .i64 0)) := (((((hX2.setCell (p := ⟨B9, 0, none⟩) hB9 _).setCell (p := ⟨B9, 1, none⟩) hB9 _).setCell (p := ⟨B9, 2, none⟩) hB9 _).setCell (p := ⟨B9, 3, none⟩) hB9 _).setCell (p := ⟨B9, 4, none⟩) hB9 _).setCell (p := ⟨B9, 5, none⟩) hB9 _
    have hO3 : Ob ((((((w2.setCell ⟨B9, 0, none⟩ (.int .i64 ((j : Int) + 1))).setCell ⟨B9, 1, none⟩ (.slice PA pl pc)).setCell ⟨B9, 2, none⟩ (.int .i64 p1)).setCell ⟨B9, 3, none⟩ (.int .i64 p2)).setCell ⟨B9, 4, none⟩ (.int .i64 0)).setCell ⟨B9, 5, none⟩ (.int .i64 0)) B9 39 [.int .i64 ((j : Int) + 1), .slice PA pl pc, .int .i64 p1, .int .i64 p2, .int .i64 0, .int .i64 0] := (((((oB9.set 0 (.int .i64 ((j : Int) + 1))).set 1 (.slice PA pl pc)).set 2 (.int .i64 p1)).set 3 (.int .i64 p2)).set 4 (.int .i64 0)).set 5 (.int .i64 0)
    replace oB9 := hide oB9
    go_upto_region 14 with (fail)
    generalize hw3 : ((((((w2.setCell ⟨B9, 0, none⟩ (.int .i64 ((j : Int) + 1))).setCell ⟨B9, 1, none⟩ (.slice PA pl pc)).setCell ⟨B9, 2, none⟩ (.int .i64 p1)).setCell ⟨B9, 3, none⟩ (.int .i64 p2)).setCell ⟨B9, 4, none⟩ (.int .i64 0)).setCell ⟨B9, 5, none⟩ (.int .i64 0)) = w3 at *
    clear hw3 z0 z1 z2 z3 z4 z5 y0 y1 y2 y3 y4 y5 oB9 hlt9 hzw
    have hSd3 := hh.out.ext (hXg.out.trans hX3)
    have hrow3 := hrow.out.ext (hXg.out.trans hX3)
    have hOr3 := hOr.out.ext hX3
    have z2 := hO3.cell 2 rfl
    have mm3 := cell_later hX3 m3.out
    have hgw : g < w.heap.size := block_lt_of_cell q1.out
    have hggw : gg < w.heap.size := block_lt_of_cell q4.out
    have hzz := hX3.size
    have hB9l := hO3.lt
    haveI : In r w3 := ⟨by omega⟩
    haveI : In w.heap.size w3 := ⟨by omega⟩
    haveI : In g w3 := ⟨by omega⟩
    haveI : In gg w3 := ⟨by omega⟩
    haveI : In B9 w3 := ⟨hB9l⟩
    have hev := hide hh.out.evs
    have hrb := hh.out.rb
    have rr2 := hSd3.ob.cell 3 rfl
    have rr1 := hSd3.ob.cell 2 rfl
    have gg4 := cell_later (hXg.out.trans hX3) q4.out
    have ggf : w3.frozen? ⟨gg, j, none⟩ = false := hSd3.gone.frozenAt j
    replace hX3 := hide hX3
    replace hO3 := hide hO3
    replace hSd3 := hide hSd3
    replace hrow3 := hide hrow3
    replace hOr3 := hide hOr3
    by_cases ht : t = p1
    · have d1 : (t == p1) = true := by rw [ht]; exact beq_self_eq_true _
      replace ht := hide ht
      go_upto_region 18 with (fail)
      have hO4 : Ob (w3.setCell ⟨gg, j, none⟩ (.bool true)) B9 39 [.int .i64 ((j : Int) + 1), .slice PA pl pc, .int .i64 p1, .int .i64 p2, .int .i64 0, .int .i64 0] := hO3.out.far _ _ (by simp; omega)
      have hOr4 := hOr3.out.far ⟨gg, j, none⟩ (.bool true) (by simp; omega)
      have hF4 := (Fr.refl [gg] w3).setCell ⟨gg, j, none⟩ (.bool true) (.inl (by simp))
      have hG4 := (hSd3.out.gone.stored j (.bool true)).1
      have hgr : gg ≠ r := fun e => hSd3.out.ob.not_own hSd3.out.gone (by decide) (by rw [← e]; rfl)
      have hnt3 : ∀ {e : TypeId}, 4 ≠ e → ∀ b ∈ [gg], NT w3 e b := fun he b hb => by rw [List.mem_singleton.1 hb]; exact own_nt hSd3.out.gone he gg (by simp [ob, Value.ownBlock])
      have hob4 := hSd3.out.ob.fr hF4 (by simp; exact fun e => hgr e.symm)
      have hown3 := hSd3.out.own.stay hF4 (fun b hb => ⟨hnt3 (by decide) b hb, hnt3 (by decide) b hb⟩)
      have hrow4 := hrow3.out.stay hF4 (hnt3 (by decide))
      generalize hw4 : w3.setCell ⟨gg, j, none⟩ (.bool true) = w4 at *
      clear hw4 hnt3
      have hown4 : OwnEv w4 base (.slice (some ⟨g, 0, none⟩) L.length cap) (L.set j (.slice PA pl pc, ((pi, pr), (p1, p2), true))) := by
        refine ⟨?_, fun p hp => ?_⟩
        · rw [List.length_set, evd_gone hhp.out]; exact hown3.1
        · rcases List.mem_or_eq_of_mem_set hp with hp | rfl
          · exact hown3.2 p hp
          · exact hrow4
      have hgone4 : w4.ownsRow base 4 1 (.slice (some ⟨gg, 0, none⟩) L.length cap2) (L.set j (.slice PA pl pc, ((pi, pr), (p1, p2), true))).length (gnO (L.set j (.slice PA pl pc, ((pi, pr), (p1, p2), true)))) := by
        rw [List.length_set]
        unfold gnO at hG4 ⊢
        rw [List.map_set]
        exact hG4
      have key : Hid (∀ W', Fr [w.heap.size + 1] w4 W' → RwO W' (.slice PA pl pc) pr ∧ TkPost base r sv S' (.slice (some ⟨g, 0, none⟩) L.length cap) (.slice (some ⟨gg, 0, none⟩) L.length cap2) L.length w W') := by
        intro W' hQ
        have hnt : ∀ {e : TypeId}, 39 ≠ e → ∀ b ∈ [w.heap.size + 1], NT w4 e b := fun he b hb => by rw [List.mem_singleton.1 hb]; exact hOr4.nt he
        rw [hS'.out, if_pos ht.out]
        refine ⟨hrow4.stay hQ (hnt (by decide)), L.set j (.slice PA pl pc, ((pi, pr), (p1, p2), true)), ?_, List.length_set, ?_⟩
        · exact Sd.stay ⟨hob4, hown4, hgone4, by rw [List.map_set, hev.out], hrb⟩ hQ (fun b hb => ⟨hnt (by decide) b hb, hnt (by decide) b hb, hnt (by decide) b hb, hnt (by decide) b hb⟩)
        · exact ((Fr.of_ext (hXg.out.trans hX3.out)).trans (hF4.more (fun k _ hk => by rw [List.mem_singleton.1 hk]; simp [ob, Value.ownBlock]))).then hQ (fun b hb => .inr (by rw [List.mem_singleton.1 hb]; omega))
      replace hob4 := hide hob4
      replace hown3 := hide hown3
      replace hown4 := hide hown4
      replace hgone4 := hide hgone4
      replace hrow4 := hide hrow4
      have hcl := hide (hCU.out.trans (show cut (p1, p2) t = (0, 0) from if_pos ht.out))
      have w0 := hO4.cell 0 rfl
      have w1 := hO4.cell 1 rfl
      have w2' := hO4.cell 2 rfl
      have w3' := hO4.cell 3 rfl
      have w4' := hO4.cell 4 rfl
      have w5' := hO4.cell 5 rfl
      have v0 := hOr4.cell 0 rfl
      have v1 := hOr4.cell 1 rfl
      have v2 := hOr4.cell 2 rfl
      have v3 := hOr4.cell 3 rfl
      have v4 := hOr4.cell 4 rfl
      have v5 := hOr4.cell 5 rfl
      have vf0 := hOr4.free 0
      have vf1 := hOr4.free 1
      have vf2 := hOr4.free 2
      have vf3 := hOr4.free 3
      have vf4 := hOr4.free 4
      have vf5 := hOr4.free 5
      have B9l := hO4.lt
      have Orl := hOr4.lt
      haveI : In B9 w4 := ⟨B9l⟩
      haveI : In (w.heap.size + 1) w4 := ⟨Orl⟩
      replace hO4 := hide hO4
      replace hOr4 := hide hOr4
      clear mm3 rr1 rr2 gg4 ggf z2
      go_wp2_with fail
      first | go_returns | refine bodyPost_ret (by simp [results, Tryz.results49, go_sem, v0, v1, v2, v3, v4, v5]; try rfl) rfl ?_
      refine ⟨.slice PA pl pc, ?_, key.out _ ?_⟩
      · obtain ⟨e1, e2⟩ := Prod.mk.inj hcl.out
        subst e1
        subst e2
        first | rfl | (simp; done)
      · repeat refine Fr.setCell ?_ _ _ (.inl (by simp))
        exact Fr.refl _ _
    · have d1 : (t == p1) = false := by rw [beq_eq_false_iff_ne]; exact ht
      have zf4 := hO3.out.free 4
      have zf5 := hO3.out.free 5
      have z4 := hO3.out.cell 4 rfl
      have z5 := hO3.out.cell 5 rfl
      go_upto_region 17 with (fail)
      have hO5 : Ob ((w3.setCell ⟨B9, 4, none⟩ (.int .i64 p1)).setCell ⟨B9, 5, none⟩ (.int .i64 t)) B9 39 [.int .i64 ((j : Int) + 1), .slice PA pl pc, .int .i64 p1, .int .i64 p2, .int .i64 p1, .int .i64 t] := (hO3.out.set 4 (.int .i64 p1)).set 5 (.int .i64 t)
      have hX5 : Ext g2.val ((w3.setCell ⟨B9, 4, none⟩ (.int .i64 p1)).setCell ⟨B9, 5, none⟩ (.int .i64 t)) := (hX3.out.setCell (p := ⟨B9, 4, none⟩) hB9 _).setCell (p := ⟨B9, 5, none⟩) hB9 _
      generalize hw5 : (w3.setCell ⟨B9, 4, none⟩ (.int .i64 p1)).setCell ⟨B9, 5, none⟩ (.int .i64 t) = w5 at *
      clear hw5 mm3 rr1 rr2 gg4 ggf z2 zf4 zf5 z4 z5 hSd3 hrow3 hOr3 hO3
      have hSd5 := hh.out.ext (hXg.out.trans hX5)
      have rr1 := hSd5.ob.cell 2 rfl
      have z4 := hO5.cell 4 rfl
      have z5 := hO5.cell 5 rfl
      have rrl := hSd5.ob.lt
      have B9l0 := hO5.lt
      haveI : In r w5 := ⟨rrl⟩
      haveI : In B9 w5 := ⟨B9l0⟩
      replace hO5 := hide hO5
      replace hSd5 := hide hSd5
      replace hX5 := hide hX5
      refine wp_region_gw_tail 9 (by kernel_rfl) (by kernel_rfl) ?_
      simp only [List.take_succ_cons, List.take_zero, List.drop_succ_cons, List.drop_zero]
      repeat (go_big_quiet_step (fail))
      refine wpQuiet_nil ?_
      intro g3
      have hX6 := hide (hX5.out.trans g3.grown)
      have hSd6 := hh.out.ext (hXg.out.trans hX6.out)
      have c2 := cell_later (hXg.out.trans hX6.out) q2.out
      have c3 := cell_later (hXg.out.trans hX6.out) q3.out
      have gf2 : g3.val.frozen? ⟨g, j * 4 + 2, none⟩ = false := hSd6.own.1.frozenAt (j * 4 + 2)
      have gf3 : g3.val.frozen? ⟨g, j * 4 + 3, none⟩ = false := hSd6.own.1.frozenAt (j * 4 + 3)
      have gl3 : g < g3.val.heap.size := block_lt_of_cell c2
      haveI : In g g3.val := ⟨gl3⟩
      have hO6 := hO5.out.ext g3.grown
      have hrow6 := hrow.out.ext (hXg.out.trans hX6.out)
      have hOr6 := hOr.out.ext hX6.out
      replace hSd6 := hide hSd6
      replace hO6 := hide hO6
      replace hrow6 := hide hrow6
      replace hOr6 := hide hOr6
      go_upto_region 18 with (fail)
      have hF4 := ((Fr.refl [g] g3.val).setCell ⟨g, j * 4 + 2, none⟩ (.int .i64 p1) (.inl (by simp))).setCell ⟨g, j * 4 + 2 + 1, none⟩ (.int .i64 t) (.inl (by simp))
      have hE4 := ((hSd6.out.own.1.stored (j * 4 + 2) (.int .i64 p1)).1.stored (j * 4 + 2 + 1) (.int .i64 t)).1
      have hgr : g ≠ r := fun e => hSd6.out.ob.not_own hSd6.out.own.1 (by decide) (by rw [← e]; rfl)
      have hnt3 : ∀ {e : TypeId}, 59 ≠ e → ∀ b ∈ [g], NT g3.val e b := fun he b hb => by rw [List.mem_singleton.1 hb]; exact own_nt hSd6.out.own.1 he g (by simp [ob, Value.ownBlock])
      have hob4 := hSd6.out.ob.fr hF4 (by simp; exact fun e => hgr e.symm)
      have hgn4 := own_stay hSd6.out.gone hF4 (hnt3 (by decide))
      have hrow4 := hrow6.out.stay hF4 (hnt3 (by decide))
      have hrws := fun (p : Lv) (hp : p ∈ L) => (hSd6.out.own.2 p hp).stay hF4 (hnt3 (by decide))
      have hO4 := hO6.out.fr hF4 (by simp; omega)
      have hOr4 := hOr6.out.fr hF4 (by simp; omega)
      generalize hw4 : (g3.val.setCell ⟨g, j * 4 + 2, none⟩ (.int .i64 p1)).setCell ⟨g, j * 4 + 2 + 1, none⟩ (.int .i64 t) = w4 at *
      clear hw4 hnt3 c2 c3 gf2 gf3
      have hown4 : OwnEv w4 base (.slice (some ⟨g, 0, none⟩) L.length cap) (L.set j (.slice PA pl pc, ((pi, pr), (p1, t), false))) := by
        refine ⟨?_, fun p hp => ?_⟩
        · rw [List.length_set, evd_set hhp.out]; exact hE4
        · rcases List.mem_or_eq_of_mem_set hp with hp | rfl
          · exact hrws p hp
          · exact hrow4
      have hgone4 : w4.ownsRow base 4 1 (.slice (some ⟨gg, 0, none⟩) L.length cap2) (L.set j (.slice PA pl pc, ((pi, pr), (p1, t), false))).length (gnO (L.set j (.slice PA pl pc, ((pi, pr), (p1, t), false)))) := by
        rw [List.length_set]
        have e : gnO (L.set j (.slice PA pl pc, ((pi, pr), (p1, t), false))) = gnO L := by
          unfold gnO
          rw [List.map_set]
          exact set_same (by rw [List.getElem?_map, hhp.out]; rfl)
        rw [e]
        exact hgn4
      replace hX3 := hX6
      have key : Hid (∀ W', Fr [w.heap.size + 1] w4 W' → RwO W' (.slice PA pl pc) pr ∧ TkPost base r sv S' (.slice (some ⟨g, 0, none⟩) L.length cap) (.slice (some ⟨gg, 0, none⟩) L.length cap2) L.length w W') := by
        intro W' hQ
        have hnt : ∀ {e : TypeId}, 39 ≠ e → ∀ b ∈ [w.heap.size + 1], NT w4 e b := fun he b hb => by rw [List.mem_singleton.1 hb]; exact hOr4.nt he
        rw [hS'.out, if_neg ht]
        refine ⟨hrow4.stay hQ (hnt (by decide)), L.set j (.slice PA pl pc, ((pi, pr), (p1, t), false)), ?_, List.length_set, ?_⟩
        · exact Sd.stay ⟨hob4, hown4, hgone4, by rw [List.map_set, hev.out], hrb⟩ hQ (fun b hb => ⟨hnt (by decide) b hb, hnt (by decide) b hb, hnt (by decide) b hb, hnt (by decide) b hb⟩)
        · exact ((Fr.of_ext (hXg.out.trans hX3.out)).trans (hF4.more (fun k _ hk => by rw [List.mem_singleton.1 hk]; simp [ob, Value.ownBlock]))).then hQ (fun b hb => .inr (by rw [List.mem_singleton.1 hb]; omega))
      replace hob4 := hide hob4
      replace hown4 := hide hown4
      replace hgone4 := hide hgone4
      replace hrow4 := hide hrow4
      clear hrws
      have hcl := hide (hCU.out.trans (show cut (p1, p2) t = (p1, t) from if_neg ht))
      have w0 := hO4.cell 0 rfl
      have w1 := hO4.cell 1 rfl
      have w2' := hO4.cell 2 rfl
      have w3' := hO4.cell 3 rfl
      have w4' := hO4.cell 4 rfl
      have w5' := hO4.cell 5 rfl
      have v0 := hOr4.cell 0 rfl
      have v1 := hOr4.cell 1 rfl
      have v2 := hOr4.cell 2 rfl
      have v3 := hOr4.cell 3 rfl
      have v4 := hOr4.cell 4 rfl
      have v5 := hOr4.cell 5 rfl
      have vf0 := hOr4.free 0
      have vf1 := hOr4.free 1
      have vf2 := hOr4.free 2
      have vf3 := hOr4.free 3
      have vf4 := hOr4.free 4
      have vf5 := hOr4.free 5
      have B9l := hO4.lt
      have Orl := hOr4.lt
      haveI : In B9 w4 := ⟨B9l⟩
      haveI : In (w.heap.size + 1) w4 := ⟨Orl⟩
      replace hO4 := hide hO4
      replace hOr4 := hide hOr4
      clear rr1 z4 z5
      have htd := hide ht
      clear ht
      go_wp2_with fail
      first | go_returns | refine bodyPost_ret (by simp [results, Tryz.results49, go_sem, v0, v1, v2, v3, v4, v5]; try rfl) rfl ?_
      refine ⟨.slice PA pl pc, ?_, key.out _ ?_⟩
      · obtain ⟨e1, e2⟩ := Prod.mk.inj hcl.out
        subst e1
        subst e2
        first | rfl | (simp; done)
      · repeat refine Fr.setCell ?_ _ _ (.inl (by simp))
        exact Fr.refl _ _
    
end Go.Proofs.YtajelkkiijdegaaGreat
