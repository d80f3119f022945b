/-
  A helper of ours: no claim of its own. Layer 13 (fold): what a message does that is taken, by the code.
-/
import Derived.Test.YtajelkkiijdegaaGreatFolA
import Derived.Test.YtajelkkiijdegaaGreatSpanA
set_option linter.unusedVariables false
set_option linter.unusedSimpArgs false
namespace Go.Proofs.YtajelkkiijdegaaGreat
open Go.RowKit
attribute [local go_sem] GW.cell GW.frozen In.eq_true In.le_true In.ne In.ne' In.ne_add In.ne_add' In.lt_add Upto.le_true Upto.le_add Upto.lt_add
theorem kn_fr {w W : World} {mb n : Nat} {S : List Nat} {T : List Ke} (h : Kn w mb n T) (hF : Fr S w W) (hmb : mb ∉ S) : Kn W mb n T := by
  have hml := h.lt
  obtain ⟨es, ⟨es', c, g1, rst⟩, h2⟩ := h
  exact ⟨es, ⟨es', c, (hF.block mb hml hmb).trans g1, rst⟩, h2⟩
theorem top3 {w w0 : World} (hz : w0.heap.size = w.heap.size) (o1 o2 : Obj) (T : TypeId) (vs : List Value) : Ob (((w0.alloc o1).alloc o2).alloc (.cells vs.toArray T)) (w.heap.size + 1 + 1) T vs := by
  have := Ob.new ((w0.alloc o1).alloc o2) T vs
  rw [World.size_alloc, World.size_alloc, hz] at this
  exact this
theorem top2 {w w0 : World} (hz : w0.heap.size = w.heap.size) (o1 o3 : Obj) (T : TypeId) (vs : List Value) : Ob (((w0.alloc o1).alloc (.cells vs.toArray T)).alloc o3) (w.heap.size + 1) T vs := by
  have := Ob.new (w0.alloc o1) T vs
  rw [World.size_alloc, hz] at this
  exact this.alloc o3
abbrev zCl : List Value := [.int .i64 0, .slice none 0 0, .int .i64 0, .int .i64 0, .int .i64 0, .int .i64 0]
set_option maxHeartbeats 8000000 in
set_option maxRecDepth 100000 in
theorem acceptC_c (s mb n : Nat) (c ser : Int) (T : List Ke) (i f t : Int) (l : List Vl) (v : Value) (w : World) (h : Fs w s mb n c ser T) (hv : Rw w [] v l) (hms : s ≠ mb) : Calls Tryz.prog 151 #[.pointer (some ⟨s, 0, none⟩), mg 3 i f t v] w fun e w' => e = .returned zChV ∧ Fs w' s mb n f ser T ∧ Fr [s, mb] w w' := by
  have c0 := h.1.cell 0 rfl
  have f0 := h.1.free 0
  have hlt := h.1.lt
  haveI : In s w := ⟨hlt⟩
  obtain ⟨VA, vc, rfl⟩ := rw_val hv
  generalize l.length = vl at *
  have hh := hide h
  clear h hv
  go_enter Tryz.func151, Tryz.ntmps151
  go_wp2_with fail
  go_returns
  refine ⟨rfl, ⟨(((hh.out.1.set 0 (.int .i64 f)).alloc _).alloc _).alloc _, kn_fr (S := [s]) hh.out.2 (by repeat (first | exact Fr.refl _ _ | refine Fr.alloc ?_ _ | refine Fr.drew ?_ | refine Fr.drewN ?_ _ | refine Fr.setCell ?_ _ _ (by first | (left; simp; done) | (right; simp; done) | (right; simp; omega)))) (by simpa using Ne.symm hms)⟩, Fr.more (S := [s]) (by repeat (first | exact Fr.refl _ _ | refine Fr.alloc ?_ _ | refine Fr.drew ?_ | refine Fr.drewN ?_ _ | refine Fr.setCell ?_ _ _ (by first | (left; simp; done) | (right; simp; done) | (right; simp; omega)))) (by simp +contextual)⟩
set_option maxHeartbeats 8000000 in
set_option maxRecDepth 100000 in
theorem acceptI_c (s mb n N : Nat) (c : Int) (T : List Ke) (i f t : Int) (l : List Vl) (v : Value) (hi : inI i) (hN : N ≤ 1000000000) (hn : n ≤ 1000000000) (w : World) (h : Fs w s mb n c N T) (hv : Rw w [] v l) (hms : s ≠ mb) : Calls Tryz.prog 151 #[.pointer (some ⟨s, 0, none⟩), mg 1 i f t v] w fun e w' => e = .returned (chV v (N + 1, l, (0, 0), (f, t))) ∧ Fs w' s mb (n + 1) c (N + 1 : Nat) (putM kent T (v, i, (N + 1, l, (0, 0), (f, t)))) ∧ Fr [s, mb] w w' := by
  have c1 := h.1.cell 1 rfl
  have f1 := h.1.free 1
  have hlt := h.1.lt
  haveI : In s w := ⟨hlt⟩
  have hml := h.2.lt
  obtain ⟨VA, vc, rfl⟩ := rw_val hv
  have hh := hide h
  have c2 := h.1.cell 2 rfl
  clear h hv
  go_enter Tryz.func151, Tryz.ntmps151
  go_wp2_with fail
  go_region
  go_wp2_with fail
  haveI i0 : ∀ (a : Addr) (u : Value) (o : Obj), In w.heap.size ((w.setCell a u).alloc o) := fun _ _ _ => ⟨by simp⟩
  haveI i1 : ∀ (a : Addr) (u : Value) (o o' : Obj), In (w.heap.size + 1) (((w.setCell a u).alloc o).alloc o') := fun _ _ _ _ => ⟨by simp⟩
  haveI i2 : ∀ (a : Addr) (u : Value) (o o' o'' : Obj), In (w.heap.size + 1 + 1) ((((w.setCell a u).alloc o).alloc o').alloc o'') := fun _ _ _ _ _ => ⟨by simp⟩
  refine wp_region_gw_tail 7 (by kernel_rfl) (by kernel_rfl) ?_
  simp only [List.take_succ_cons, List.take_zero, List.drop_succ_cons, List.drop_zero]
  repeat (go_big_quiet_step (fail))
  refine wpQuiet_nil ?_
  intro g
  have hOs : Ob g.val s 212 [.int .i64 c, (.int .i64 (N + 1)), .map (some mb)] := Ob.ext ((((hh.out.1.set 1 (.int .i64 (N + 1))).alloc _).alloc _).alloc _).drew g.grown
  have hOr : Ob g.val (w.heap.size + 1) 39 zCl := Ob.ext (top2 (w := w) (w0 := w.setCell ⟨s, 1, none⟩ (.int .i64 (N + 1))) (by simp) _ _ _ zCl).drew g.grown
  have hOc : Ob g.val (w.heap.size + 1 + 1) 39 [.int .i64 (N + 1), .slice VA l.length vc, .int .i64 0, .int .i64 0, .int .i64 f, .int .i64 t] := Ob.ext (top3 (w := w) (w0 := w.setCell ⟨s, 1, none⟩ (.int .i64 (N + 1))) (by simp) _ _ _ [.int .i64 (N + 1), .slice VA l.length vc, .int .i64 0, .int .i64 0, .int .i64 f, .int .i64 t]).drew g.grown
  have hFg : Fr [s] w g.val := Fr.then (S' := []) (by repeat (first | exact Fr.refl _ _ | refine Fr.alloc ?_ _ | refine Fr.drew ?_ | refine Fr.drewN ?_ _ | refine Fr.setCell ?_ _ _ (by first | (left; simp; done) | (right; simp; done) | (right; simp; omega)))) (Fr.of_ext g.grown) (by simp)
  have hKg := hide (kn_fr hh.out.2 hFg (by simpa using Ne.symm hms))
  have hOs' := hide hOs
  have hOr' := hide hOr
  have hOc' := hide hOc
  have hFg' := hide hFg
  clear hOs hOr hOc hFg
  go_wp2_with (at_mapUpdate; refine wpl_mstore rfl (.tmp 61) (.tmp 63) (.tmp 64) rfl (.slice VA l.length vc, i, (N + 1, l, (0, 0), (f, t))) rfl rfl rfl kKey Tryz.underlying210 (by unfold maxLen; omega) hKg.out (key_of hi) ?_; intro w5 hM5 hg5; have O5r := hOr'.out.grown hg5 (by simp; omega); have O5c := hOc'.out.grown hg5 (by simp; omega); have r0 := O5r.cell 0 rfl; have r1 := O5r.cell 1 rfl; have r2 := O5r.cell 2 rfl; have r3 := O5r.cell 3 rfl; have r4 := O5r.cell 4 rfl; have r5 := O5r.cell 5 rfl; have z0 := O5r.free 0; have z1 := O5r.free 1; have z2 := O5r.free 2; have z3 := O5r.free 3; have z4 := O5r.free 4; have z5 := O5r.free 5; have q0 := O5c.cell 0 rfl; have q1 := O5c.cell 1 rfl; have q2 := O5c.cell 2 rfl; have q3 := O5c.cell 3 rfl; have q4 := O5c.cell 4 rfl; have q5 := O5c.cell 5 rfl; have ql := O5c.lt; have rl := O5r.lt; haveI : In (w.heap.size + 1) w5 := ⟨rl⟩; haveI : In (w.heap.size + 1 + 1) w5 := ⟨ql⟩; have O5s := hide (hOs'.out.grown hg5 (by simpa using hms)); have hF5 := hide (Fr.grown (S := [s, mb]) (hFg'.out.more (by simp +contextual)) hg5 (fun z hz => by obtain rfl := Option.some.inj hz; exact .inl (by simp))); have hM5' := hide hM5; clear hM5 hg5 O5r O5c)
  first | go_frame | skip
  go_wp2_with fail
  refine bodyPost_ret (by simp [results, Tryz.results151, go_sem, r0, r1, r2, r3, r4, r5]; try rfl) rfl ?_
  have hF := (((((((Fr.refl [w.heap.size + 1] w5).setCell ⟨w.heap.size + 1, 0, none⟩ (.int .i64 (↑N + 1)) (.inl (by simp))).setCell ⟨w.heap.size + 1, 1, none⟩ (.slice VA l.length vc) (.inl (by simp))).setCell ⟨w.heap.size + 1, 2, none⟩ (.int .i64 0) (.inl (by simp))).setCell ⟨w.heap.size + 1, 3, none⟩ (.int .i64 0) (.inl (by simp))).setCell ⟨w.heap.size + 1, 4, none⟩ (.int .i64 f) (.inl (by simp))).setCell ⟨w.heap.size + 1, 5, none⟩ (.int .i64 t) (.inl (by simp)))
  exact ⟨rfl, ⟨O5s.out.fr hF (by simp; omega), kn_fr hM5'.out hF (by simp; omega)⟩, hF5.out.then hF (by simp)⟩
set_option maxHeartbeats 8000000 in
set_option maxRecDepth 100000 in
theorem acceptR_c (s mb n N : Nat) (c : Int) (T : List Ke) (i f t : Int) (l : List Vl) (v : Value) (p : Ke) (hi : inI i) (hp : atK T i = some p)  (hs : p.2.2.1 ≤ 1000000000) (h1 : 0 ≤ p.2.2.2.2.2.1) (h2 : p.2.2.2.2.2.1 < p.2.2.2.2.2.2) (h3 : p.2.2.2.2.2.2 ≤ 1125899906842624) (h4 : p.2.2.2.2.2.1 ≤ t) (h5 : t < p.2.2.2.2.2.2) (hn : n ≤ 1000000000) (w : World) (hpR : Rw w [] p.1 p.2.2.2.1) (h : Fs w s mb n c N T) (hv : Rw w [] v l) (hms : s ≠ mb) : Calls Tryz.prog 151 #[.pointer (some ⟨s, 0, none⟩), mg 2 i f t v] w fun e w' => e = .returned (chV p.1 (p.2.2.1, p.2.2.2.1, p.2.2.2.2.2, cut p.2.2.2.2.2 t)) ∧ Fs w' s mb (n + 1) c N (putM kent T (p.1, i, (p.2.2.1, p.2.2.2.1, p.2.2.2.2.2, cut p.2.2.2.2.2 t))) ∧ Fr [s, mb] w w' := by
  have hlt := h.1.lt
  haveI : In s w := ⟨hlt⟩
  have hml := h.2.lt
  have hl := look_1 h.2 hi
  rw [hp] at hl
  obtain ⟨VA, vc, rfl⟩ := rw_val hv
  obtain ⟨PA, pc, epv⟩ := rw_val hpR
  obtain ⟨pv, pid, ps, pr, ⟨po1, po2⟩, pn1, pn2⟩ := p
  simp only at epv h1 h2 h3 h4 h5 hs
  subst epv
  replace hl : ∀ w' [Gn w w'], (Instr.lookup 210 (.map (some mb)) (.int .i64 i) false).run Tryz.prog w' = .ok (.agg #[.int .i64 ps, .slice PA pr.length pc, .int .i64 po1, .int .i64 po2, .int .i64 pn1, .int .i64 pn2]) w' := hl
  obtain ⟨x1, x2, b, hah, hcut⟩ : ∃ x1 x2 b, Hid (∀ w', Calls Tryz.prog 201 #[.agg #[.int .i64 pn1, .int .i64 pn2], .int .i64 t] w' fun e w'' => e = .returned (.tuple #[.agg #[.int .i64 x1, .int .i64 x2], .bool b]) ∧ Ext w' w'') ∧ cut (pn1, pn2) t = (x1, x2) := by
    have hsm : smayB pn1 pn2 = true := by
      unfold smayB isTickB
      simp only [Bool.and_eq_true, decide_eq_true_iff]
      omega
    unfold cut
    by_cases e : t = pn1
    · refine ⟨0, 0, false, fun w' => ?_, by rw [if_pos e]⟩
      have hb : aheadB pn1 pn2 t = false := by unfold aheadB; rw [hsm, e]; simp
      have := ahead_c pn1 pn2 t w'
      rw [hb] at this
      exact this
    · refine ⟨pn1, t, true, fun w' => ?_, by rw [if_neg e]⟩
      have hb : aheadB pn1 pn2 t = true := by unfold aheadB; rw [hsm]; simp; omega
      have := ahead_c pn1 pn2 t w'
      rw [hb, Int.min_eq_right (by omega)] at this
      exact this
  simp only [hcut]
  have hh := hide h
  have c2 := h.1.cell 2 rfl
  clear h hv h1 h2 h3 h4 h5 hcut hpR
  replace hp := hide hp
  haveI i0 : ∀ (o : Obj), In w.heap.size (w.alloc o) := fun _ => ⟨by simp⟩
  haveI i1 : ∀ (o o' : Obj), In (w.heap.size + 1) ((w.alloc o).alloc o') := fun _ _ => ⟨by simp⟩
  haveI i2 : ∀ (o o' o'' : Obj), In (w.heap.size + 1 + 1) (((w.alloc o).alloc o').alloc o'') := fun _ _ _ => ⟨by simp⟩
  go_enter Tryz.func151, Tryz.ntmps151
  go_wp2_with fail
  go_region
  go_wp2_with (go_at_call 201; first | ((with_reducible refine seq_gw' (hah.out _) ?_); intro g1; have hzz := g1.grown.size; simp only [World.size_alloc, World.size_drew] at hzz; have O1s := hide (Ob.ext ((((hh.out.1.alloc _).alloc _).alloc _).drew) g1.grown : Ob g1.val s 212 [.int .i64 c, .int .i64 N, .map (some mb)]); have O1r := hide (Ob.ext ((top2 (w := w) (w0 := w) rfl _ _ _ zCl).drew) g1.grown : Ob g1.val (w.heap.size + 1) 39 zCl); have O1c := hide (Ob.ext ((top3 (w := w) (w0 := w) rfl _ _ _ [.int .i64 ps, .slice PA pr.length pc, .int .i64 pn1, .int .i64 pn2, .int .i64 pn1, .int .i64 pn2]).drew) g1.grown : Ob g1.val (w.heap.size + 1 + 1) 39 [.int .i64 ps, .slice PA pr.length pc, .int .i64 pn1, .int .i64 pn2, .int .i64 pn1, .int .i64 pn2])) | ((with_reducible refine seq_gw (hah.out _) ?_); intro g1; have hzz := g1.grown.size; simp only [World.size_alloc, World.size_drew] at hzz; have O1s := hide (Ob.ext ((((hh.out.1.alloc _).alloc _).alloc _).drew) g1.grown : Ob g1.val s 212 [.int .i64 c, .int .i64 N, .map (some mb)]); have O1r := hide (Ob.ext ((top2 (w := w) (w0 := w) rfl _ _ _ zCl).drew) g1.grown : Ob g1.val (w.heap.size + 1) 39 zCl); have O1c := hide (Ob.ext ((top3 (w := w) (w0 := w) rfl _ _ _ [.int .i64 ps, .slice PA pr.length pc, .int .i64 pn1, .int .i64 pn2, .int .i64 pn1, .int .i64 pn2]).drew) g1.grown : Ob g1.val (w.heap.size + 1 + 1) 39 [.int .i64 ps, .slice PA pr.length pc, .int .i64 pn1, .int .i64 pn2, .int .i64 pn1, .int .i64 pn2])))
  refine wp_region_gw_tail 7 (by kernel_rfl) (by kernel_rfl) ?_
  simp only [List.take_succ_cons, List.take_zero, List.drop_succ_cons, List.drop_zero]
  repeat (go_big_quiet_step (fail))
  refine wpQuiet_nil ?_
  intro g
  have hOs : Ob g.val s 212 [.int .i64 c, .int .i64 N, .map (some mb)] := Ob.ext ((O1s.out.far _ _ (by simp; omega)).far _ _ (by simp; omega)) g.grown
  have hOr : Ob g.val (w.heap.size + 1) 39 zCl := Ob.ext ((O1r.out.far _ _ (by simp)).far _ _ (by simp)) g.grown
  have hOc : Ob g.val (w.heap.size + 1 + 1) 39 [.int .i64 ps, .slice PA pr.length pc, .int .i64 pn1, .int .i64 pn2, .int .i64 x1, .int .i64 x2] := Ob.ext ((O1c.out.set 4 (.int .i64 x1)).set 5 (.int .i64 x2)) g.grown
  have hFg : Fr [s] w g.val := Fr.then (S' := []) (by repeat (first | exact Fr.refl _ _ | refine Fr.then (S' := []) ?_ (Fr.of_ext g1.grown) (by simp) | refine Fr.alloc ?_ _ | refine Fr.drew ?_ | refine Fr.drewN ?_ _ | refine Fr.setCell ?_ _ _ (by first | (left; simp; done) | (right; simp; done) | (right; simp; omega)))) (Fr.of_ext g.grown) (by simp)
  have hKg := hide (kn_fr hh.out.2 hFg (by simpa using Ne.symm hms))
  have hOs' := hide hOs
  have hOr' := hide hOr
  have hOc' := hide hOc
  have hFg' := hide hFg
  clear hOs hOr hOc hFg
  go_wp2_with (at_mapUpdate; refine wpl_mstore rfl (.tmp 61) (.tmp 63) (.tmp 64) rfl (.slice PA pr.length pc, i, (ps, pr, (pn1, pn2), (x1, x2))) rfl rfl rfl kKey Tryz.underlying210 (by unfold maxLen; omega) hKg.out (key_of hi) ?_; intro w5 hM5 hg5; have O5r := hOr'.out.grown hg5 (by simp; omega); have O5c := hOc'.out.grown hg5 (by simp; omega); have r0 := O5r.cell 0 rfl; have r1 := O5r.cell 1 rfl; have r2 := O5r.cell 2 rfl; have r3 := O5r.cell 3 rfl; have r4 := O5r.cell 4 rfl; have r5 := O5r.cell 5 rfl; have z0 := O5r.free 0; have z1 := O5r.free 1; have z2 := O5r.free 2; have z3 := O5r.free 3; have z4 := O5r.free 4; have z5 := O5r.free 5; have q0 := O5c.cell 0 rfl; have q1 := O5c.cell 1 rfl; have q2 := O5c.cell 2 rfl; have q3 := O5c.cell 3 rfl; have q4 := O5c.cell 4 rfl; have q5 := O5c.cell 5 rfl; have ql := O5c.lt; have rl := O5r.lt; haveI : In (w.heap.size + 1) w5 := ⟨rl⟩; haveI : In (w.heap.size + 1 + 1) w5 := ⟨ql⟩; have O5s := hide (hOs'.out.grown hg5 (by simpa using hms)); have hF5 := hide (Fr.grown (S := [s, mb]) (hFg'.out.more (by simp +contextual)) hg5 (fun z hz => by obtain rfl := Option.some.inj hz; exact .inl (by simp))); have hM5' := hide hM5; clear hM5 hg5 O5r O5c)
  first | go_frame | skip
  go_wp2_with fail
  refine bodyPost_ret (by simp [results, Tryz.results151, go_sem, r0, r1, r2, r3, r4, r5]; try rfl) rfl ?_
  have hF := (((((((Fr.refl [w.heap.size + 1] w5).setCell ⟨w.heap.size + 1, 0, none⟩ (.int .i64 ↑ps) (.inl (by simp))).setCell ⟨w.heap.size + 1, 1, none⟩ (.slice PA pr.length pc) (.inl (by simp))).setCell ⟨w.heap.size + 1, 2, none⟩ (.int .i64 pn1) (.inl (by simp))).setCell ⟨w.heap.size + 1, 3, none⟩ (.int .i64 pn2) (.inl (by simp))).setCell ⟨w.heap.size + 1, 4, none⟩ (.int .i64 x1) (.inl (by simp))).setCell ⟨w.heap.size + 1, 5, none⟩ (.int .i64 x2) (.inl (by simp)))
  exact ⟨rfl, ⟨O5s.out.fr hF (by simp; omega), kn_fr hM5'.out hF (by simp; omega)⟩, hF5.out.then hF (by simp)⟩
end Go.Proofs.YtajelkkiijdegaaGreat
