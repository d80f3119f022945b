/-
  A helper of ours: no claim of its own. Layer 12 (bag): whether an edge is late, and whether any row is fewer times there than none, by the code.
-/
import Derived.Test.YtajelkkiijdegaaGreatFolA
import Derived.Test.YtajelkkiijdegaaGreatSpanA
import Derived.Test.YtajelkkiijdegaaGreatRowE
import Derived.Test.YtajelkkiijdegaaGreatMapV
import Derived.BigQuiet
set_option linter.unusedVariables false
set_option linter.unusedSimpArgs false
namespace Go.Proofs.YtajelkkiijdegaaGreat
open Go.RowKit
attribute [local go_sem] GW.cell GW.frozen In.eq_true In.le_true In.ne In.ne' In.ne_add In.ne_add' In.lt_add Upto.le_true Upto.le_add Upto.lt_add
theorem kn_fr {w W : World} {mb n : Nat} {S : List Nat} {T : List Ke} (h : Kn w mb n T) (hF : Fr S w W) (hmb : mb ∉ S) : Kn W mb n T := by
  have hml := h.lt
  obtain ⟨es, ⟨es', c, g1, rst⟩, h2⟩ := h
  exact ⟨es, ⟨es', c, (hF.block mb hml hmb).trans g1, rst⟩, h2⟩
theorem top3 {w w0 : World} (hz : w0.heap.size = w.heap.size) (o1 o2 : Obj) (T : TypeId) (vs : List Value) : Ob (((w0.alloc o1).alloc o2).alloc (.cells vs.toArray T)) (w.heap.size + 1 + 1) T vs := by
  have := Ob.new ((w0.alloc o1).alloc o2) T vs
  rw [World.size_alloc, World.size_alloc, hz] at this
  exact this
theorem top2 {w w0 : World} (hz : w0.heap.size = w.heap.size) (o1 o3 : Obj) (T : TypeId) (vs : List Value) : Ob (((w0.alloc o1).alloc (.cells vs.toArray T)).alloc o3) (w.heap.size + 1) T vs := by
  have := Ob.new (w0.alloc o1) T vs
  rw [World.size_alloc, hz] at this
  exact this.alloc o3
abbrev zCl : List Value := [.int .i64 0, .slice none 0 0, .int .i64 0, .int .i64 0, .int .i64 0, .int .i64 0]
set_option maxHeartbeats 8000000 in
set_option maxRecDepth 100000 in
theorem acceptC_c (s mb n : Nat) (c ser : Int) (T : List Ke) (i f t : Int) (l : List Vl) (v : Value) (w : World) (h : Fs w s mb n c ser T) (hv : Rw w [] v l) (hms : s ≠ mb) : Calls Tryz.prog 151 #[.pointer (some ⟨s, 0, none⟩), mg 3 i f t v] w fun e w' => e = .returned zChV ∧ Fs w' s mb n f ser T ∧ Fr [s, mb] w w' := by
  have c0 := h.1.cell 0 rfl
  have f0 := h.1.free 0
  have hlt := h.1.lt
  haveI : In s w := ⟨hlt⟩
  obtain ⟨VA, vc, rfl⟩ := rw_val hv
  generalize l.length = vl at *
  have hh := hide h
  clear h hv
  go_enter Tryz.func151, Tryz.ntmps151
  go_wp2_with fail
  go_returns
  refine ⟨rfl, ⟨(((hh.out.1.set 0 (.int .i64 f)).alloc _).alloc _).alloc _, kn_fr (S := [s]) hh.out.2 (by repeat (first | exact Fr.refl _ _ | refine Fr.alloc ?_ _ | refine Fr.drew ?_ | refine Fr.drewN ?_ _ | refine Fr.setCell ?_ _ _ (by first | (left; simp; done) | (right; simp; done) | (right; simp; omega)))) (by simpa using Ne.symm hms)⟩, Fr.more (S := [s]) (by repeat (first | exact Fr.refl _ _ | refine Fr.alloc ?_ _ | refine Fr.drew ?_ | refine Fr.drewN ?_ _ | refine Fr.setCell ?_ _ _ (by first | (left; simp; done) | (right; simp; done) | (right; simp; omega)))) (by simp +contextual)⟩
set_option maxHeartbeats 8000000 in
set_option maxRecDepth 100000 in
theorem acceptI_c (s mb n N : Nat) (c : Int) (T : List Ke) (i f t : Int) (l : List Vl) (v : Value) (hi : inI i) (hN : N ≤ 1000000000) (hn : n ≤ 1000000000) (w : World) (h : Fs w s mb n c N T) (hv : Rw w [] v l) (hms : s ≠ mb) : Calls Tryz.prog 151 #[.pointer (some ⟨s, 0, none⟩), mg 1 i f t v] w fun e w' => e = .returned (chV v (N + 1, l, (0, 0), (f, t))) ∧ Fs w' s mb (n + 1) c (N + 1 : Nat) (putM kent T (v, i, (N + 1, l, (0, 0), (f, t)))) ∧ Fr [s, mb] w w' := by
  have c1 := h.1.cell 1 rfl
  have f1 := h.1.free 1
  have hlt := h.1.lt
  haveI : In s w := ⟨hlt⟩
  have hml := h.2.lt
  obtain ⟨VA, vc, rfl⟩ := rw_val hv
  have hh := hide h
  have c2 := h.1.cell 2 rfl
  clear h hv
  go_enter Tryz.func151, Tryz.ntmps151
  go_wp2_with fail
  go_region
  go_wp2_with fail
  haveI i0 : ∀ (a : Addr) (u : Value) (o : Obj), In w.heap.size ((w.setCell a u).alloc o) := fun _ _ _ => ⟨by simp⟩
  haveI i1 : ∀ (a : Addr) (u : Value) (o o' : Obj), In (w.heap.size + 1) (((w.setCell a u).alloc o).alloc o') := fun _ _ _ _ => ⟨by simp⟩
  haveI i2 : ∀ (a : Addr) (u : Value) (o o' o'' : Obj), In (w.heap.size + 1 + 1) ((((w.setCell a u).alloc o).alloc o').alloc o'') := fun _ _ _ _ _ => ⟨by simp⟩
  refine wp_region_gw_tail 7 (by kernel_rfl) (by kernel_rfl) ?_
  simp only [List.take_succ_cons, List.take_zero, List.drop_succ_cons, List.drop_zero]
  repeat (go_big_quiet_step (fail))
  refine wpQuiet_nil ?_
  intro g
  have hOs : Ob g.val s 212 [.int .i64 c, (.int .i64 (N + 1)), .map (some mb)] := Ob.ext ((((hh.out.1.set 1 (.int .i64 (N + 1))).alloc _).alloc _).alloc _).drew g.grown
  have hOr : Ob g.val (w.heap.size + 1) 39 zCl := Ob.ext (top2 (w := w) (w0 := w.setCell ⟨s, 1, none⟩ (.int .i64 (N + 1))) (by simp) _ _ _ zCl).drew g.grown
  have hOc : Ob g.val (w.heap.size + 1 + 1) 39 [.int .i64 (N + 1), .slice VA l.length vc, .int .i64 0, .int .i64 0, .int .i64 f, .int .i64 t] := Ob.ext (top3 (w := w) (w0 := w.setCell ⟨s, 1, none⟩ (.int .i64 (N + 1))) (by simp) _ _ _ [.int .i64 (N + 1), .slice VA l.length vc, .int .i64 0, .int .i64 0, .int .i64 f, .int .i64 t]).drew g.grown
  have hFg : Fr [s] w g.val := Fr.then (S' := []) (by repeat (first | exact Fr.refl _ _ | refine Fr.alloc ?_ _ | refine Fr.drew ?_ | refine Fr.drewN ?_ _ | refine Fr.setCell ?_ _ _ (by first | (left; simp; done) | (right; simp; done) | (right; simp; omega)))) (Fr.of_ext g.grown) (by simp)
  have hKg := hide (kn_fr hh.out.2 hFg (by simpa using Ne.symm hms))
  have hOs' := hide hOs
  have hOr' := hide hOr
  have hOc' := hide hOc
  have hFg' := hide hFg
  clear hOs hOr hOc hFg
  go_wp2_with (at_mapUpdate; refine wpl_mstore rfl (.tmp 61) (.tmp 63) (.tmp 64) rfl (.slice VA l.length vc, i, (N + 1, l, (0, 0), (f, t))) rfl rfl rfl kKey Tryz.underlying210 (by unfold maxLen; omega) hKg.out (key_of hi) ?_; intro w5 hM5 hg5; have O5r := hOr'.out.grown hg5 (by simp; omega); have O5c := hOc'.out.grown hg5 (by simp; omega); have r0 := O5r.cell 0 rfl; have r1 := O5r.cell 1 rfl; have r2 := O5r.cell 2 rfl; have r3 := O5r.cell 3 rfl; have r4 := O5r.cell 4 rfl; have r5 := O5r.cell 5 rfl; have z0 := O5r.free 0; have z1 := O5r.free 1; have z2 := O5r.free 2; have z3 := O5r.free 3; have z4 := O5r.free 4; have z5 := O5r.free 5; have q0 := O5c.cell 0 rfl; have q1 := O5c.cell 1 rfl; have q2 := O5c.cell 2 rfl; have q3 := O5c.cell 3 rfl; have q4 := O5c.cell 4 rfl; have q5 := O5c.cell 5 rfl; have ql := O5c.lt; have rl := O5r.lt; haveI : In (w.heap.size + 1) w5 := ⟨rl⟩; haveI : In (w.heap.size + 1 + 1) w5 := ⟨ql⟩; have O5s := hide (hOs'.out.grown hg5 (by simpa using hms)); have hF5 := hide (Fr.grown (S := [s, mb]) (hFg'.out.more (by simp +contextual)) hg5 (fun z hz => by obtain rfl := Option.some.inj hz; exact .inl (by simp))); have hM5' := hide hM5; clear hM5 hg5 O5r O5c)
  first | go_frame | skip
  go_wp2_with fail
  refine bodyPost_ret (by simp [results, Tryz.results151, go_sem, r0, r1, r2, r3, r4, r5]; try rfl) rfl ?_
  have hF := (((((((Fr.refl [w.heap.size + 1] w5).setCell ⟨w.heap.size + 1, 0, none⟩ (.int .i64 (↑N + 1)) (.inl (by simp))).setCell ⟨w.heap.size + 1, 1, none⟩ (.slice VA l.length vc) (.inl (by simp))).setCell ⟨w.heap.size + 1, 2, none⟩ (.int .i64 0) (.inl (by simp))).setCell ⟨w.heap.size + 1, 3, none⟩ (.int .i64 0) (.inl (by simp))).setCell ⟨w.heap.size + 1, 4, none⟩ (.int .i64 f) (.inl (by simp))).setCell ⟨w.heap.size + 1, 5, none⟩ (.int .i64 t) (.inl (by simp)))
  exact ⟨rfl, ⟨O5s.out.fr hF (by simp; omega), kn_fr hM5'.out hF (by simp; omega)⟩, hF5.out.then hF (by simp)⟩
set_option maxHeartbeats 8000000 in
set_option maxRecDepth 100000 in
theorem acceptR_c (s mb n N : Nat) (c : Int) (T : List Ke) (i f t : Int) (l : List Vl) (v : Value) (p : Ke) (hi : inI i) (hp : atK T i = some p)  (hs : p.2.2.1 ≤ 1000000000) (h1 : 0 ≤ p.2.2.2.2.2.1) (h2 : p.2.2.2.2.2.1 < p.2.2.2.2.2.2) (h3 : p.2.2.2.2.2.2 ≤ 1125899906842624) (h4 : p.2.2.2.2.2.1 ≤ t) (h5 : t < p.2.2.2.2.2.2) (hn : n ≤ 1000000000) (w : World) (hpR : Rw w [] p.1 p.2.2.2.1) (h : Fs w s mb n c N T) (hv : Rw w [] v l) (hms : s ≠ mb) : Calls Tryz.prog 151 #[.pointer (some ⟨s, 0, none⟩), mg 2 i f t v] w fun e w' => e = .returned (chV p.1 (p.2.2.1, p.2.2.2.1, p.2.2.2.2.2, cut p.2.2.2.2.2 t)) ∧ Fs w' s mb (n + 1) c N (putM kent T (p.1, i, (p.2.2.1, p.2.2.2.1, p.2.2.2.2.2, cut p.2.2.2.2.2 t))) ∧ Fr [s, mb] w w' := by
  have hlt := h.1.lt
  haveI : In s w := ⟨hlt⟩
  have hml := h.2.lt
  have hl := look_1 h.2 hi
  rw [hp] at hl
  obtain ⟨VA, vc, rfl⟩ := rw_val hv
  obtain ⟨PA, pc, epv⟩ := rw_val hpR
  obtain ⟨pv, pid, ps, pr, ⟨po1, po2⟩, pn1, pn2⟩ := p
  simp only at epv h1 h2 h3 h4 h5 hs
  subst epv
  replace hl : ∀ w' [Gn w w'], (Instr.lookup 210 (.map (some mb)) (.int .i64 i) false).run Tryz.prog w' = .ok (.agg #[.int .i64 ps, .slice PA pr.length pc, .int .i64 po1, .int .i64 po2, .int .i64 pn1, .int .i64 pn2]) w' := hl
  obtain ⟨x1, x2, b, hah, hcut⟩ : ∃ x1 x2 b, Hid (∀ w', Calls Tryz.prog 201 #[.agg #[.int .i64 pn1, .int .i64 pn2], .int .i64 t] w' fun e w'' => e = .returned (.tuple #[.agg #[.int .i64 x1, .int .i64 x2], .bool b]) ∧ Ext w' w'') ∧ cut (pn1, pn2) t = (x1, x2) := by
    have hsm : smayB pn1 pn2 = true := by
      unfold smayB isTickB
      simp only [Bool.and_eq_true, decide_eq_true_iff]
      omega
    unfold cut
    by_cases e : t = pn1
    · refine ⟨0, 0, false, fun w' => ?_, by rw [if_pos e]⟩
      have hb : aheadB pn1 pn2 t = false := by unfold aheadB; rw [hsm, e]; simp
      have := ahead_c pn1 pn2 t w'
      rw [hb] at this
      exact this
    · refine ⟨pn1, t, true, fun w' => ?_, by rw [if_neg e]⟩
      have hb : aheadB pn1 pn2 t = true := by unfold aheadB; rw [hsm]; simp; omega
      have := ahead_c pn1 pn2 t w'
      rw [hb, Int.min_eq_right (by omega)] at this
      exact this
  simp only [hcut]
  have hh := hide h
  have c2 := h.1.cell 2 rfl
  clear h hv h1 h2 h3 h4 h5 hcut hpR
  replace hp := hide hp
  haveI i0 : ∀ (o : Obj), In w.heap.size (w.alloc o) := fun _ => ⟨by simp⟩
  haveI i1 : ∀ (o o' : Obj), In (w.heap.size + 1) ((w.alloc o).alloc o') := fun _ _ => ⟨by simp⟩
  haveI i2 : ∀ (o o' o'' : Obj), In (w.heap.size + 1 + 1) (((w.alloc o).alloc o').alloc o'') := fun _ _ _ => ⟨by simp⟩
  go_enter Tryz.func151, Tryz.ntmps151
  go_wp2_with fail
  go_region
  go_wp2_with (go_at_call 201; first | ((with_reducible refine seq_gw' (hah.out _) ?_); intro g1; have hzz := g1.grown.size; simp only [World.size_alloc, World.size_drew] at hzz; have O1s := hide (Ob.ext ((((hh.out.1.alloc _).alloc _).alloc _).drew) g1.grown : Ob g1.val s 212 [.int .i64 c, .int .i64 N, .map (some mb)]); have O1r := hide (Ob.ext ((top2 (w := w) (w0 := w) rfl _ _ _ zCl).drew) g1.grown : Ob g1.val (w.heap.size + 1) 39 zCl); have O1c := hide (Ob.ext ((top3 (w := w) (w0 := w) rfl _ _ _ [.int .i64 ps, .slice PA pr.length pc, .int .i64 pn1, .int .i64 pn2, .int .i64 pn1, .int .i64 pn2]).drew) g1.grown : Ob g1.val (w.heap.size + 1 + 1) 39 [.int .i64 ps, .slice PA pr.length pc, .int .i64 pn1, .int .i64 pn2, .int .i64 pn1, .int .i64 pn2])) | ((with_reducible refine seq_gw (hah.out _) ?_); intro g1; have hzz := g1.grown.size; simp only [World.size_alloc, World.size_drew] at hzz; have O1s := hide (Ob.ext ((((hh.out.1.alloc _).alloc _).alloc _).drew) g1.grown : Ob g1.val s 212 [.int .i64 c, .int .i64 N, .map (some mb)]); have O1r := hide (Ob.ext ((top2 (w := w) (w0 := w) rfl _ _ _ zCl).drew) g1.grown : Ob g1.val (w.heap.size + 1) 39 zCl); have O1c := hide (Ob.ext ((top3 (w := w) (w0 := w) rfl _ _ _ [.int .i64 ps, .slice PA pr.length pc, .int .i64 pn1, .int .i64 pn2, .int .i64 pn1, .int .i64 pn2]).drew) g1.grown : Ob g1.val (w.heap.size + 1 + 1) 39 [.int .i64 ps, .slice PA pr.length pc, .int .i64 pn1, .int .i64 pn2, .int .i64 pn1, .int .i64 pn2])))
  refine wp_region_gw_tail 7 (by kernel_rfl) (by kernel_rfl) ?_
  simp only [List.take_succ_cons, List.take_zero, List.drop_succ_cons, List.drop_zero]
  repeat (go_big_quiet_step (fail))
  refine wpQuiet_nil ?_
  intro g
  have hOs : Ob g.val s 212 [.int .i64 c, .int .i64 N, .map (some mb)] := Ob.ext ((O1s.out.far _ _ (by simp; omega)).far _ _ (by simp; omega)) g.grown
  have hOr : Ob g.val (w.heap.size + 1) 39 zCl := Ob.ext ((O1r.out.far _ _ (by simp)).far _ _ (by simp)) g.grown
  have hOc : Ob g.val (w.heap.size + 1 + 1) 39 [.int .i64 ps, .slice PA pr.length pc, .int .i64 pn1, .int .i64 pn2, .int .i64 x1, .int .i64 x2] := Ob.ext ((O1c.out.set 4 (.int .i64 x1)).set 5 (.int .i64 x2)) g.grown
  have hFg : Fr [s] w g.val := Fr.then (S' := []) (by repeat (first | exact Fr.refl _ _ | refine Fr.then (S' := []) ?_ (Fr.of_ext g1.grown) (by simp) | refine Fr.alloc ?_ _ | refine Fr.drew ?_ | refine Fr.drewN ?_ _ | refine Fr.setCell ?_ _ _ (by first | (left; simp; done) | (right; simp; done) | (right; simp; omega)))) (Fr.of_ext g.grown) (by simp)
  have hKg := hide (kn_fr hh.out.2 hFg (by simpa using Ne.symm hms))
  have hOs' := hide hOs
  have hOr' := hide hOr
  have hOc' := hide hOc
  have hFg' := hide hFg
  clear hOs hOr hOc hFg
  go_wp2_with (at_mapUpdate; refine wpl_mstore rfl (.tmp 61) (.tmp 63) (.tmp 64) rfl (.slice PA pr.length pc, i, (ps, pr, (pn1, pn2), (x1, x2))) rfl rfl rfl kKey Tryz.underlying210 (by unfold maxLen; omega) hKg.out (key_of hi) ?_; intro w5 hM5 hg5; have O5r := hOr'.out.grown hg5 (by simp; omega); have O5c := hOc'.out.grown hg5 (by simp; omega); have r0 := O5r.cell 0 rfl; have r1 := O5r.cell 1 rfl; have r2 := O5r.cell 2 rfl; have r3 := O5r.cell 3 rfl; have r4 := O5r.cell 4 rfl; have r5 := O5r.cell 5 rfl; have z0 := O5r.free 0; have z1 := O5r.free 1; have z2 := O5r.free 2; have z3 := O5r.free 3; have z4 := O5r.free 4; have z5 := O5r.free 5; have q0 := O5c.cell 0 rfl; have q1 := O5c.cell 1 rfl; have q2 := O5c.cell 2 rfl; have q3 := O5c.cell 3 rfl; have q4 := O5c.cell 4 rfl; have q5 := O5c.cell 5 rfl; have ql := O5c.lt; have rl := O5r.lt; haveI : In (w.heap.size + 1) w5 := ⟨rl⟩; haveI : In (w.heap.size + 1 + 1) w5 := ⟨ql⟩; have O5s := hide (hOs'.out.grown hg5 (by simpa using hms)); have hF5 := hide (Fr.grown (S := [s, mb]) (hFg'.out.more (by simp +contextual)) hg5 (fun z hz => by obtain rfl := Option.some.inj hz; exact .inl (by simp))); have hM5' := hide hM5; clear hM5 hg5 O5r O5c)
  first | go_frame | skip
  go_wp2_with fail
  refine bodyPost_ret (by simp [results, Tryz.results151, go_sem, r0, r1, r2, r3, r4, r5]; try rfl) rfl ?_
  have hF := (((((((Fr.refl [w.heap.size + 1] w5).setCell ⟨w.heap.size + 1, 0, none⟩ (.int .i64 ↑ps) (.inl (by simp))).setCell ⟨w.heap.size + 1, 1, none⟩ (.slice PA pr.length pc) (.inl (by simp))).setCell ⟨w.heap.size + 1, 2, none⟩ (.int .i64 pn1) (.inl (by simp))).setCell ⟨w.heap.size + 1, 3, none⟩ (.int .i64 pn2) (.inl (by simp))).setCell ⟨w.heap.size + 1, 4, none⟩ (.int .i64 x1) (.inl (by simp))).setCell ⟨w.heap.size + 1, 5, none⟩ (.int .i64 x2) (.inl (by simp)))
  exact ⟨rfl, ⟨O5s.out.fr hF (by simp; omega), kn_fr hM5'.out hF (by simp; omega)⟩, hF5.out.then hF (by simp)⟩
end Go.Proofs.YtajelkkiijdegaaGreat
set_option linter.unusedVariables false
set_option linter.unusedSimpArgs false
namespace Go.Proofs.YtajelkkiijdegaaGreat
open Go.RowKit
theorem Fs.more {w : World} {s mb n n' : Nat} {c ser : Int} {T : List Ke} (h : Fs w s mb n c ser T) (hn : n ≤ n') : Fs w s mb n' c ser T := by
  obtain ⟨h1, es, h2, h3⟩ := h
  exact ⟨h1, es, h2.mono hn, h3⟩
def rowsK (w : World) (T : List Ke) : Prop := ∀ p ∈ T, Rw w [] p.1 p.2.2.2.1
theorem rows_free {w : World} {T : List Ke} (h : rowsK w T) (c id : Int) : rowsK w (freeK T c id) := by
  unfold freeK
  split
  · split
    · exact fun p hp => h p (mem_delK.1 hp).1
    · exact h
  · exact h
theorem rows_put {w : World} {T : List Ke} (h : rowsK w T) {x : Ke} (hx : Rw w [] x.1 x.2.2.2.1) : rowsK w (putM kent T x) := fun p hp => by
  rcases List.mem_cons.1 hp with rfl | hp
  · exact hx
  · exact h p (mem_delK.1 (show p ∈ delK T x.2.1 from hp)).1
theorem accept_c (s mb n : Nat) (S : StD) (T : List Ke) (m : PM) (v : Value) (hI : InvF T S) (h0 : chkD S m = 0) (hin : inI m.1.2.1) (hN : S.2.length ≤ 900000000) (hn : n ≤ 900000000) (wA w : World) (hX : Ext wA w) (hT : rowsK wA T) (hv : Rw wA [] v m.2) (h : Fs w s mb n S.1 S.2.length (freeK T S.1 m.1.2.1)) (hms : s ≠ mb) :
    Calls Tryz.prog 151 #[.pointer (some ⟨s, 0, none⟩), mg m.1.1 m.1.2.1 m.1.2.2.1 m.1.2.2.2 v] w fun e w' => ∃ u, e = .returned (chV u (tk S m).2) ∧ Rw wA [] u (tk S m).2.2.1 ∧ Fs w' s mb (n + 1) (tk S m).1.1 (tk S m).1.2.length (accK (freeK T S.1 m.1.2.1) S.2.length v m) ∧ rowsK wA (accK (freeK T S.1 m.1.2.1) S.2.length v m) ∧ Fr [s, mb] w w' := by
  have hch := hI.change m h0
  have hkn := hI.kn_free m.1.2.1
  obtain ⟨hI1, hI2⟩ := hI.free m.1.2.1
  have hTf := rows_free hT S.1 m.1.2.1
  have hz := h0
  rw [hI.chk] at hz
  obtain ⟨z1, z2, z3, z4⟩ := chkO_zero hz
  unfold mkM at z1
  rw [hch]
  clear hch
  obtain ⟨⟨k, i, f, t⟩, l⟩ := m
  simp only at *
  generalize freeK T S.1 i = T1 at *
  rcases mchk_kind z1 with rfl | rfl | rfl
  · refine (acceptI_c s mb n S.2.length S.1 T1 i f t l v hin (by omega) (by omega) w h (Sl.ext hv hX) hms).mono ?_
    rintro e w' ⟨rfl, hF, hfr⟩
    unfold accK tk
    simp only [show ((1 : Int) = 3) = False by simp, if_false, if_true]
    refine ⟨v, rfl, hv, ?_, rows_put hTf hv, hfr⟩
    rw [List.length_append, List.length_singleton]
    exact hF
  · obtain ⟨e, he, u1, u2, u3⟩ := z2 rfl
    have hp : ∃ p, atK T1 i = some p ∧ e = (p.2.2.2.1, p.2.2.2.2.2) := by
      unfold knK at he
      cases hq : atK T1 i with
      | none => rw [hq] at he; cases he
      | some p => rw [hq] at he; exact ⟨p, rfl, (Option.some.inj he).symm⟩
    obtain ⟨p, hp, rfl⟩ := hp
    obtain ⟨g1, g2⟩ := hI1.known p (atK_some hp).1 (hI2 p hp)
    have gev := hI1.evs _ (List.mem_of_getElem? g2)
    have gp := hI1.good p (atK_some hp).1
    have hpr := hTf p (atK_some hp).1
    simp only at gev u1 u2 u3
    refine (acceptR_c s mb n S.2.length S.1 T1 i f t l v p hin hp (by omega) gev.1 gev.2.1 gev.2.2.1 u2 u1 (by omega) w (Sl.ext hpr hX) h (Sl.ext hv hX) hms).mono ?_
    rintro e w' ⟨rfl, hF, hfr⟩
    rw [hp, Option.map_some] at hkn
    unfold accK tk
    simp only [show ((2 : Int) = 3) = False by simp, show ((2 : Int) = 1) = False by simp, if_false, hp, hkn]
    refine ⟨p.1, rfl, hpr, ?_, rows_put hTf hpr, hfr⟩
    rw [List.length_set]
    exact hF
  · refine (acceptC_c s mb n S.1 S.2.length T1 i f t l v w h (Sl.ext hv hX) hms).mono ?_
    rintro e w' ⟨rfl, hF, hfr⟩
    unfold accK tk
    simp only [if_true]
    exact ⟨.slice none 0 0, rfl, Sl.nil _ _ _, hF.more (by omega), hTf, hfr⟩
end Go.Proofs.YtajelkkiijdegaaGreat
set_option linter.unusedVariables false
set_option linter.unusedSimpArgs false
namespace Go.Proofs.YtajelkkiijdegaaGreat
open Go.RowKit
/-- Block s is a state, block mb a map. -/
def StOk (w : World) (s mb : Nat) : Prop := (∃ vs, Ob w s 212 vs) ∧ ∃ es c, w.heap[mb]? = some (.map es c)
theorem Fs.ok {w : World} {s mb n : Nat} {c ser : Int} {T : List Ke} (h : Fs w s mb n c ser T) : StOk w s mb := by
  obtain ⟨h1, es, ⟨es', c', g1, -⟩, -⟩ := h
  exact ⟨⟨_, h1⟩, _, _, g1⟩
theorem Fs.same {w w' : World} {s mb n : Nat} {c ser : Int} {T : List Ke} (h : Fs w s mb n c ser T) (h1 : w'.heap[s]? = w.heap[s]?) (h2 : w'.heap[mb]? = w.heap[mb]?) : Fs w' s mb n c ser T := by
  obtain ⟨k1, es, ⟨es', c', g1, r⟩, k2⟩ := h
  exact ⟨h1.trans k1, es, ⟨es', c', h2.trans g1, r⟩, k2⟩
theorem tk_len (s : StD) (m : PM) : (tk s m).1.2.length ≤ s.2.length + 1 := by
  unfold tk
  split
  · exact Nat.le_succ _
  · split
    · rw [List.length_append, List.length_singleton]; exact Nat.le_refl _
    · split
      · exact Nat.le_succ _
      · rw [List.length_set]; exact Nat.le_succ _
theorem stp_len (s : StD) (m : PM) : (stp s m).2.length ≤ s.2.length + 1 := by
  unfold stp
  split
  · exact tk_len s m
  · exact Nat.le_succ _
theorem runS_len : ∀ (l : List PM) (s : StD), (runS s l).2.length ≤ s.2.length + l.length
  | [], s => Nat.le_refl _
  | m :: r, s => by
    have h1 := runS_len r (stp s m)
    have h2 := stp_len s m
    show (runS (stp s m) r).2.length ≤ _
    rw [List.length_cons]; omega
/-- Whether there is a change is told by its serial. -/
theorem chg_ser {T : List Ke} {S : StD} (hI : InvF T S) (m : PM) : isC S m = decide (0 < (chg S m).1) := by
  unfold isC chg
  by_cases h0 : chkD S m = 0
  · rw [if_pos h0, hI.change m h0]
    by_cases h3 : m.1.1 = 3
    · rw [if_pos h3]
      simp [h0, h3, zCh]
    · rw [if_neg h3]
      have hz := h0
      rw [hI.chk] at hz
      obtain ⟨z1, z2, z3, z4⟩ := chkO_zero hz
      have hk := mchk_kind z1
      by_cases h1 : m.1.1 = 1
      · rw [if_pos h1]
        simp [h0, h3]
      · rw [if_neg h1]
        have h2 : m.1.1 = 2 := by rcases hk with hk | hk | hk; exact absurd hk h1; exact hk; exact absurd hk h3
        obtain ⟨e, he, -⟩ := z2 h2
        unfold knK at he
        cases hp : atK (freeK T S.1 m.1.2.1) m.1.2.1 with
        | none => rw [hp] at he; cases he
        | some p =>
          obtain ⟨h1', h2'⟩ := hI.free m.1.2.1
          obtain ⟨g1, -⟩ := h1'.known p (atK_some hp).1 (h2' p hp)
          simp [h0, h3]
          omega
  · rw [if_neg h0]
    simp [h0, zCh]
/-- What the code keeps as events: those that were cancelled have no lifetime. -/
abbrev Ex := (Int × List Vl) × Spn
end Go.Proofs.YtajelkkiijdegaaGreat
set_option linter.unusedVariables false
set_option linter.unusedSimpArgs false
namespace Go.Proofs.YtajelkkiijdegaaGreat
open Go.RowKit
attribute [local go_sem] GW.cell GW.frozen In.eq_true In.le_true In.ne In.ne' In.ne_add In.ne_add' In.lt_add Upto.le_true Upto.le_add Upto.lt_add
/-- An entry: the slices of its row and of its jumps, the row, the jumps. -/
abbrev Fe := Value × Value × Gp
theorem ext_by {w w' : World} (h : Ext w w') : w.grownBy w' none := ⟨h.os, h.tape, h.output, h.size, fun k hk _ => h.block k hk⟩
end Go.Proofs.YtajelkkiijdegaaGreat
set_option linter.unusedVariables false
set_option linter.unusedSimpArgs false
namespace Go.Proofs.YtajelkkiijdegaaGreat
open Go.RowKit
attribute [local go_sem] GW.cell GW.frozen In.eq_true In.le_true In.ne In.ne' In.ne_add In.ne_add' In.lt_add Upto.le_true Upto.le_add Upto.lt_add
end Go.Proofs.YtajelkkiijdegaaGreat
set_option linter.unusedVariables false
set_option linter.unusedSimpArgs false
namespace Go.Proofs.YtajelkkiijdegaaGreat
open Go.RowKit
attribute [local go_sem] GW.cell GW.frozen In.eq_true In.le_true In.ne In.ne' In.ne_add In.ne_add' In.lt_add Upto.le_true Upto.le_add Upto.lt_add
end Go.Proofs.YtajelkkiijdegaaGreat
set_option linter.unusedVariables false
set_option linter.unusedSimpArgs false
namespace Go.Proofs.YtajelkkiijdegaaGreat
open Go.RowKit
attribute [local go_sem] GW.cell GW.frozen In.eq_true In.le_true In.ne In.ne' In.ne_add In.ne_add' In.lt_add Upto.le_true Upto.le_add Upto.lt_add
end Go.Proofs.YtajelkkiijdegaaGreat
set_option linter.unusedVariables false
set_option linter.unusedSimpArgs false
namespace Go.Proofs.YtajelkkiijdegaaGreat
open Go.RowKit
attribute [local go_sem] GW.cell GW.frozen In.eq_true In.le_true In.ne In.ne' In.ne_add In.ne_add' In.lt_add Upto.le_true Upto.le_add Upto.lt_add
end Go.Proofs.YtajelkkiijdegaaGreat
