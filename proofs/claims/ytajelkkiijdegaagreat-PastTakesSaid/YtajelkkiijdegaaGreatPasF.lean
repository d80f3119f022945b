/-
  A helper of ours: no claim of its own. Layer 14 (past): a past in memory, whole; the clock moved on.
-/
import Derived.Test.YtajelkkiijdegaaGreatSchS
import Derived.Test.YtajelkkiijdegaaGreatArgV
import Derived.Test.YtajelkkiijdegaaGreatFolO
set_option linter.unusedVariables false
set_option linter.unusedSimpArgs false
namespace Go.Proofs.YtajelkkiijdegaaGreat
open Go.RowKit
attribute [local go_sem] GW.cell GW.frozen In.eq_true In.le_true In.ne In.ne' In.ne_add In.ne_add' In.lt_add Upto.le_true Upto.le_add Upto.lt_add
/-- The slice of a past's events, as it lies in the past. -/
def usl (w : World) (p : Nat) : Value := (w.cell? ⟨p, 4, none⟩).getD undef
/-- What holds no cells of a past's own stays; the blocks that are written; the events' own block. -/
structure Kq (p mb : Nat) (w w' : World) : Prop where
  typ : ∀ C T vs, Ob w C T vs → T ≠ 93 → T ≠ 103 → Ob w' C T vs
  blk : ∀ b obj, w.heap[b]? = some obj → b ∉ mb :: wrt p (usl w p) → w'.heap[b]? = some obj
  own : ∀ b, (usl w' p).ownBlock = some b → b ∈ wrt p (usl w p) ∨ w.heap.size ≤ b
  size : w.heap.size ≤ w'.heap.size
theorem Kq.trans {p mb : Nat} {a b c : World} (h : Kq p mb a b) (k : Kq p mb b c) : Kq p mb a c := ⟨fun C T vs o h1 h2 => k.typ C T vs (h.typ C T vs o h1 h2) h1 h2, fun x obj hx hn => by
  refine k.blk x obj (h.blk x obj hx hn) fun hm => ?_
  rcases List.mem_cons.1 hm with e | hm
  · exact hn (by rw [e]; simp)
  · rcases List.mem_cons.1 hm with e | hm
    · exact hn (by rw [e]; simp)
    · rcases h.own x (by simpa using hm) with h1 | h1
      · exact hn (List.mem_cons_of_mem _ h1)
      · have := lt_of_block hx; omega, fun y hy => by
  rcases k.own y hy with h1 | h1
  · rcases List.mem_cons.1 h1 with e | h1
    · exact .inl (by rw [e]; simp)
    · exact h.own y (by simpa using h1)
  · exact .inr (Nat.le_trans h.size h1), Nat.le_trans h.size k.size⟩
theorem usl_same {w w' : World} {p : Nat} (h : w'.heap[p]? = w.heap[p]?) : usl w' p = usl w p := by unfold usl; rw [World.cell?_of_block (a := ⟨p, 4, none⟩) h]
theorem kq_ext {p mb : Nat} {w w' : World} (hp : p < w.heap.size) (h : Ext w w') : Kq p mb w w' := ⟨fun C T vs o _ _ => o.ext h, fun b obj hb _ => (h.block b (lt_of_block hb)).trans hb, fun b hb => by
  rw [usl_same (h.block p hp)] at hb
  exact .inl (List.mem_cons_of_mem _ (by rw [hb]; simp)), h.size⟩
theorem own_kq {p mb : Nat} {w w' : World} {B e size n : Nat} {v : Value} {xs : List Value} (h : w.ownsRow B e size v n xs) (k : Kq p mb w w') (h1 : e ≠ 93) (h2 : e ≠ 103) : w'.ownsRow B e size v n xs := by
  refine ⟨h.1, h.2.imp id fun ⟨g, cap, cur, e', hb, hg, rest⟩ => ⟨g, cap, cur, e', hb, ?_, rest⟩⟩
  have h4 : Ob w g e cur.toList := by unfold Ob; rw [hg, Array.toArray_toList]
  have h5 := k.typ _ _ _ h4 h1 h2
  unfold Ob at h5
  rw [h5, Array.toArray_toList]
theorem pmv_fr {α : Type} {P : Program} {kt : TypeId} {f : α → Lit × Value} {b n : Nat} {M : List α} {w w' : World} {S : List Nat} (h : Mv w P kt f b n M) (k : Fr S w w') (hn : b ∉ S) : Mv w' P kt f b n M := by
  obtain ⟨es, ⟨e1, clock, hb, F, hs, hD⟩, p⟩ := h
  exact ⟨es, ⟨e1, clock, (k.block b (lt_of_block hb) hn).trans hb, F, hs, hD⟩, p⟩
theorem mv_ob {α : Type} {P : Program} {kt : TypeId} {f : α → Lit × Value} {b n : Nat} {M : List α} {w : World} (h : Mv w P kt f b n M) {C : Nat} {T : TypeId} {vs : List Value} (o : Ob w C T vs) : C ≠ b := by
  obtain ⟨es, ⟨e1, clock, hb, -⟩, -⟩ := h
  intro e
  subst e
  unfold Ob at o
  rw [o] at hb
  cases hb
section
variable {w : World} {base p : Nat} {sv : Value} {c ser : Int} {mb n : Nat} {u : Value} {L : List Pb}
theorem usl_of (hP : Pst w base p sv c ser mb u L) : usl w p = u := by unfold usl; rw [hP.ob.cell 4 rfl]; rfl
theorem ou_same {w : World} {p : Nat} {u : Value} : ∀ b, u.ownBlock = some b → b ∈ wrt p u ∨ w.heap.size ≤ b := fun b hb => .inl (List.mem_cons_of_mem _ (by rw [hb]; simp))
theorem ou_eq {w : World} {p : Nat} {u u' : Value} (e : u'.ownBlock = u.ownBlock) : ∀ b, u'.ownBlock = some b → b ∈ wrt p u ∨ w.heap.size ≤ b := fun b hb => .inl (List.mem_cons_of_mem _ (by rw [← e, hb]; simp))
theorem kq_fr {base' : Nat} {sv' u' : Value} {c' ser' : Int} {mb' : Nat} {L' : List Pb} {w' : World} (hP : Pst w base p sv c ser mb u L) (hP' : Pst w' base' p sv' c' ser' mb' u' L') {S : List Nat} (k : Fr S w w') (hS : ∀ b, b ∈ S → b ∈ wrt p u) (hu : ∀ b, u'.ownBlock = some b → b ∈ wrt p u ∨ w.heap.size ≤ b) : Kq p mb w w' := by
  refine ⟨fun C T vs o h1 h2 => ?_, fun b obj hb hn => ?_, fun b hb => ?_, k.size⟩
  · refine o.fr k fun hm => ?_
    rcases List.mem_cons.1 (hS _ hm) with e | e
    · exact Ob.ne o hP.ob h1 e
    · exact Ob.not_own o hP.own (fun e => h2 e.symm) (by simpa using e)
  · rw [usl_of hP] at hn
    exact (k.block b (lt_of_block hb) fun hm => hn (List.mem_cons_of_mem _ (hS b hm))).trans hb
  · rw [usl_of hP'] at hb
    rw [usl_of hP]
    exact hu b hb
theorem kq_mb {α : Type} {P : Program} {kt : TypeId} {f : α → Lit × Value} {M : List α} {n : Nat} {w' : World} (hP : Pst w base p sv c ser mb u L) (hM : Mv w P kt f mb n M) (k : Fr [mb] w w') : Kq p mb w w' := by
  have hpm : p ∉ [mb] := by simp; exact mv_ob hM hP.ob
  refine ⟨fun C T vs o _ _ => o.fr k (by simp; exact mv_ob hM o), fun b obj hb hn => (k.block b (lt_of_block hb) fun hm => hn (by rw [List.mem_singleton.1 hm]; simp)).trans hb, fun b hb => ?_, k.size⟩
  rw [usl_same (k.block p hP.ob.lt hpm)] at hb
  exact .inl (List.mem_cons_of_mem _ (by rw [hb]; simp))
theorem kq_map {α : Type} {P : Program} {kt : TypeId} {f : α → Lit × Value} {M : List α} {n : Nat} {w' : World} (hP : Pst w base p sv c ser mb u L) (hM : Mv w P kt f mb n M) (hg : w.grownBy w' (some mb)) : Kq p mb w w' :=
  kq_mb hP hM ((Fr.refl _ _).grown hg (fun z hz => by obtain rfl := Option.some.inj hz; exact .inl (by simp)))
theorem mb_wrt (hP : Pst w base p sv c ser mb u L) (hM : Mv w Tryz.prog 3 kentP mb n L) : mb ∉ wrt p u := fun hm => by
  rcases List.mem_cons.1 hm with e | e
  · exact mv_ob hM hP.ob e.symm
  · rcases hP.own.2 with ⟨h', h0⟩ | ⟨g, cap, cur, rfl, hb, hg, -⟩
    · subst h'; simp [Value.ownBlock] at e
    · have e1 : mb = g := by simp [Value.ownBlock] at e; first | exact e | exact e.symm
      have h4 : Ob w g 103 cur.toList := by unfold Ob; rw [hg, Array.toArray_toList]
      exact mv_ob hM h4 e1.symm
end
/-- A past in memory, with its schema and the rows of its events. -/
structure Pz (w : World) (base p : Nat) (sc : List Cl) (c ser : Int) (mb n : Nat) (L : List Pb) : Prop where
  st : ∃ sv u, Pst w base p sv c ser mb u L ∧ w.ownsRow 0 87 2 sv sc.length (cl sc)
  map : Mv w Tryz.prog 3 kentP mb n L
  rows : ∀ y ∈ L, RwO w y.2.2 y.1.2.1
theorem Mv.ext {α : Type} {P : Program} {kt : TypeId} {f : α → Lit × Value} {b n : Nat} {M : List α} {w w' : World} (h : Mv w P kt f b n M) (k : Ext w w') : Mv w' P kt f b n M := h.kept (row := none) ⟨k.os, k.tape, k.output, k.size, fun i hi _ => k.block i hi⟩ (by simp)
theorem Pz.ext {w w' : World} {base p : Nat} {sc : List Cl} {c ser : Int} {mb n : Nat} {L : List Pb} (h : Pz w base p sc c ser mb n L) (k : Ext w w') : Pz w' base p sc c ser mb n L := by
  obtain ⟨⟨sv, u, h1, h2⟩, h3, h4⟩ := h
  exact ⟨⟨sv, u, h1.ext k, own_ext h2 k⟩, Mv.ext h3 k, fun y hy => own_ext (h4 y hy) k⟩
theorem pkey_of {id : Int} (h : inI id) : keyOf Tryz.prog 3 (.int .i64 id) = some (.int .i64 id) := Go.Maps.keyOf_int_mk Tryz.underlying3 (by unfold inI at h; simp [Lit.wf, IntKind.min, IntKind.max]; first | omega | (simp [IntKind.wrap, IntKind.bits, IntKind.signed]; omega))
theorem pKey : Go.Maps.Keyed Tryz.prog 3 := Go.Maps.int_keyed Tryz.underlying3
def ptV : Option Pb → Value
  | some q => pp q.2.1
  | none => .pointer none
theorem plook_ok {w : World} {mb n : Nat} {L : List Pb} (h : Mv w Tryz.prog 3 kentP mb n L) {id : Int} (hi : inI id) : ∀ w' [Gn w w'], (Instr.lookup 88 (.map (some mb)) (.int .i64 id) true).run Tryz.prog w' = .ok (.tuple #[ptV (atP L id), .bool (atP L id).isSome]) w' := fun w' k => by
  rw [(Mv.ext h k.ext).lookOk pKey Tryz.underlying88 (Tryz.zeroValue103 w') (pkey_of hi)]
  show Result.ok (Value.tuple #[((atP L id).map fun q => (kentP q).2).getD (.pointer none), .bool (atP L id).isSome]) w' = _
  cases atP L id <;> rfl
section
variable {w : World} {base p : Nat} {sc : List Cl} {c ser : Int} {mb n : Nat} {L : List Pb}
set_option maxHeartbeats 2000000 in
theorem pserialOf_c (id : Int) (hi : inI id) (w : World) (h : Pz w base p sc c ser mb n L) (hs : 0 ≤ ser ∧ ser ≤ 1099511627776) : Calls Tryz.prog 44 #[.pointer (some ⟨p, 0, none⟩), .int .i64 id] w fun e w' => e = .returned (.int .i64 (match atP L id with | some y => (pSer y : Int) | none => ser + 1)) ∧ Ext w w' := by
  obtain ⟨⟨sv, u, hP, -⟩, hM, -⟩ := h
  have c2 := hP.ob.cell 2 rfl
  have c3 := hP.ob.cell 3 rfl
  have hl := plook_ok hM hi
  cases ho : atP L id with
  | none =>
    rw [ho] at hl
    replace hl : ∀ w' [Gn w w'], (Instr.lookup 88 (.map (some mb)) (.int .i64 id) true).run Tryz.prog w' = .ok (.tuple #[.pointer none, .bool false]) w' := hl
    clear hP hM ho
    simp only
    go_enter Tryz.func44, Tryz.ntmps44
    go_wp2_with fail
    go_returns
    exact ⟨rfl, Ext.refl _⟩
  | some y =>
    rw [ho] at hl
    replace hl : ∀ w' [Gn w w'], (Instr.lookup 88 (.map (some mb)) (.int .i64 id) true).run Tryz.prog w' = .ok (.tuple #[pp y.2.1, .bool true]) w' := hl
    have a1 := Ob.cell (hP.evs y (atP_some ho).1) 1 rfl
    clear hP hM ho
    simp only
    generalize y.2.1 = yb at *
    go_enter Tryz.func44, Tryz.ntmps44
    go_wp2_with fail
    go_returns
    exact ⟨rfl, Ext.refl _⟩
theorem del_drop {L : List Pb} (hi : Ids L) {k : Nat} {x : Pb} (hx : L[k]? = some x) : delP (L.drop k) (pId x) = L.drop (k + 1) := by
  have e : L.drop k = x :: L.drop (k + 1) := by
    obtain ⟨hk, ex⟩ := List.getElem?_eq_some_iff.1 hx
    rw [← ex, ← List.getElem_cons_drop]
  have h2 : Ids (L.drop k) := List.Pairwise.drop hi
  rw [e] at h2 ⊢
  exact del_mid (a := []) h2
set_option maxHeartbeats 4000000 in
set_option maxRecDepth 100000 in
theorem ppass_c (t : Int) (w : World) (h : Pz w base p sc c ser mb n L) (hs : Srt L) (hids : Ids L) (hin : ∀ y ∈ L, inI (pId y)) (hL : L.length ≤ 8192) (hbw : base ≤ w.heap.size) (hbm : base ≤ mb) (hbp : base ≤ p) :
    Calls Tryz.prog 41 #[.pointer (some ⟨p, 0, none⟩), .int .i64 t] w fun e w' => e = .returned (.tuple #[]) ∧ Pz w' base p sc t ser mb n (L.drop (ldN (fun y => decide (pTo y ≤ t)) L)) ∧ Kq p mb w w' ∧ Below base w w' := by
  obtain ⟨⟨sv, u, hP, hC⟩, hM, hR⟩ := h
  obtain ⟨W1, hW1⟩ : ∃ W1, W1 = w.setCell ⟨p, 1, none⟩ (.int .i64 t) := ⟨_, rfl⟩
  have hF1 : Fr [p] w W1 := by rw [hW1]; exact (Fr.refl _ w).setCell _ _ (.inl (by simp))
  have hpn := p_not_own hP
  have hP1 : Pst W1 base p sv t ser mb u L := ⟨by rw [hW1]; exact hP.ob.set 1 _, powns_fr hP.own hF1 (fun r hr => by simp; intro e; subst e; exact hpn hr), fun y hy => evb_fr (hP.evs y hy) hP hF1 (by simp)⟩
  have hK1 : Kq p mb w W1 := kq_fr hP hP1 hF1 (by simp) ou_same
  have hM1 : Mv W1 Tryz.prog 3 kentP mb n L := pmv_fr hM hF1 (by simp; exact fun e => mv_ob hM hP.ob e.symm)
  have hB1 : Below base w W1 := by rw [hW1]; exact Below.setCell (Below.refl _ _) hbp _
  have hcut := hide (pcut_c t W1 hP1 hs hL)
  have hm1 := ld_le (fun y => decide (pTo y ≤ t)) L
  obtain ⟨m, hmN⟩ : ∃ N, N = ldN (fun y => decide (pTo y ≤ t)) L := ⟨_, rfl⟩
  rw [← hmN] at hm1 ⊢
  simp only [← hmN] at hcut
  have f1 := hP.ob.free 1
  have c1 := hP.ob.cell 1 rfl
  haveI : In p w := ⟨hP.ob.lt⟩
  have hW1h := hide hW1
  have hMh := hide hM1
  have hRk := hide (fun (w2 : World) (hk : Kq p mb w w2) (y : Pb) (hy : y ∈ L) => (own_kq (hR y hy) hk (by decide) (by decide) : RwO w2 y.2.2 y.1.2.1))
  have hCk := hide (fun (w2 : World) (hk : Kq p mb w w2) => own_kq hC hk (by decide) (by decide))
  have hK1h := hide hK1
  have hB1h := hide hB1
  have hub := hide (fun b (hb : b ∈ wrt p u) => (show base ≤ b by
    rcases List.mem_cons.1 hb with rfl | hb
    · exact hbp
    · exact (hP.own.lt b (by simpa using hb)).1))
  have hP1h := hide hP1
  have hz1 : base ≤ W1.heap.size := by have := hF1.size; omega
  clear hP hM hR hC hK1 hB1 hP1 hM1 hF1 hW1 hpn hmN
  go_enter Tryz.func41, Tryz.ntmps41
  go_wp2_with fail
  rw [← hW1h.out]
  refine hcut.out.mono ?_
  rintro ee W2 ⟨vo, u', m', rfl, hm, hov, hP2, hF2, hub2⟩
  rw [hm] at hov hP2
  clear hm
  have hmt : (L.take m).length = m := by rw [List.length_take]; omega
  have hK2 := hide (hK1h.out.trans (kq_fr hP1h.out hP2 hF2 (fun _ h => h) (ou_eq hub2)))
  have hB2 : Hid (Below base w W2) := hB1h.out.trans (below_fr hF2 hz1 hub.out)
  have hM2 := hide (pmv_fr hMh.out hF2 (mb_wrt hP1h.out hMh.out))
  rw [hmt] at hov
  obtain ⟨A2, cap2, hu2⟩ := own_form hov
  subst hu2
  have hevs := hide (fun y (hy : y ∈ L) => evb_fr (hP1h.out.evs y hy) hP1h.out hF2 (fun _ h => h))
  replace hov := hide hov
  replace hP2 := hide hP2
  clear hF2 hub2 hcut
  go_wp2_with fail
  go_loopg [16] m (fun gh iv wr => ∃ (k : Nat), iv = .int .i64 k ∧ k + gh = m ∧ Hid (Mv wr Tryz.prog 3 kentP mb n (L.drop k)) ∧ Hid (Fr [mb] W2 wr))
  case atStart => exact ⟨0, rfl, by omega, by show Mv _ _ _ _ _ _ _; rw [List.drop_zero]; exact hM2.out, Fr.refl _ _⟩
  case round =>
    obtain ⟨k, rfl, hk, hMk, hFk⟩ := hrel
    by_cases hlt : k < m
    · obtain ⟨y, hy⟩ : ∃ y, L[k]? = some y := ⟨_, List.getElem?_eq_getElem (by omega)⟩
      have hym := List.mem_of_getElem? hy
      have hdd := hide (del_drop hids hy)
      have hcell : ∃ g, A2 = some ⟨g, 0, none⟩ ∧ g < wr.heap.size ∧ wr.cell? ⟨g, k, none⟩ = some (pp y.2.1) := by
        rcases hov.out.2 with ⟨h', h0⟩ | ⟨g, cap, cur, h', hb, hg, hnc, -⟩
        · omega
        · simp only [Value.slice.injEq] at h'
          obtain ⟨rfl, -, rfl⟩ := h'
          have hc := World.ownsRow.cellAt hov.out k (by omega)
          have hg2 := (World.ownsRow.lt hov.out g rfl).2
          have h4 : Ob W2 g 103 cur.toList := by unfold Ob; rw [hg, Array.toArray_toList]
          have hgm : g ∉ [mb] := by simp; exact mv_ob hM2.out h4
          refine ⟨g, rfl, Nat.lt_of_lt_of_le hg2 hFk.out.size, ?_⟩
          rw [World.cell?_of_block (a := ⟨g, k, none⟩) (hFk.out.block g hg2 hgm), hc]
          simp [tg1, blks, List.getElem?_take, hlt, hy]
      obtain ⟨g, rfl, hgl, cg⟩ := hcell
      have hev : Evb wr y := Ob.fr (hevs.out y hym) hFk.out (by simp; exact mv_ob hM2.out (hevs.out y hym))
      have hob : Ob wr p 93 _ := hP2.out.ob.fr hFk.out (by simp; exact mv_ob hM2.out hP2.out.ob)
      have a0 := Ob.cell hev 0 rfl
      have p3 := hob.cell 3 rfl
      haveI : In p wr := ⟨hob.lt⟩
      haveI : In y.2.1 wr := ⟨Ob.lt hev⟩
      haveI : In g wr := ⟨hgl⟩
      have hid := hide (hin y hym)
      have hkI : (k : Int) < m := by omega
      clear hy hev hob hym
      generalize y.2.1 = yb at *
      go_wp2_with fail
      refine wp_region_gw_tail 8 (by kernel_rfl) (by kernel_rfl) ?_
      simp only [List.take_succ_cons, List.take_zero, List.drop_succ_cons, List.drop_zero]
      repeat (go_big_quiet_step (fail))
      refine wpQuiet_nil ?_
      intro g1
      have hMg := hide (Mv.ext hMk.out g1.grown)
      go_wp2_with (at_delete; refine wpl_mdel rfl (.tmp 23) (.tmp 27) rfl rfl rfl pKey Tryz.underlying88 hMg.out (pkey_of hid.out) ?_; intro w5 hM5 hg5; replace hM5 := hide hM5; have hF5 := hide ((hFk.out.trans (Fr.of_ext g1.grown)).grown hg5 (fun z hz => by obtain rfl := Option.some.inj hz; exact .inl (by simp))))
      go_roundg (m - (k + 1))
      case measure => omega
      case rel => exact ⟨k + 1, by go_num, by omega, (by show Mv _ _ _ _ _ _ _; rw [← hdd.out]; exact hM5.out), hF5⟩
    · have hke : k = m := by omega
      subst hke
      have hge : ¬ (k : Int) < k := by omega
      have hKf := hide (hK2.out.trans (kq_mb hP2.out hM2.out hFk.out))
      have hBf := hide (hB2.out.trans (below_fr hFk.out (by have := hB2.out.size; omega) (by simp; exact hbm)))
      have hPf : Hid (Pst wr base p sv t ser mb u' (L.drop k)) := ⟨hP2.out.ob.fr hFk.out (by simp; exact mv_ob hM2.out hP2.out.ob), powns_fr hP2.out.own hFk.out (fun r hr => by
        simp
        rcases hP2.out.own.2 with ⟨h', h0⟩ | ⟨g, cap, cur, h', hb, hg, -⟩
        · rw [h'] at hr; simp [Value.ownBlock] at hr
        · rw [h'] at hr
          have h4 : Ob W2 g 103 cur.toList := by unfold Ob; rw [hg, Array.toArray_toList]
          have e1 : g = r := by simpa [Value.ownBlock] using hr
          rw [← e1]
          exact mv_ob hM2.out h4), fun y hy => Ob.fr (hP2.out.evs y hy) hFk.out (by simp; exact mv_ob hM2.out (hP2.out.evs y hy))⟩
      go_wp2_with fail
      go_end0
      exact ⟨rfl, ⟨⟨sv, u', hPf.out, hCk.out _ hKf.out⟩, hMk.out, fun y hy => hRk.out _ hKf.out y (List.mem_of_mem_drop hy)⟩, hKf.out, hBf.out⟩
end
end Go.Proofs.YtajelkkiijdegaaGreat
