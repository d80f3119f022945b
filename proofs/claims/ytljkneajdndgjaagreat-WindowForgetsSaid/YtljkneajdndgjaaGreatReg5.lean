/-
  A helper of ours: no claim of its own. As XReg2, where what is known of the objects hangs also on the value of one slot; in a round of a range over a function.
-/
import Derived.Test.YtljkneajdndgjaaGreatMapV
import Derived.Test.YtljkneajdndgjaaGreatHopR
import Derived.Test.YtljkneajdndgjaaGreatEdgGs
import Derived.Test.YtljkneajdndgjaaGreatCouK
import Derived.Test.YtljkneajdndgjaaGreatEdgEn
import Derived.Sort.LoopGhostIn
import Derived.Test.YtljkneajdndgjaaGreatReg
set_option linter.unusedVariables false
set_option linter.unusedSimpArgs false
namespace Go.Proofs.YtljkneajdndgjaaGreat
open Go.RowKit
attribute [local go_sem] GW.cell GW.frozen In.eq_true In.le_true In.ne In.ne' In.ne_add In.ne_add' In.lt_add Upto.le_true Upto.le_add Upto.lt_add Oper.semAt_some wide_depth wide_fn
theorem sl_lit (w : World) (E sz : Nat) (xs : List Value) (h : xs.length = sz) : Sl (w.alloc (.cells xs.toArray E)) [] sz (.slice (some ⟨w.heap.size, 0, none⟩) 1 1) 1 xs :=
  ⟨_, 1, rfl, Nat.le_refl _, by unfold maxLen; omega, by omega, .inr ⟨w.heap.size, 0, rfl, by simp, fun j u hu => by rw [Nat.zero_add]; exact (Ob.new w E xs).cell j hu⟩⟩
theorem ob_objS {w : World} {base e size n : Nat} {v : Value} {xs : List Value} (h : w.ownsRow base e size v n xs) : ∀ y ∈ ob v, ∃ T vs, Ob w y T vs := by
  intro y hy
  have hy' : v.ownBlock = some y := Option.mem_toList.1 hy
  rcases h.2 with ⟨rfl, _⟩ | ⟨g, cap, cur, rfl, hb, hg, _⟩
  · cases hy'
  · have : y = g := by simpa [Value.ownBlock] using hy'.symm
    subst this
    exact ⟨e, cur.toList, by unfold Ob; simpa using hg⟩
/-- A row and its function, as they lie. -/
abbrev Vk := Value × Value × Gp
def kc1 (p : Vk) : List Value := [p.1, p.2.1]
def kc (L : List Vk) : List Value := L.flatMap kc1
abbrev kgp (L : List Vk) : List Gp := L.map fun p => p.2.2
theorem kc_append (L M : List Vk) : kc (L ++ M) = kc L ++ kc M := by simp [kc]
theorem kc_cons (p : Vk) (L : List Vk) : kc (p :: L) = kc1 p ++ kc L := by simp [kc]
theorem kc_get : ∀ (L : List Vk) (i : Nat) (p : Vk), L[i]? = some p → ∀ j v, (kc1 p)[j]? = some v → (kc L)[i * 2 + j]? = some v
  | q :: r, 0, p, h, j, v, hv => by
    simp at h; subst h
    have hj : j < (kc1 q).length := (List.getElem?_eq_some_iff.1 hv).1
    rw [kc_cons, List.getElem?_append_left (by omega), show 0 * 2 + j = j by omega]; exact hv
  | q :: r, i + 1, p, h, j, v, hv => by
    have := kc_get r i p (by simpa using h) j v hv
    rw [kc_cons, show (i + 1) * 2 + j = (kc1 q).length + (i * 2 + j) by simp [kc1]; omega, List.getElem?_append_right (by omega), Nat.add_sub_cancel_left]
    exact this
theorem tKr : ElemT Tryz.prog 145 147 (.agg #[.slice none 0 0, .slice none 0 0]) 2 48 := ElemT.mk' Tryz.underlying145 (by kernel_rfl) rfl (by omega)
def OwnK (w : World) (B : Nat) (v : Value) (L : List Vk) : Prop := w.ownsRow B 147 2 v L.length (kc L) ∧ ∀ p ∈ L, OwnR w 0 p.1 p.2.2.1 ∧ OwnJ w 0 p.2.1 p.2.2.2
theorem OwnK.nil (w : World) (B : Nat) : OwnK w B (.slice none 0 0) [] := ⟨World.ownsRow_nil _ _ _ _, by simp⟩
theorem OwnK.ext {w w' : World} {B : Nat} {v : Value} {L : List Vk} (h : OwnK w B v L) (k : Ext w w') : OwnK w' B v L := ⟨own_ext h.1 k, fun p hp => ⟨own_ext (h.2 p hp).1 k, own_ext (h.2 p hp).2 k⟩⟩
theorem OwnK.stab (B : Nat) (B0 : Nat) (v : Value) (L : List Vk) : Stab B fun W => OwnK W B0 v L :=
  (Stab.own _ _ _ _ _ _).and (Stab.all fun p => Stab.all fun _ => (Stab.own _ _ _ _ _ _).and (Stab.own _ _ _ _ _ _))
/-- Rows and functions stay where blocks of neither kind are turned. -/
theorem ok_away {w w' : World} {S : List Nat} {r f : Value} {x : Gp} (h : OwnR w 0 r x.1 ∧ OwnJ w 0 f x.2) (hF : Fr S w w') (hS : ∀ b ∈ S, ∀ cs c, w.heap[b]? ≠ some (.cells cs 64 c) ∧ w.heap[b]? ≠ some (.cells cs 125 c)) : OwnR w' 0 r x.1 ∧ OwnJ w' 0 f x.2 :=
  ⟨own_away h.1 hF fun b hb hb2 => by obtain ⟨cs, c, hc⟩ := own_kind h.1 hb2; exact (hS b hb cs c).1 hc, own_away h.2 hF fun b hb hb2 => by obtain ⟨cs, c, hc⟩ := own_kind h.2 hb2; exact (hS b hb cs c).2 hc⟩
theorem no_kind {w : World} {b : Nat} {cs : Array Value} {T : TypeId} {c : Nat × Nat} (h : w.heap[b]? = some (.cells cs T c)) {E : TypeId} (hT : T ≠ E) : ∀ ds d, w.heap[b]? ≠ some (.cells ds E d) := by
  intro ds d hd
  rw [h] at hd
  injection hd with hd
  injection hd with _ hd
  exact hT hd
/-- Blocks that are none of the loop's. -/
def Fbk (bx : Nat) (b : Nat) (W : World) : Prop := ∃ mv, Ob W bx 145 [mv] ∧ (b ≠ bx ∧ (mv.ownBlock ≠ some b ∧ b < W.heap.size))
theorem Fbk.stab (B bx b : Nat) : Stab B (Fbk bx b) := Stab.ex fun mv => (Stab.ob _ _ _).and ((Stab.pure _).and ((Stab.pure _).and ⟨fun A C h e => Nat.lt_of_lt_of_le h e.size, fun A l o o' h _ _ _ => by simpa using h⟩))
abbrev Ik (w : World) (b3 B0 : Nat) (G : List Gp) (k : Nat) (W : World) : Prop :=
  (∃ mv, ∃ M : List Vk, Ob W b3 145 [mv] ∧ (OwnK W B0 mv M ∧ kgp M = G.take k)) ∧ (Ext w W ∧ B0 ≤ W.heap.size)
theorem Ik.stab (w : World) (b3 B0 : Nat) (G : List Gp) (k B : Nat) (hB : w.heap.size ≤ B) : Stab B (Ik w b3 B0 G k) :=
  (Stab.ex fun mv => Stab.ex fun M => (Stab.ob _ _ _).and ((OwnK.stab _ _ _ _).and (Stab.pure _))).and ((Stab.of_ext hB).and ⟨fun A C h e => Nat.le_trans h e.size, fun A l o o' h _ _ _ => by simpa using h⟩)
set_option maxHeartbeats 8000000 in
set_option maxRecDepth 100000 in
theorem rowsOf_c (L : List Ve) (hm : mayE (eds L) = true) (v : Value) (w : World) (hC : Ew w [] v L) : Calls Tryz.prog 72 #[v] w fun e w' => ∃ b mv M, e = .returned (.func (.func 118) #[] #[.pointer (some ⟨b, 0, none⟩)]) ∧ Ob w' b 145 [mv] ∧ OwnK w' w.heap.size mv M ∧ kgp M = grp (eds L) ∧ Ext w w' := by
  have hgr := hide (fun w' (hX : Ext w w') => groups_c L v w' (hC.ext hX))
  obtain ⟨A, cap, rfl, hlc, hlm, -⟩ := ew_form hC
  unfold maxLen at hlm
  clear hC
  have hGm : Hid (∀ g ∈ grp (eds L), g.1.length ≤ 8) := grp_r8 hm
  have hLl : L.length ≤ 4096 := by have := mayE_len hm; simpa [eds] using this
  have hgl : (grp (eds L)).length ≤ 4096 := by have := grp_len2 (eds L); rw [show (eds L).length = L.length from List.length_map _] at this; omega
  refine calls_marks Tryz.func72 rfl ?_
  simp only [Tryz.ntmps72, List.size_toArray, List.length_cons, List.length_nil, Nat.reduceAdd, Nat.reduceSub, Array.replicate_succ, Array.replicate_zero, List.push_toArray, List.append_toArray, List.nil_append, List.cons_append]
  go_wp2_with (go_at_call 106; refine (hgr.out _ ((Ext.refl w).alloc _)).mono ?_; rintro ee w1 ⟨b, rfl, v1, M, hb, hM, hMe, hX1⟩)
  rw [if_pos hm] at hM
  have p3 : Ob w1 w.heap.size 145 [.slice none 0 0] := (Ob.new w 145 [.slice none 0 0]).ext hX1
  have hXw : Ext w w1 := ((Ext.refl w).alloc _).trans hX1
  have hzw := hXw.size
  have hzw1 := p3.lt
  obtain ⟨b3, hb3⟩ : ∃ b3, b3 = w.heap.size := ⟨_, rfl⟩
  rw [← hb3] at p3 hzw1 ⊢
  have hb3w : w.heap.size ≤ b3 := by omega
  replace hb3 := hide hb3
  clear hgr hX1
  have hMx := hide (ew_box hMe p3)
  rw [← hM] at hGm hgl
  have hML : M.length ≤ 4096 := by have := congrArg List.length hM; simp only [eds, List.length_map] at this; omega
  replace hM := hide hM
  refine wp_rangeX2 (X := [b3]) (xs := grp (eds M)) rfl (enters_of Tryz.func146 (by kernel_rfl) rfl) (groups_seqx [b3] M v1 w1 w1 b hMx.out (by omega) (fun g hg => Nat.le_trans (hGm.out g hg) (by omega)) (Ext.refl _) hb) (Ext.refl _) (Nat.le_refl _) (fun x vs W h => h.size) (fun x vs => Hgg.stab x vs)
    (Fbk b3) (fun b => Fbk.stab _ b3 b) (Ik w b3 w1.heap.size (grp (eds M)))
    (fun k A o ⟨⟨mv, N, o1, o2, _⟩, _⟩ => ⟨mv, o1.alloc o, (by have := o1.lt; omega), (fun h => by have := (World.ownsRow.lt o2.1 _ h).2; omega), by simp⟩)
    (fun c k W => False)
    (fun k => Ik.stab w _ _ _ k _ hzw)
    (fun c k => Stab.pure _)
    ⟨⟨_, [], p3, OwnK.nil _ _, by simp⟩, hXw, Nat.le_refl _⟩
    (fun k x vs a' _ => ∃ r f, vs = #[r, f] ∧ a' = { tmps := #[.slice A L.length cap, undef, Value.nilFunc, .pointer (some ⟨b3, 0, none⟩), r, f, .slice A L.length cap, .func (.func 146) #[] #[.pointer (some ⟨b, 0, none⟩)], r, f, undef, undef, undef, undef, undef, undef, undef], defers := [] })
    (fun k x vs a' => Stab.pure _) ?assign ?body ?done ?stop
  case assign =>
    rintro LL k x vs W K _ ⟨r, f, rfl, -, -⟩ hK
    gi_wp2
    exact hK _ _ (Ext.refl _) ⟨r, f, rfl, rfl⟩
  case body =>
    rintro LL k x vs a' W hx ⟨⟨mv, N, o3, hNo, hNe⟩, hXk, h1W⟩ ⟨r', f', e', hr, hf⟩ ⟨r, f, rfl, rfl⟩
    obtain ⟨rfl, rfl⟩ : r = r' ∧ f = f' := by simpa using e'
    have hNl : N.length = ((grp (eds M)).take k).length := by rw [← hNe]; simp
    have hkl : k < (grp (eds M)).length := (List.getElem?_eq_some_iff.1 hx).1
    rw [List.length_take] at hNl
    have hNl2 : N.length ≤ 4096 := by omega
    clear hNl hkl
    have hnx := hide (show (grp (eds M)).take (k + 1) = (grp (eds M)).take k ++ [x] by rw [List.take_add_one, hx]; rfl)
    obtain ⟨RA, rcap, rfl⟩ := own_form hr
    obtain ⟨JA, jcap, rfl⟩ := own_form hf
    have hno := Ob.not_own o3 hNo.1 (by decide)
    have hobN := ob_ge hNo.1
    have k3 := o3.cell 0 rfl
    have l3 := o3.lt
    haveI : In b3 W := ⟨l3⟩
    have hNo' := hide hNo
    have o3' := hide o3
    have hXk' := hide hXk
    have hr' := hide hr
    have hf' := hide hf
    obtain ⟨MA, mcap, rfl⟩ := own_form hNo.1
    clear hNo o3 hXk hr hf hx
    replace hNe := hide hNe
    gi_wp2_with (refine wplIn_app tKr rfl (.tmp 10) (.tmp 14) rfl rfl (own_ext hNo'.out.1 ((Ext.refl W).alloc _)) rfl (src_sl Tryz.underlying145 (sl_lit W 147 2 [.slice RA x.1.length rcap, .slice JA x.2.length jcap] rfl) (by intro u hu; simp at hu; rcases hu with rfl | rfl <;> rfl) (by omega)) (by unfold maxLen; omega) (by omega) (by simp only [World.size_alloc]; omega) ?_; intro v8 w8 ho8 hg8 hob8; have o8 := (o3'.out.alloc (.cells #[.slice RA x.1.length rcap, .slice JA x.2.length jcap] 147)).grown hg8 (Ne.symm hno); have k8 := o8.cell 0 rfl; have fr8 := o8.free 0; have l8 := o8.lt; haveI : In b3 w8 := ⟨l8⟩; replace o8 := hide o8; obtain ⟨A8, c8, q8⟩ := own_form ho8; subst q8)
    have hF : Fr (b3 :: ob (.slice MA N.length mcap)) W (w8.setCell ⟨b3, 0, none⟩ (.slice A8 (N.length + 1) c8)) := ((((Fr.refl _ W).alloc _).grown hg8 (fun j hj => .inl (List.mem_cons_of_mem _ (Option.mem_toList.2 hj)))).setCell ⟨b3, 0, none⟩ _ (.inl (by simp)))
    have hS : ∀ y ∈ b3 :: ob (.slice MA N.length mcap), y = b3 ∨ w1.heap.size ≤ y := fun y hy => (List.mem_cons.1 hy).imp id (fun h => (hobN y h).1)
    have hkd : ∀ y ∈ b3 :: ob (.slice MA N.length mcap), ∀ cs c, W.heap[y]? ≠ some (.cells cs 64 c) ∧ W.heap[y]? ≠ some (.cells cs 125 c) := fun y hy cs c => by
      rcases List.mem_cons.1 hy with rfl | hy
      · exact ⟨no_kind o3'.out (by decide) cs c, no_kind o3'.out (by decide) cs c⟩
      · obtain ⟨ds, d, hd⟩ := own_kind hNo'.out.1 hy
        exact ⟨no_kind hd (by decide) cs c, no_kind hd (by decide) cs c⟩
    have o9 := o8.out.set 0 (.slice A8 (N.length + 1) c8)
    have hown : OwnK (w8.setCell ⟨b3, 0, none⟩ (.slice A8 (N.length + 1) c8)) w1.heap.size (.slice A8 (N.length + 1) c8) (N ++ [(.slice RA x.1.length rcap, .slice JA x.2.length jcap, x)]) := by
      refine ⟨?_, fun p hp => ?_⟩
      · have h1 := own_fr ho8 ((Fr.refl [b3] w8).setCell ⟨b3, 0, none⟩ (.slice A8 (N.length + 1) c8) (.inl (by simp))) (by intro y hy; rw [List.mem_singleton.1 hy]; exact hzw1)
        rw [List.length_append, kc_append]
        simpa [kc, kc1] using h1
      · rcases List.mem_append.1 hp with hp | hp
        · exact ok_away (hNo'.out.2 p hp) hF hkd
        · obtain rfl := List.mem_singleton.1 hp
          exact ok_away ⟨hr'.out, hf'.out⟩ hF hkd
    refine ⟨keeps_fr hF (fun y hy => ?_), belX_fr hF h1W (fun y hy => ?_), ⟨⟨_, _, o9, hown, ?_⟩, ext_fr hXk'.out hF (fun y hy => ?_), Nat.le_trans h1W hF.size⟩, ?_⟩
    · rcases List.mem_cons.1 hy with rfl | hy
      · exact ⟨_, _, o3'.out⟩
      · exact ob_objS hNo'.out.1 y hy
    · rcases hS y hy with h | h
      · exact .inr (by simp [h])
      · exact .inl h
    · rw [hnx.out, ← hNe.out]
      simp
    · rcases hS y hy with h | h <;> omega
    · rintro y T us ⟨mv0, om, hy1, hy2, hy3⟩ oy
      obtain rfl : mv0 = .slice MA N.length mcap := by
        have e1 := om
        unfold Ob at e1
        have e2 := o3'.out
        unfold Ob at e2
        rw [e2] at e1
        simpa using e1.symm
      have hyS : y ∉ b3 :: ob (.slice MA N.length mcap) := by
        intro h
        rcases List.mem_cons.1 h with h | h
        · exact hy1 h
        · exact hy2 (Option.mem_toList.1 h)
      refine ⟨⟨_, o9, hy1, fun h => ?_, by have := hF.size; omega⟩, oy.fr hF hyS⟩
      rcases hob8 with h8 | h8
      · exact hy2 (h8.symm.trans h)
      · rw [h] at h8
        simp only [World.size_alloc, Option.some.injEq] at h8
        omega
  case done =>
    rintro D W hD ⟨⟨mv, N, o3, hNo, hNe⟩, hXk, h1W⟩ hK
    rw [List.take_length] at hNe
    have l3 := o3.lt
    haveI : In b3 W := ⟨l3⟩
    have o3' := hide o3
    have hNo' := hide hNo
    have hXk' := hide hXk
    have hK' := hide hK
    replace hNe := hide hNe
    clear o3 hNo hXk hK
    go_wp2_with fail
    have o4 := ob_put (o' := .deferred none) hK'.out rfl o3'.out
    refine ret_mark hK'.out (v := .func (.func 118) #[] #[.pointer (some ⟨b3, 0, none⟩)]) ?_ ⟨b3, mv, N, rfl, o4, ?_, by rw [hNe.out, hM.out], put_ext hXk'.out (by omega) _⟩
    · simp [results, Tryz.f72, go_sem]
    · have := (OwnK.stab (B := 0) w1.heap.size mv N).put _ D _ (.deferred none) hNo'.out (Nat.zero_le _) hK'.out rfl
      exact ⟨own_base this.1 hzw, this.2⟩
  case stop =>
    rintro D c k W hD hk h
    exact h.elim
end Go.Proofs.YtljkneajdndgjaaGreat
set_option linter.unusedVariables false
set_option linter.unusedSimpArgs false
namespace Go.Proofs.YtljkneajdndgjaaGreat
open Go.RowKit
attribute [local go_sem] GW.cell GW.frozen In.eq_true In.le_true In.ne In.ne' In.ne_add In.ne_add' In.lt_add Upto.le_true Upto.le_add Upto.lt_add
theorem tCp : ElemT Tryz.prog 50 56 (.agg #[.slice none 0 0, .int .i64 0]) 2 32 := ElemT.mk' Tryz.underlying50 (by kernel_rfl) rfl (by omega)
/-- One more copy. -/
theorem OwnC.app {w w' : World} {B : Nat} {v v' : Value} {C : List Vc} {c : Vc} {u : Value} {cs : List Value} {cap : Nat} (h : OwnC w B v C) (hF : Fr (ob v) w w') (ho : w'.ownsRow B 56 2 v' (C.length + 1) (cc C ++ cc1 c)) (hc : OwnR w 0 c.1 c.2.1) : OwnC w' B v' (C ++ [c]) := by
  refine ⟨by rw [List.length_append, cc_append]; simpa [cc] using ho, fun p hp => ?_⟩
  rcases List.mem_append.1 hp with hp | hp
  · exact own_away (h.2 p hp) hF (own_far h.1 (h.2 p hp) (by decide))
  · obtain rfl := List.mem_singleton.1 hp
    exact own_away hc hF (own_far h.1 hc (by decide))
set_option maxHeartbeats 8000000 in
set_option maxRecDepth 100000 in
theorem rowsAt_c (M : List Vk) (mv : Value) (b B0 : Nat) (t : Int) (w : World) (hb : Ob w b 145 [mv]) (hK : OwnK w B0 mv M) (hM : M.length ≤ 4096) : Calls Tryz.prog 118 #[.int .i64 t, .pointer (some ⟨b, 0, none⟩)] w fun e w' => ∃ v' C, e = .returned v' ∧ cps C = alG (kgp M) t ∧ OwnC w' w.heap.size v' C ∧ Ext w w' := by
  obtain ⟨MA, mcap, rfl⟩ := own_form hK.1
  have c0 := hb.cell 0 rfl
  have hlt := hb.lt
  have hK' := hide hK
  haveI : In b w := ⟨hlt⟩
  clear hb hK
  go_enter Tryz.func118, Tryz.ntmps118
  go_wp2_with fail
  go_loopg [4, 10] M.length (fun gh u i wr => ∃ (k : Nat) (C : List Vc), i = .int .i64 k ∧ k + gh = M.length ∧ Hid (OwnC wr w.heap.size u C) ∧ Hid (cps C = alG ((kgp M).take k) t) ∧ C.length ≤ k ∧ Hid (Ext w wr))
  case atStart => exact ⟨0, [], by go_num, by omega, OwnC.nil _ _, rfl, by simp, Ext.refl w⟩
  case round =>
    obtain ⟨k, C, rfl, hk, hO, hcp, hCl, hX⟩ := hrel
    obtain ⟨CA, ccap, rfl⟩ := hO.out.form
    by_cases hlt2 : k < M.length
    · obtain ⟨⟨r, f, x⟩, hd⟩ : ∃ p, M[k]? = some p := ⟨_, List.getElem?_eq_getElem hlt2⟩
      have hKr := hK'.out.ext hX.out
      obtain ⟨g, mc, eg, -, hgl⟩ := own_block2 hKr.1 (by omega)
      simp only [Value.slice.injEq] at eg
      obtain ⟨rfl, -, rfl⟩ := eg
      have q0 := World.ownsRow.cellAt hKr.1 (k * 2) (by omega)
      have q1 := World.ownsRow.cellAt hKr.1 (k * 2 + 1) (by omega)
      have q2 := kc_get M k _ hd 0 r rfl
      rw [Nat.add_zero] at q2
      rw [q2] at q0
      rw [kc_get M k _ hd 1 f rfl] at q1
      obtain ⟨hr, hf⟩ := hKr.2 _ (List.mem_of_getElem? hd)
      simp only at hr hf
      obtain ⟨RA, rcap, rfl⟩ := own_form hr
      obtain ⟨JA, jcap, rfl⟩ := own_form hf
      have hgk : (kgp M)[k]? = some x := by rw [List.getElem?_map, hd]; rfl
      have hnx := hide (alG_next hgk t)
      obtain ⟨n, hn⟩ : ∃ n, n = atV x.2 t := ⟨_, rfl⟩
      have hat := hide (fun w' (hX' : Ext wr w') => stepAt_c x.2 t (.slice JA x.2.length jcap) w' (Sl.ext (own_jw (S := []) hf (by simp)) hX'))
      rw [← hn] at hat hnx
      haveI : In g wr := ⟨hgl⟩
      have hr' := hide hr
      have hobC := hide (ob_ge hO.out.1)
      have hXa := hide (((Ext.refl wr).alloc (.cells #[.slice RA x.1.length rcap, .slice JA x.2.length jcap] 147)))
      have hA1 : Ob (wr.alloc (.cells #[.slice RA x.1.length rcap, .slice JA x.2.length jcap] 147)) wr.heap.size 147 [.slice RA x.1.length rcap, .slice JA x.2.length jcap] := Ob.new wr _ [_, _]
      clear hd hKr q2 hr hf hgk
      replace hn := hide hn
      by_cases hpos : 0 < n
      · rw [if_pos hpos] at hnx
        go_wp2_with (first | (go_at_call 119; (with_reducible refine seq_gw (hat.out _ hXa.out) ?_); intro g1; have hXg := hide (hXa.out.trans g1.grown); have hO1 := hide (hO.out.ext hXg.out); have hr1 := hide (own_ext hr'.out hXg.out); have p0 := (hA1.ext g1.grown).cell 0 rfl; have p1 := (hA1.ext g1.grown).lt; (haveI : In wr.heap.size g1.val := ⟨p1⟩)) | (at_builtin; refine wpl_app tCp rfl (.tmp 20) (.tmp 25) rfl rfl (own_ext hO1.out.1 ((Ext.refl g1.val).alloc _)) rfl (src_sl Tryz.underlying50 (sl_lit g1.val 56 2 [.slice RA x.1.length rcap, .int .i64 n] rfl) (by intro u hu; simp at hu; rcases hu with rfl | rfl <;> rfl) (by omega)) (by unfold maxLen; omega) (by omega) (by simp only [World.size_alloc]; have := hXg.out.size; have := hX.out.size; omega) ?_; intro v8 w8 ho8 hg8 hob8; have ho9 := hide ho8; have hg9 := hide hg8; obtain ⟨A8, c8, q8⟩ := own_form ho8; subst q8; clear ho8 hg8 hob8))
        have hF9 : Fr (ob (.slice CA C.length ccap)) g1.val w8 := ((Fr.refl _ _).alloc _).grown hg9.out (fun j hj => .inl (Option.mem_toList.2 hj))
        go_roundg (M.length - (k + 1))
        case measure => omega
        case rel =>
          refine ⟨k + 1, C ++ [(.slice RA x.1.length rcap, x.1, n)], by go_num, by omega, OwnC.app (cs := []) (cap := 0) (u := undef) hO1.out hF9 (by simpa [cc1] using ho9.out) hr1.out, ?_, by simp; omega, ext_fr (hX.out.trans hXg.out) hF9 (fun y hy => (hobC.out y hy).1)⟩
          show _ = _
          rw [hnx.out, ← hcp.out]
          simp
      · rw [if_neg hpos] at hnx
        go_wp2_with (go_at_call 119; (with_reducible refine seq_gw (hat.out _ hXa.out) ?_); intro g1; have hXg := hide (hXa.out.trans g1.grown))
        go_roundg (M.length - (k + 1))
        case measure => omega
        case rel => exact ⟨k + 1, C, by go_num, by omega, hO.out.ext hXg.out, (by show _ = _; rw [hnx.out, List.append_nil]; exact hcp.out), by omega, hX.out.trans hXg.out⟩
    · have hkM : k = M.length := by omega
      have hfin := hide (show cps C = alG (kgp M) t by rw [hcp.out, List.take_of_length_le (by simp; omega)])
      clear hcp
      go_wp2_with fail
      go_returns
      exact ⟨_, C, rfl, hfin.out, hO.out, hX.out⟩
end Go.Proofs.YtljkneajdndgjaaGreat
set_option linter.unusedVariables false
set_option linter.unusedSimpArgs false
namespace Go.Proofs.YtljkneajdndgjaaGreat
open Go.RowKit

section
variable {P : Program} {ops : Array Oper} {Φ : Nat → Value → World → Prop} {Q : Exit → Act → World → Prop} {a : Act} {W : World} {G : World → World → Prop} {J : (Nat → Bool) → World → Prop} {K : List Nat}

def done (Lf : Nat → Bool) (i : Nat) : Nat → Bool := fun j => if j = i then true else Lf j
structure RAt2 (ops : Array Oper) (Φ : Nat → Value → World → Prop) (G : World → World → Prop) (J : (Nat → Bool) → World → Prop) (a : Act) (W : World) (i : Nat) (Lf : Nat → Bool) (b : Act) (w : World) : Prop where
  ext : G W w
  defers : b.defers = a.defers
  size : b.tmps.size = a.tmps.size
  else_ : ∀ t, t ∉ dstsOf ops → b.tmps.getD t undef = a.tmps.getD t undef
  dep : ∀ j o d, depB ops i j = true → ops[j]? = some o → o.dst = some d → Φ j (b.tmps.getD d undef) w
  deps : ∀ j, depB ops i j = true → Lf j = true
  fresh : Lf i = false
  obj : J Lf w
structure RInv2 (ops : Array Oper) (Φ : Nat → Value → World → Prop) (G : World → World → Prop) (J : (Nat → Bool) → World → Prop) (a : Act) (W : World) (listed : Array Bool) (b : Act) (w : World) : Prop where
  ext : G W w
  defers : b.defers = a.defers
  size : b.tmps.size = a.tmps.size
  len : listed.size = ops.size
  else_ : ∀ t, t ∉ dstsOf ops → b.tmps.getD t undef = a.tmps.getD t undef
  fact : ∀ j o d, ops[j]? = some o → listed.getD j false = true → o.dst = some d → Φ j (b.tmps.getD d undef) w
  obj : J (fun j => listed.getD j false) w

/-- Facts that stay where all but the blocks of S stay. -/
inductive FactS (S : List Nat) where
  | is (v : Value)
  | st (p : Value → World → Prop) (h : ∀ v w w', p v w → Fr S w w' → p v w')
  | any
def FactS.holds {S : List Nat} : FactS S → Value → World → Prop
  | .is u, v, _ => v = u
  | .st p _, v, w => p v w
  | .any, _, _ => True
theorem FactS.stays {S : List Nat} (f : FactS S) (v : Value) (w w' : World) (h : f.holds v w) (hx : Fr S w w') : f.holds v w' := by
  cases f with
  | is u => exact h
  | st p hp => exact hp v w w' h hx
  | any => trivial
def factsS {S : List Nat} (L : List (FactS S)) (i : Nat) (v : Value) (w : World) : Prop := (L.getD i .any).holds v w
end
end Go.Proofs.YtljkneajdndgjaaGreat
set_option linter.unusedVariables false
set_option linter.unusedSimpArgs false
namespace Go.Proofs.YtljkneajdndgjaaGreat
open Go.RowKit
section
variable {P : Program} {ops : Array Oper} {Φ : Nat → Value → World → Prop} {Q : Exit → Act → World → Prop} {a : Act} {W : World} {G : World → World → Prop} {d0 : Nat} {J : (Nat → Bool) → Value → World → Prop} {K : List Nat}
structure RAt5 (ops : Array Oper) (Φ : Nat → Value → World → Prop) (G : World → World → Prop) (d0 : Nat) (J : (Nat → Bool) → Value → World → Prop) (a : Act) (W : World) (i : Nat) (Lf : Nat → Bool) (b : Act) (w : World) : Prop where
  ext : G W w
  defers : b.defers = a.defers
  size : b.tmps.size = a.tmps.size
  else_ : ∀ t, t ∉ dstsOf ops → b.tmps.getD t undef = a.tmps.getD t undef
  dep : ∀ j o d, depB ops i j = true → ops[j]? = some o → o.dst = some d → Φ j (b.tmps.getD d undef) w
  deps : ∀ j, depB ops i j = true → Lf j = true
  fresh : Lf i = false
  obj : J Lf (b.tmps.getD d0 undef) w
/-- An operation that turns an object. -/
def RGood5 (P : Program) (ops : Array Oper) (Φ : Nat → Value → World → Prop) (G : World → World → Prop) (d0 : Nat) (J : (Nat → Bool) → Value → World → Prop) (Q : Exit → Act → World → Prop) (i : Nat) (o : Oper) (Lf : Nat → Bool) (b : Act) (w : World) : Prop :=
  (Region.wanted o (yielded ops b.tmps) = true ∧ o.wp P b w (fun b' w' => ∃ v, b' = b.put o.dst v ∧ Φ i v w' ∧ G w w' ∧ J (done Lf i) ((b.put o.dst v).tmps.getD d0 undef) w') Q) ∨ (Region.wanted o (yielded ops b.tmps) = false ∧ Φ i undef w ∧ J (done Lf i) ((b.put o.dst undef).tmps.getD d0 undef) w)

structure RInv5 (ops : Array Oper) (Φ : Nat → Value → World → Prop) (G : World → World → Prop) (d0 : Nat) (J : (Nat → Bool) → Value → World → Prop) (a : Act) (W : World) (listed : Array Bool) (b : Act) (w : World) : Prop where
  ext : G W w
  defers : b.defers = a.defers
  size : b.tmps.size = a.tmps.size
  len : listed.size = ops.size
  else_ : ∀ t, t ∉ dstsOf ops → b.tmps.getD t undef = a.tmps.getD t undef
  fact : ∀ j o d, ops[j]? = some o → listed.getD j false = true → o.dst = some d → Φ j (b.tmps.getD d undef) w
  obj : J (fun j => listed.getD j false) (b.tmps.getD d0 undef) w

theorem wpAny_facts5 (hA : acycB ops = true) (hD : dstsB ops a.tmps.size = true) (hGt : ∀ x y z, G x y → G y z → G x z) (hst : ∀ i v w w', Φ i v w → G w w' → Φ i v w')
    (hstep : ∀ i o, ops[i]? = some o → ∀ b w Lf, RAt5 ops Φ G d0 J a W i Lf b w → RGood5 P ops Φ G d0 J Q i o Lf b w)
    (hend : ∀ b w, G W w → b.defers = a.defers → b.tmps.size = a.tmps.size → (∀ t, t ∉ dstsOf ops → b.tmps.getD t undef = a.tmps.getD t undef) →
      (∀ j o d, ops[j]? = some o → o.dst = some d → Φ j (b.tmps.getD d undef) w) → (∀ Lf, (∀ j, j < ops.size → Lf j = true) → (∀ j, ops.size ≤ j → Lf j = false) → J Lf (b.tmps.getD d0 undef) w) → Q .normal b w) :
    ∀ (f : Nat) (listed : Array Bool) (b : Act) (w : World), RInv5 ops Φ G d0 J a W listed b w → cntF listed.toList ≤ f → wpAny P .any ops Q f listed b w := by
  have fin : ∀ (listed : Array Bool) (b : Act) (w : World), RInv5 ops Φ G d0 J a W listed b w → (∀ j, j < ops.size → listed.getD j false = true) → Q .normal b w := by
    intro listed b w I hl
    refine hend b w I.ext I.defers I.size I.else_ (fun j o d ho hd => I.fact j o d ho (hl j (Array.getElem?_eq_some_iff.1 ho).1) hd) fun Lf h1 h2 => ?_
    have e : Lf = fun j => listed.getD j false := by
      funext j
      rcases Nat.lt_or_ge j ops.size with h | h
      · rw [h1 j h, hl j h]
      · rw [h2 j h]; have := I.len; simp [Array.getD, show ¬ j < listed.size by omega]
    rw [e]; exact I.obj
  intro f
  induction f with
  | zero =>
    intro listed b w I hc
    have hl : ∀ j, j < ops.size → listed.getD j false = true := fun j hj => cntF_zero listed.toList j _ (by omega) (by simpa using getD_some (by have := I.len; omega))
    refine ⟨?_, fin _ _ _ I hl⟩
    cases hr : Region.ready .any ops listed with
    | nil => rfl
    | cons j r =>
      have := (mem_ready.1 (show j ∈ Region.ready .any ops listed by rw [hr]; simp))
      obtain ⟨h1, o, ho, _⟩ := this
      have hj := (Array.getElem?_eq_some_iff.1 ho).1
      have h2 := hl j hj
      have hjl : j < listed.size := by have := I.len; omega
      have e1 := getD_some (l := listed) (d := false) hjl
      have e2 := getD_some (l := listed) (d := true) hjl
      rw [e1] at e2; have := Option.some.inj e2; rw [h1, h2] at this; cases this
  | succ f ih =>
    intro listed b w I hc
    refine ⟨fun hr => fin _ _ _ I (all_listed hA I.len hr), fun i hi => ?_⟩
    obtain ⟨h1, o, ho, hdep⟩ := mem_ready.1 hi
    have hj := (Array.getElem?_eq_some_iff.1 ho).1
    have hjl : i < listed.size := by have := I.len; omega
    have hdl : ∀ j, depB ops i j = true → listed.getD j false = true := by
      intro j hd
      unfold depB at hd; rw [ho] at hd
      obtain ⟨k, hk, he⟩ := Array.any_eq_true.1 hd
      simp only [Bool.and_eq_true, beq_iff_eq] at he
      have := hdep _ (Array.getElem_mem hk) he.1
      rwa [he.2] at this
    have e12 : listed.getD i false = false := by
      have e1 := getD_some (l := listed) (d := false) hjl
      have e2 := getD_some (l := listed) (d := true) hjl
      rw [e1] at e2; rw [Option.some.inj e2]; exact h1
    have hat : RAt5 ops Φ G d0 J a W i (fun j => listed.getD j false) b w := ⟨I.ext, I.defers, I.size, I.else_, fun j p d hd hp hpd => I.fact j p d hp (hdl j hd) hpd, hdl, e12, I.obj⟩
    have hget : (listed.toList)[i]? = some false := by
      have e2 := getD_some (l := listed) (d := true) hjl
      rw [h1] at e2; simpa using e2
    have hcnt : cntF (listed.setIfInBounds i true).toList ≤ f := by
      have := cntF_set listed.toList i hget
      simp only [Array.toList_setIfInBounds]; omega
    have hset : (fun j => (listed.setIfInBounds i true).getD j false) = done (fun j => listed.getD j false) i := by
      funext j
      unfold done
      show (listed.setIfInBounds i true).getD j false = if j = i then true else listed.getD j false
      rw [Array.getD_eq_getD_getElem?, Array.getElem?_setIfInBounds]
      by_cases hij : i = j
      · subst hij; simp [hjl]
      · rw [if_neg hij, if_neg (Ne.symm hij), Array.getD_eq_getD_getElem?]
    have go : ∀ (v : Value) (w' : World), Φ i v w' → (G w w' ∨ w = w') → J (done (fun j => listed.getD j false) i) ((b.put o.dst v).tmps.getD d0 undef) w' → wpAny P .any ops Q f (listed.setIfInBounds i true) (b.put o.dst v) w' := by
      intro v w' hv hx hJ
      have hG : G W w' := by
        rcases hx with hx | rfl
        · exact hGt _ _ _ I.ext hx
        · exact I.ext
      have hS : ∀ j u, Φ j u w → Φ j u w' := by
        intro j u hu
        rcases hx with hx | rfl
        · exact hst _ _ _ _ hu hx
        · exact hu
      refine ih _ _ _ ⟨hG, put_defers.trans I.defers, put_size.trans I.size, by simpa using I.len, fun t ht => ?_, fun j p d hp hl hd => ?_, by rw [hset]; exact hJ⟩ hcnt
      · rw [put_other, I.else_ t ht]
        intro e
        exact ht (List.mem_filterMap.2 ⟨o, by rw [Array.mem_toList_iff]; exact Array.mem_of_getElem? ho, e⟩)
      · have hds : d < b.tmps.size := by
          rw [I.size]
          have := List.all_eq_true.1 (Bool.and_eq_true_iff.1 hD).1 d (List.mem_filterMap.2 ⟨p, by rw [Array.mem_toList_iff]; exact Array.mem_of_getElem? hp, hd⟩)
          simpa using this
        by_cases hij : i = j
        · subst hij
          rw [ho] at hp; cases hp
          rw [hd, put_same hds]; exact hv
        · have hl' : listed.getD j false = true := by
            rw [Array.getD_eq_getD_getElem?, Array.getElem?_setIfInBounds, if_neg hij] at hl
            rw [Array.getD_eq_getD_getElem?]; exact hl
          have hpj := (Array.getElem?_eq_some_iff.1 hp).1
          have hne : o.dst ≠ some d := by
            intro e
            have h2 := List.all_eq_true.1 (List.all_eq_true.1 (Bool.and_eq_true_iff.1 hD).2 i (List.mem_range.2 hj)) j (List.mem_range.2 hpj)
            simp [hij, ho, hp, e, hd] at h2
          rw [put_other hne]
          exact hS _ _ (I.fact j p d hp hl' hd)
    unfold wpOp
    rcases hstep i o ho b w _ hat with ⟨hw, hwp⟩ | ⟨hw, hv, hJ⟩
    · simp only [ho, hw, if_true]
      left
      refine Oper.wp_mono ?_ hwp
      rintro b' w' ⟨v, rfl, hv, hx, hJ⟩
      exact go v w' hv (.inl hx) hJ
    · simp only [ho, hw]
      exact go undef w hv (.inr rfl) hJ

/-- An operation that turns no object, and does not fill the slot. -/
theorem good5_of {i : Nat} {o : Oper} {b : Act} {w : World} {Lf : Nat → Bool} (hGe : ∀ x y, Ext x y → G x y) (hJe : ∀ L u x y, J L u x → Ext x y → J L u y) (hJk : ∀ L L' u x, (∀ k, k ∈ K → L k = L' k) → J L u x → J L' u x)
    (hi : i ∉ K) (hd : o.dst ≠ some d0) (hJ : J Lf (b.tmps.getD d0 undef) w) (h : RGood P ops Φ Q i o b w) : RGood5 P ops Φ G d0 J Q i o Lf b w := by
  have key : ∀ x v, J Lf (b.tmps.getD d0 undef) x → J (done Lf i) ((b.put o.dst v).tmps.getD d0 undef) x := fun x v hx => by
    rw [put_other hd]
    exact hJk Lf _ _ x (fun k hk => by unfold done; rw [if_neg (fun e => by subst e; exact hi hk)]) hx
  rcases h with ⟨hw, hwp⟩ | ⟨hw, hv⟩
  · exact .inl ⟨hw, Oper.wp_mono (fun b' w' ⟨v, e, h1, h2⟩ => ⟨v, e, h1, hGe _ _ h2, key _ _ (hJe _ _ _ _ hJ h2)⟩) hwp⟩
  · exact .inr ⟨hw, hv, key _ _ hJ⟩

theorem wpIn_region_objs {l m id : Nat} {w : World} {S : List Nat} (d0 : Nat) (L : List (FactS S)) (J : (Nat → Bool) → Value → World → Prop) (K : List Nat) (hdf : ops.toList.all noDefer = true) (hm : P.follows .mixedOrders = true) (hA : acycB ops = true) (hD : dstsB ops a.tmps.size = true)
    (hJe : ∀ L u x y, J L u x → Ext x y → J L u y) (hJk : ∀ L L' u x, (∀ k, k ∈ K → L k = L' k) → J L u x → J L' u x) (hJ0 : J (fun _ => false) (a.tmps.getD d0 undef) w)
    (hstep : RSteps (fun k o => ∀ b w' Lf, RAt5 ops (factsS L) (Fr S) d0 J a w k Lf b w' → (k ∉ K ∧ o.dst ≠ some d0 ∧ RGood P ops (factsS L) (onlyN Q) k o b w') ∨ RGood5 P ops (factsS L) (Fr S) d0 J (onlyN Q) k o Lf b w') 0 ops.toList)
    (hend : ∀ b w', Fr S w w' → b.defers = a.defers → b.tmps.size = a.tmps.size → (∀ t, t ∉ dstsOf ops → b.tmps.getD t undef = a.tmps.getD t undef) →
      (∀ j o d, ops[j]? = some o → o.dst = some d → factsS L j (b.tmps.getD d undef) w') → (∀ Lf, (∀ j, j < ops.size → Lf j = true) → (∀ j, ops.size ≤ j → Lf j = false) → J Lf (b.tmps.getD d0 undef) w') → Q .normal b w') : (Code.region id ops true).wpIn (Fence.wide.inRound l) m P Q a w := by
  have hd : ∀ (i : Nat) (o : Oper), ops[i]? = some o → noDefer o = true := fun i o ho => List.all_eq_true.1 hdf o (List.mem_of_getElem? (by rw [Array.getElem?_toList]; exact ho))
  refine wpIn_region_any hm (anyIn_of_any hd _ _ _ _ ?_)
  refine wpAny_facts5 (W := w) (G := Fr S) (d0 := d0) (J := J) (Φ := factsS L) (Q := onlyN Q) hA hD (fun _ _ _ h k => h.trans k) (fun i v w w' h hx => FactS.stays _ v w w' h hx) (fun i o ho b w' Lf h => ?_) (fun b w' h1 h2 h3 h4 h5 h6 => hend b w' h1 h2 h3 h4 h5 h6) _ _ _ _ ⟨(Fr.refl S w).drew, rfl, rfl, by simp, fun _ _ => rfl, fun j o d ho hl _ => ?_, ?_⟩ (by rw [Array.toList_replicate, cntF_rep]; exact Nat.le_refl _)
  · have := RSteps.get 0 ops.toList hstep i o (by simpa using ho) b w' Lf
    rw [Nat.zero_add] at this
    rcases this h with ⟨h1, hd0, h2⟩ | h2
    · exact good5_of (K := K) (fun _ _ h => Fr.of_ext h) hJe hJk h1 hd0 h.obj h2
    · exact h2
  · rw [Array.getD_eq_getD_getElem?] at hl
    by_cases hj : j < ops.size <;> simp [hj] at hl
  · have e : (fun j => (Array.replicate ops.size false).getD j false) = fun _ => false := by
      funext j; rw [Array.getD_eq_getD_getElem?]
      by_cases hj : j < ops.size <;> simp [hj]
    rw [e]
    exact hJe _ _ _ _ hJ0 (Ext.refl w).drew
end
end Go.Proofs.YtljkneajdndgjaaGreat
