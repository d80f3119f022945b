/-
  A helper of ours: no claim of its own. Layer 27 (snap): a table's rows and their functions are gathered, by the code.
-/
import Derived.Test.YtjdbjnpomndfjaaSnaM
import Derived.Test.YtjdbjnpomndfjaaEdgGr
import Derived.Test.YtjdbjnpomndfjaaEdgGs
import Derived.Test.YtjdbjnpomndfjaaEdgGx
import Derived.Test.YtjdbjnpomndfjaaEdgEn
import Derived.Sort.LoopGhostIn
set_option linter.unusedVariables false
set_option linter.unusedSimpArgs false
namespace Go.Proofs.Ytjdbjnpomndfjaa
open Go.RowKit
attribute [local go_sem] GW.cell GW.frozen In.eq_true In.le_true In.ne In.ne' In.ne_add In.ne_add' In.lt_add Upto.le_true Upto.le_add Upto.lt_add Oper.semAt_some wide_depth wide_fn
theorem sl_lit (w : World) (E sz : Nat) (xs : List Value) (h : xs.length = sz) : Sl (w.alloc (.cells xs.toArray E)) [] sz (.slice (some ⟨w.heap.size, 0, none⟩) 1 1) 1 xs :=
  ⟨_, 1, rfl, Nat.le_refl _, by unfold maxLen; omega, by omega, .inr ⟨w.heap.size, 0, rfl, by simp, fun j u hu => by rw [Nat.zero_add]; exact (Ob.new w E xs).cell j hu⟩⟩
theorem ob_objS {w : World} {base e size n : Nat} {v : Value} {xs : List Value} (h : w.ownsRow base e size v n xs) : ∀ y ∈ ob v, ∃ T vs, Ob w y T vs := by
  intro y hy
  have hy' : v.ownBlock = some y := Option.mem_toList.1 hy
  rcases h.2 with ⟨rfl, _⟩ | ⟨g, cap, cur, rfl, hb, hg, _⟩
  · cases hy'
  · have : y = g := by simpa [Value.ownBlock] using hy'.symm
    subst this
    exact ⟨e, cur.toList, by unfold Ob; simpa using hg⟩
/-- A row and its function, as they lie. -/
abbrev Vk := Value × Value × Gp
def kc1 (p : Vk) : List Value := [p.1, p.2.1]
def kc (L : List Vk) : List Value := L.flatMap kc1
abbrev kgp (L : List Vk) : List Gp := L.map fun p => p.2.2
theorem kc_append (L M : List Vk) : kc (L ++ M) = kc L ++ kc M := by simp [kc]
theorem kc_cons (p : Vk) (L : List Vk) : kc (p :: L) = kc1 p ++ kc L := by simp [kc]
theorem kc_get : ∀ (L : List Vk) (i : Nat) (p : Vk), L[i]? = some p → ∀ j v, (kc1 p)[j]? = some v → (kc L)[i * 2 + j]? = some v
  | q :: r, 0, p, h, j, v, hv => by
    simp at h; subst h
    have hj : j < (kc1 q).length := (List.getElem?_eq_some_iff.1 hv).1
    rw [kc_cons, List.getElem?_append_left (by omega), show 0 * 2 + j = j by omega]; exact hv
  | q :: r, i + 1, p, h, j, v, hv => by
    have := kc_get r i p (by simpa using h) j v hv
    rw [kc_cons, show (i + 1) * 2 + j = (kc1 q).length + (i * 2 + j) by simp [kc1]; omega, List.getElem?_append_right (by omega), Nat.add_sub_cancel_left]
    exact this
theorem tKr : ElemT Try.prog 128 130 (.agg #[.slice none 0 0, .slice none 0 0]) 2 48 := ElemT.mk' Try.underlying128 (by kernel_rfl) rfl (by omega)
def OwnK (w : World) (B : Nat) (v : Value) (L : List Vk) : Prop := w.ownsRow B 130 2 v L.length (kc L) ∧ ∀ p ∈ L, OwnR w 0 p.1 p.2.2.1 ∧ OwnJ w 0 p.2.1 p.2.2.2
theorem OwnK.nil (w : World) (B : Nat) : OwnK w B (.slice none 0 0) [] := ⟨World.ownsRow_nil _ _ _ _, by simp⟩
theorem OwnK.ext {w w' : World} {B : Nat} {v : Value} {L : List Vk} (h : OwnK w B v L) (k : Ext w w') : OwnK w' B v L := ⟨own_ext h.1 k, fun p hp => ⟨own_ext (h.2 p hp).1 k, own_ext (h.2 p hp).2 k⟩⟩
theorem OwnK.stab (B : Nat) (B0 : Nat) (v : Value) (L : List Vk) : Stab B fun W => OwnK W B0 v L :=
  (Stab.own _ _ _ _ _ _).and (Stab.all fun p => Stab.all fun _ => (Stab.own _ _ _ _ _ _).and (Stab.own _ _ _ _ _ _))
/-- Rows and functions stay where blocks of neither kind are turned. -/
theorem ok_away {w w' : World} {S : List Nat} {r f : Value} {x : Gp} (h : OwnR w 0 r x.1 ∧ OwnJ w 0 f x.2) (hF : Fr S w w') (hS : ∀ b ∈ S, ∀ cs c, w.heap[b]? ≠ some (.cells cs 62 c) ∧ w.heap[b]? ≠ some (.cells cs 110 c)) : OwnR w' 0 r x.1 ∧ OwnJ w' 0 f x.2 :=
  ⟨own_away h.1 hF fun b hb hb2 => by obtain ⟨cs, c, hc⟩ := own_kind h.1 hb2; exact (hS b hb cs c).1 hc, own_away h.2 hF fun b hb hb2 => by obtain ⟨cs, c, hc⟩ := own_kind h.2 hb2; exact (hS b hb cs c).2 hc⟩
theorem no_kind {w : World} {b : Nat} {cs : Array Value} {T : TypeId} {c : Nat × Nat} (h : w.heap[b]? = some (.cells cs T c)) {E : TypeId} (hT : T ≠ E) : ∀ ds d, w.heap[b]? ≠ some (.cells ds E d) := by
  intro ds d hd
  rw [h] at hd
  injection hd with hd
  injection hd with _ hd
  exact hT hd
/-- Blocks that are none of the loop's. -/
def Fbk (bx : Nat) (b : Nat) (W : World) : Prop := ∃ mv, Ob W bx 128 [mv] ∧ (b ≠ bx ∧ (mv.ownBlock ≠ some b ∧ b < W.heap.size))
theorem Fbk.stab (B bx b : Nat) : Stab B (Fbk bx b) := Stab.ex fun mv => (Stab.ob _ _ _).and ((Stab.pure _).and ((Stab.pure _).and ⟨fun A C h e => Nat.lt_of_lt_of_le h e.size, fun A l o o' h _ _ _ => by simpa using h⟩))
abbrev Ik (w : World) (b3 B0 : Nat) (G : List Gp) (k : Nat) (W : World) : Prop :=
  (∃ mv, ∃ M : List Vk, Ob W b3 128 [mv] ∧ (OwnK W B0 mv M ∧ kgp M = G.take k)) ∧ (Ext w W ∧ B0 ≤ W.heap.size)
theorem Ik.stab (w : World) (b3 B0 : Nat) (G : List Gp) (k B : Nat) (hB : w.heap.size ≤ B) : Stab B (Ik w b3 B0 G k) :=
  (Stab.ex fun mv => Stab.ex fun M => (Stab.ob _ _ _).and ((OwnK.stab _ _ _ _).and (Stab.pure _))).and ((Stab.of_ext hB).and ⟨fun A C h e => Nat.le_trans h e.size, fun A l o o' h _ _ _ => by simpa using h⟩)
set_option maxHeartbeats 8000000 in
set_option maxRecDepth 100000 in
theorem rowsOf_c (L : List Ve) (hm : mayE (eds L) = true) (v : Value) (w : World) (hC : Ew w [] v L) : Calls Try.prog 51 #[v] w fun e w' => ∃ b mv M, e = .returned (.func (.func 97) #[] #[.pointer (some ⟨b, 0, none⟩)]) ∧ Ob w' b 128 [mv] ∧ OwnK w' w.heap.size mv M ∧ kgp M = grp (eds L) ∧ Ext w w' := by
  have hgr := hide (fun w' (hX : Ext w w') => groups_c L v w' (hC.ext hX))
  obtain ⟨A, cap, rfl, hlc, hlm, -⟩ := ew_form hC
  unfold maxLen at hlm
  clear hC
  have hGm : Hid (∀ g ∈ grp (eds L), g.1.length ≤ 8) := grp_r8 hm
  have hLl : L.length ≤ 4096 := by have := mayE_len hm; simpa [eds] using this
  have hgl : (grp (eds L)).length ≤ 4096 := by have := grp_len2 (eds L); rw [show (eds L).length = L.length from List.length_map _] at this; omega
  refine calls_marks Try.func51 rfl ?_
  simp only [Try.ntmps51, List.size_toArray, List.length_cons, List.length_nil, Nat.reduceAdd, Nat.reduceSub, Array.replicate_succ, Array.replicate_zero, List.push_toArray, List.append_toArray, List.nil_append, List.cons_append]
  go_wp2_with (go_at_call 78; refine (hgr.out _ ((Ext.refl w).alloc _)).mono ?_; rintro ee w1 ⟨b, rfl, v1, M, hb, hM, hMe, hX1⟩)
  rw [if_pos hm] at hM
  have p3 : Ob w1 w.heap.size 128 [.slice none 0 0] := (Ob.new w 128 [.slice none 0 0]).ext hX1
  have hXw : Ext w w1 := ((Ext.refl w).alloc _).trans hX1
  have hzw := hXw.size
  have hzw1 := p3.lt
  obtain ⟨b3, hb3⟩ : ∃ b3, b3 = w.heap.size := ⟨_, rfl⟩
  rw [← hb3] at p3 hzw1 ⊢
  have hb3w : w.heap.size ≤ b3 := by omega
  replace hb3 := hide hb3
  clear hgr hX1
  have hMx := hide (ew_box hMe p3)
  rw [← hM] at hGm hgl
  have hML : M.length ≤ 4096 := by have := congrArg List.length hM; simp only [eds, List.length_map] at this; omega
  replace hM := hide hM
  refine wp_rangeX2 (X := [b3]) (xs := grp (eds M)) rfl (enters_of Try.func114 (by kernel_rfl) rfl) (groups_seqx [b3] M v1 w1 w1 b hMx.out (by omega) (fun g hg => Nat.le_trans (hGm.out g hg) (by omega)) (Ext.refl _) hb) (Ext.refl _) (Nat.le_refl _) (fun x vs W h => h.size) (fun x vs => Hgg.stab x vs)
    (Fbk b3) (fun b => Fbk.stab _ b3 b) (Ik w b3 w1.heap.size (grp (eds M)))
    (fun k A o ⟨⟨mv, N, o1, o2, _⟩, _⟩ => ⟨mv, o1.alloc o, (by have := o1.lt; omega), (fun h => by have := (World.ownsRow.lt o2.1 _ h).2; omega), by simp⟩)
    (fun c k W => False)
    (fun k => Ik.stab w _ _ _ k _ hzw)
    (fun c k => Stab.pure _)
    ⟨⟨_, [], p3, OwnK.nil _ _, by simp⟩, hXw, Nat.le_refl _⟩
    (fun k x vs a' _ => ∃ r f, vs = #[r, f] ∧ a' = { tmps := #[.slice A L.length cap, undef, Value.nilFunc, .pointer (some ⟨b3, 0, none⟩), r, f, .slice A L.length cap, .func (.func 114) #[] #[.pointer (some ⟨b, 0, none⟩)], r, f, undef, undef, undef, undef, undef, undef, undef], defers := [] })
    (fun k x vs a' => Stab.pure _) ?assign ?body ?done ?stop
  case assign =>
    rintro LL k x vs W K _ ⟨r, f, rfl, -, -⟩ hK
    gi_wp2
    exact hK _ _ (Ext.refl _) ⟨r, f, rfl, rfl⟩
  case body =>
    rintro LL k x vs a' W hx ⟨⟨mv, N, o3, hNo, hNe⟩, hXk, h1W⟩ ⟨r', f', e', hr, hf⟩ ⟨r, f, rfl, rfl⟩
    obtain ⟨rfl, rfl⟩ : r = r' ∧ f = f' := by simpa using e'
    have hNl : N.length = ((grp (eds M)).take k).length := by rw [← hNe]; simp
    have hkl : k < (grp (eds M)).length := (List.getElem?_eq_some_iff.1 hx).1
    rw [List.length_take] at hNl
    have hNl2 : N.length ≤ 4096 := by omega
    clear hNl hkl
    have hnx := hide (show (grp (eds M)).take (k + 1) = (grp (eds M)).take k ++ [x] by rw [List.take_add_one, hx]; rfl)
    obtain ⟨RA, rcap, rfl⟩ := own_form hr
    obtain ⟨JA, jcap, rfl⟩ := own_form hf
    have hno := Ob.not_own o3 hNo.1 (by decide)
    have hobN := ob_ge hNo.1
    have k3 := o3.cell 0 rfl
    have l3 := o3.lt
    haveI : In b3 W := ⟨l3⟩
    have hNo' := hide hNo
    have o3' := hide o3
    have hXk' := hide hXk
    have hr' := hide hr
    have hf' := hide hf
    obtain ⟨MA, mcap, rfl⟩ := own_form hNo.1
    clear hNo o3 hXk hr hf hx
    replace hNe := hide hNe
    gi_wp2_with (refine wplIn_app tKr rfl (.tmp 10) (.tmp 14) rfl rfl (own_ext hNo'.out.1 ((Ext.refl W).alloc _)) rfl (src_sl Try.underlying128 (sl_lit W 130 2 [.slice RA x.1.length rcap, .slice JA x.2.length jcap] rfl) (by intro u hu; simp at hu; rcases hu with rfl | rfl <;> rfl) (by omega)) (by unfold maxLen; omega) (by omega) (by simp only [World.size_alloc]; omega) ?_; intro v8 w8 ho8 hg8 hob8; have o8 := (o3'.out.alloc (.cells #[.slice RA x.1.length rcap, .slice JA x.2.length jcap] 130)).grown hg8 (Ne.symm hno); have k8 := o8.cell 0 rfl; have fr8 := o8.free 0; have l8 := o8.lt; haveI : In b3 w8 := ⟨l8⟩; replace o8 := hide o8; obtain ⟨A8, c8, q8⟩ := own_form ho8; subst q8)
    have hF : Fr (b3 :: ob (.slice MA N.length mcap)) W (w8.setCell ⟨b3, 0, none⟩ (.slice A8 (N.length + 1) c8)) := ((((Fr.refl _ W).alloc _).grown hg8 (fun j hj => .inl (List.mem_cons_of_mem _ (Option.mem_toList.2 hj)))).setCell ⟨b3, 0, none⟩ _ (.inl (by simp)))
    have hS : ∀ y ∈ b3 :: ob (.slice MA N.length mcap), y = b3 ∨ w1.heap.size ≤ y := fun y hy => (List.mem_cons.1 hy).imp id (fun h => (hobN y h).1)
    have hkd : ∀ y ∈ b3 :: ob (.slice MA N.length mcap), ∀ cs c, W.heap[y]? ≠ some (.cells cs 62 c) ∧ W.heap[y]? ≠ some (.cells cs 110 c) := fun y hy cs c => by
      rcases List.mem_cons.1 hy with rfl | hy
      · exact ⟨no_kind o3'.out (by decide) cs c, no_kind o3'.out (by decide) cs c⟩
      · obtain ⟨ds, d, hd⟩ := own_kind hNo'.out.1 hy
        exact ⟨no_kind hd (by decide) cs c, no_kind hd (by decide) cs c⟩
    have o9 := o8.out.set 0 (.slice A8 (N.length + 1) c8)
    have hown : OwnK (w8.setCell ⟨b3, 0, none⟩ (.slice A8 (N.length + 1) c8)) w1.heap.size (.slice A8 (N.length + 1) c8) (N ++ [(.slice RA x.1.length rcap, .slice JA x.2.length jcap, x)]) := by
      refine ⟨?_, fun p hp => ?_⟩
      · have h1 := own_fr ho8 ((Fr.refl [b3] w8).setCell ⟨b3, 0, none⟩ (.slice A8 (N.length + 1) c8) (.inl (by simp))) (by intro y hy; rw [List.mem_singleton.1 hy]; exact hzw1)
        rw [List.length_append, kc_append]
        simpa [kc, kc1] using h1
      · rcases List.mem_append.1 hp with hp | hp
        · exact ok_away (hNo'.out.2 p hp) hF hkd
        · obtain rfl := List.mem_singleton.1 hp
          exact ok_away ⟨hr'.out, hf'.out⟩ hF hkd
    refine ⟨keeps_fr hF (fun y hy => ?_), belX_fr hF h1W (fun y hy => ?_), ⟨⟨_, _, o9, hown, ?_⟩, ext_fr hXk'.out hF (fun y hy => ?_), Nat.le_trans h1W hF.size⟩, ?_⟩
    · rcases List.mem_cons.1 hy with rfl | hy
      · exact ⟨_, _, o3'.out⟩
      · exact ob_objS hNo'.out.1 y hy
    · rcases hS y hy with h | h
      · exact .inr (by simp [h])
      · exact .inl h
    · rw [hnx.out, ← hNe.out]
      simp
    · rcases hS y hy with h | h <;> omega
    · rintro y T us ⟨mv0, om, hy1, hy2, hy3⟩ oy
      obtain rfl : mv0 = .slice MA N.length mcap := by
        have e1 := om
        unfold Ob at e1
        have e2 := o3'.out
        unfold Ob at e2
        rw [e2] at e1
        simpa using e1.symm
      have hyS : y ∉ b3 :: ob (.slice MA N.length mcap) := by
        intro h
        rcases List.mem_cons.1 h with h | h
        · exact hy1 h
        · exact hy2 (Option.mem_toList.1 h)
      refine ⟨⟨_, o9, hy1, fun h => ?_, by have := hF.size; omega⟩, oy.fr hF hyS⟩
      rcases hob8 with h8 | h8
      · exact hy2 (h8.symm.trans h)
      · rw [h] at h8
        simp only [World.size_alloc, Option.some.injEq] at h8
        omega
  case done =>
    rintro D W hD ⟨⟨mv, N, o3, hNo, hNe⟩, hXk, h1W⟩ hK
    rw [List.take_length] at hNe
    have l3 := o3.lt
    haveI : In b3 W := ⟨l3⟩
    have o3' := hide o3
    have hNo' := hide hNo
    have hXk' := hide hXk
    have hK' := hide hK
    replace hNe := hide hNe
    clear o3 hNo hXk hK
    go_wp2_with fail
    have o4 := ob_put (o' := .deferred none) hK'.out rfl o3'.out
    refine ret_mark hK'.out (v := .func (.func 97) #[] #[.pointer (some ⟨b3, 0, none⟩)]) ?_ ⟨b3, mv, N, rfl, o4, ?_, by rw [hNe.out, hM.out], put_ext hXk'.out (by omega) _⟩
    · simp [results, Try.f51, go_sem]
    · have := (OwnK.stab (B := 0) w1.heap.size mv N).put _ D _ (.deferred none) hNo'.out (Nat.zero_le _) hK'.out rfl
      exact ⟨own_base this.1 hzw, this.2⟩
  case stop =>
    rintro D c k W hD hk h
    exact h.elim
end Go.Proofs.Ytjdbjnpomndfjaa
