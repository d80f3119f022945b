/-
  A helper of ours: no claim of its own. Layer 16 (align): a new one, by the document; slices that stay while another grows.
-/
import Derived.Test.YtjmoifbajjemmaaGreatAlnH
set_option linter.unusedVariables false
set_option linter.unusedSimpArgs false
namespace Go.Proofs.YtjmoifbajjemmaaGreat
open Go.RowKit
attribute [local go_sem] GW.cell GW.frozen In.eq_true In.le_true In.ne In.ne' In.ne_add In.ne_add' In.lt_add Upto.le_true Upto.le_add Upto.lt_add
theorem tZa : ElemT Tryz.prog 60 3 (.int .i64 0) 1 8 := ElemT.mk' Tryz.underlying60 (by kernel_rfl) rfl (by omega)
theorem tEs : ElemT Tryz.prog 29 34 (.slice none 0 0) 1 24 := ElemT.mk' Tryz.underlying29 (by kernel_rfl) rfl (by omega)
theorem src_oneB {P : Program} {tx e' : TypeId} (hk : P.underlying tx = some (.slice e')) (w : World) (u : Value) (E : TypeId) (h1 : u.oneCell' = true) (B : Nat) (hB : w.heap.size = B) : Src P 1 tx (.slice (some ⟨B, 0, none⟩) 1 1) 1 [u] (w.alloc (.cells #[u] E)) := by
  subst hB; exact src_one hk w u E h1
section
variable {w w' : World} {S : List Nat} {base e size n : Nat} {v v' : Value} {xs : List Value}
theorem own_setA (h : w.ownsRow base e size v n xs) {b : Nat} {T : TypeId} {vs : List Value} (o : Ob w b T vs) (hT : e ≠ T) (i : Nat) (u : Value) : (w.setCell ⟨b, i, none⟩ u).ownsRow base e size v n xs :=
  own_keepA h fun g hg => Below.heap_setCell w ⟨b, i, none⟩ u g fun q => o.not_own h hT (by rw [hg]; exact congrArg some q)
/-- A slice of one's own stays while one of another kind grows. -/
theorem own_otherA {base2 e2 size2 n2 : Nat} {v2 : Value} {ys : List Value} (h : w.ownsRow base e size v n xs) (h2 : w.ownsRow base2 e2 size2 v2 n2 ys) (hT : e ≠ e2) (hg : w.grownBy w' v.ownBlock) : w'.ownsRow base2 e2 size2 v2 n2 ys :=
  own_keepA h2 fun g hg2 => hg.block g (by obtain ⟨cur, hh⟩ := own_heapA h2 hg2; exact lt_of_block hh) fun q => by
    obtain ⟨c1, h3⟩ := own_heapA h2 hg2
    obtain ⟨c2, h4⟩ := own_heapA h q.symm
    rw [h3] at h4
    injection h4 with h4
    injection h4 with _ h5
    exact hT h5.symm
/-- A slice that lies outside what grows. -/
theorem sl_appA {sz m : Nat} {u : Value} {ys : List Value} {S' : List Nat} (h : Sl w S sz u m ys) (hS : ∀ k ∈ ob v, k ∈ S) (hS' : ∀ k ∈ S', k ∈ S) (hg : w.grownBy w' v.ownBlock) (hv : v'.ownBlock = v.ownBlock ∨ v'.ownBlock = some w.heap.size) : Sl w' (ob v' ++ S') sz u m ys := by
  have hF := fr_grown hg
  rcases hv with e | e
  · have := Sl.fr h hF hS
    refine Sl.less this fun b hb => ?_
    rcases List.mem_append.1 hb with hb | hb
    · exact hS b (by unfold ob at hb ⊢; rwa [e] at hb)
    · exact hS' b hb
  · have h2 : Sl w (w.heap.size :: S) sz u m ys := Sl.new h fun b hb => by
      rcases List.mem_cons.1 hb with rfl | hb
      · exact .inr (Nat.le_refl _)
      · exact .inl hb
    have h3 := Sl.fr h2 hF fun b hb => List.mem_cons_of_mem _ (hS b hb)
    refine Sl.less h3 fun b hb => ?_
    rcases List.mem_append.1 hb with hb | hb
    · unfold ob at hb; rw [e] at hb; simp at hb; simp [hb]
    · exact List.mem_cons_of_mem _ (hS' b hb)
theorem Ew.appA {u : Value} {L : List Ve} (h : Ew w (ob v ++ S) u L) (hg : w.grownBy w' v.ownBlock) (hv : v'.ownBlock = v.ownBlock ∨ v'.ownBlock = some w.heap.size) : Ew w' (ob v' ++ S) u L :=
  ⟨sl_appA h.1 (fun k hk => List.mem_append_left _ hk) (fun k hk => List.mem_append_right _ hk) hg hv, fun p hp => sl_appA (h.2 p hp) (fun k hk => List.mem_append_left _ hk) (fun k hk => List.mem_append_right _ hk) hg hv⟩
theorem RA.app {r cb hb cc hc : Nat} {st : List Hi} (h : RA w (ob v ++ S) r cb hb cc hc st) (hg : w.grownBy w' v.ownBlock) (hv : v'.ownBlock = v.ownBlock ∨ v'.ownBlock = some w.heap.size) (h1 : cb ∉ ob v) (h2 : hb ∉ ob v) (hS : cb ∈ S ∧ hb ∈ S) : RA w' (ob v' ++ S) r cb hb cc hc st := by
  have hF := fr_grown hg
  have hr1 : r ∉ ob v := fun m => h.2.2.1.1 (List.mem_append_left _ m)
  refine ⟨⟨h.1.1.fr hF hr1, own_frA h.1.2.1 hF h1, own_frA h.1.2.2 hF h2⟩, fun p hp => (h.2.1 p hp).appA hg hv, ⟨fun m => ?_, List.mem_append_right _ hS.1, List.mem_append_right _ hS.2⟩, h.2.2.2⟩
  rcases List.mem_append.1 m with m | m
  · rcases hv with e | e
    · exact hr1 (by unfold ob at m ⊢; rwa [e] at m)
    · unfold ob at m; rw [e] at m
      have := h.1.1.lt
      simp at m; omega
  · exact h.2.2.1.1 (List.mem_append_right _ m)
/-- A slice of one's own that is not empty has a block. -/
theorem own_some (h : w.ownsRow base e size v n xs) (hn : 0 < n) : ∃ g cap, v = .slice (some ⟨g, 0, none⟩) n cap ∧ base ≤ g := by
  rcases h.2 with ⟨_, h0⟩ | ⟨g, cap, cur, rfl, hb, _⟩
  · omega
  · exact ⟨g, cap, rfl, hb⟩
end
set_option maxHeartbeats 8000000 in
set_option maxRecDepth 100000 in
theorem refAlNew_c (n : Nat) (h1 : 1 ≤ n) (h8 : n ≤ 8) (w : World) : Calls Tryz.prog 11 #[.int .i64 n] w fun e w' => ∃ r cb hb cc hc, e = .returned (.pointer (some ⟨r, 0, none⟩)) ∧ (w.heap.size ≤ r ∧ w.heap.size ≤ cb ∧ w.heap.size ≤ hb ∧ r ≠ cb ∧ r ≠ hb ∧ cb ≠ hb ∧ Ob w' r 62 [.slice (some ⟨cb, 0, none⟩) n cc, .slice (some ⟨hb, 0, none⟩) n hc] ∧ w'.ownsRow 0 3 1 (.slice (some ⟨cb, 0, none⟩) n cc) n (List.replicate n (.int .i64 0)) ∧ w'.ownsRow 0 34 1 (.slice (some ⟨hb, 0, none⟩) n hc) n (List.replicate n (.slice none 0 0))) ∧ Ext w w' := by
  have hR0 := hide (Ob.new w 62 [.slice none 0 0, .slice none 0 0])
  go_enter Tryz.func11, Tryz.ntmps11
  go_wp2_with fail
  obtain ⟨r, hr⟩ : ∃ r, r = w.heap.size := ⟨_, rfl⟩
  rw [← hr]
  have hwr : w.heap.size ≤ r := by omega
  replace hr := hide hr
  go_loopg [4] n (fun gh i wr => ∃ (k : Nat) (vc vh : Value), i = .int .i64 k ∧ k + gh = n ∧ Hid (Ob wr r 62 [vc, vh]) ∧ Hid (wr.ownsRow w.heap.size 3 1 vc k (List.replicate k (.int .i64 0))) ∧ Hid (wr.ownsRow w.heap.size 34 1 vh k (List.replicate k (.slice none 0 0))) ∧ Hid (Ext w wr))
  case atStart => exact ⟨0, .slice none 0 0, .slice none 0 0, rfl, by omega, (by rw [hr.out]; exact hR0), World.ownsRow_nil _ _ _ _, World.ownsRow_nil _ _ _ _, (Ext.refl w).alloc _⟩
  case round =>
    obtain ⟨k, vc, vh, rfl, hk, hO, hc, hh, hX⟩ := hrel
    have q0 := hO.out.cell 0 rfl
    have q1 := hO.out.cell 1 rfl
    have hrl := hO.out.lt
    haveI : In r wr := ⟨hrl⟩
    have hzX := hX.out.size
    obtain ⟨A1, k1, e1⟩ := own_form hc.out
    obtain ⟨A2, k2, e2⟩ := own_form hh.out
    subst e1
    subst e2
    by_cases hkn : k < n
    · have hkI : (k : Int) < n := by omega
      have d1 : decide ((k : Int) < n) = true := decide_eq_true hkI
      go_wp2_with (first | (at_builtin; (refine wpl_app tZa rfl (.tmp 16) (.tmp 17) rfl rfl (own_ext hc.out ((Ext.refl wr).alloc (.cells #[.int .i64 0] 3))) rfl (src_one Tryz.underlying60 _ (.int .i64 0) _ rfl) (by unfold maxLen; omega) (by omega) (by simp only [World.size_alloc]; omega) ?_; intro v8 w8 ho8 hg8 hv8; have hWA := hO.out.alloc (.cells #[.int .i64 0] 3); have hcA := own_ext hc.out ((Ext.refl wr).alloc (.cells #[.int .i64 0] 3)); have hhA := own_ext hh.out ((Ext.refl wr).alloc (.cells #[.int .i64 0] 3)); have O8 := hWA.grown hg8 (fun e => hWA.not_own hcA (by decide) e.symm); have hh8 := own_otherA hcA hhA (by decide) hg8; obtain ⟨A8, c8, e8⟩ := own_form ho8; subst e8; have s0 := O8.cell 0 rfl; have s1 := O8.cell 1 rfl; have sf := O8.free 0; have sl := O8.lt; have g8 := hg8.size; haveI : In r w8 := ⟨sl⟩; have hX8 := hide (((Fr.of_ext (S := []) (ext_grown (hX.out.alloc (.cells #[.int .i64 0] 3)) hg8 (fun q hq => (hcA.lt q hq).1))).setCell ⟨r, 0, none⟩ (.slice A8 (k + 1) c8) (.inr (by show w.heap.size ≤ r; omega))).ext); have O8s := hide (O8.set 0 (.slice A8 (k + 1) c8)); have hc8 := hide (own_setA ho8 O8 (by decide) 0 (.slice A8 (k + 1) c8)); have hh8s := hide (own_setA hh8 O8 (by decide) 0 (.slice A8 (k + 1) c8)); have z8 := hX8.out.size; simp only [World.size_setCell, World.size_alloc] at z8 g8; clear hWA hcA hhA hh8 O8 ho8)) | (at_builtin; (refine wpl_app tEs rfl (.tmp 25) (.tmp 26) rfl rfl (own_ext hh8s.out ((Ext.refl _).alloc (.cells #[.slice none 0 0] 34))) rfl (src_oneB Tryz.underlying29 _ (.slice none 0 0) _ rfl _ (World.size_setCell ..)) (by unfold maxLen; omega) (by omega) (by simp only [World.size_alloc, World.size_setCell]; omega) ?_; intro v9 w9 ho9 hg9 hv9; have hcB := own_ext hc8.out ((Ext.refl _).alloc (.cells #[.slice none 0 0] 34)); have hhB := own_ext hh8s.out ((Ext.refl _).alloc (.cells #[.slice none 0 0] 34)); have hWB := O8s.out.alloc (.cells #[.slice none 0 0] 34); have O9 := hWB.grown hg9 (fun e => hWB.not_own hhB (by decide) e.symm); have hc9 := own_otherA hhB hcB (by decide) hg9; obtain ⟨A9, c9, e9⟩ := own_form ho9; subst e9; have t0 := O9.cell 0 rfl; have t1 := O9.cell 1 rfl; have tf := O9.free 1; have tl := O9.lt; haveI : In r w9 := ⟨tl⟩; have hX9 := hide (((Fr.of_ext (S := []) (ext_grown (hX8.out.alloc (.cells #[.slice none 0 0] 34)) hg9 (fun q hq => (hhB.lt q hq).1))).setCell ⟨r, 1, none⟩ (.slice A9 (k + 1) c9) (.inr hwr)).ext); have O9s := hide (O9.set 1 (.slice A9 (k + 1) c9)); have hc9s := hide (own_setA hc9 O9 (by decide) 1 (.slice A9 (k + 1) c9)); have hh9s := hide (own_setA ho9 O9 (by decide) 1 (.slice A9 (k + 1) c9)); clear hWB hcB hhB hc9 O9 ho9)))
      go_roundg (n - (k + 1))
      case measure => omega
      case rel => exact ⟨k + 1, _, _, by go_num, by omega, O9s, by rw [List.replicate_succ']; exact hc9s, by rw [List.replicate_succ']; exact hh9s, hX9⟩
    · have hkn2 : k = n := by omega
      have hge : (n : Int) ≤ k := by omega
      have d1 : decide ((k : Int) < n) = false := decide_eq_false (by omega)
      replace hkn2 := hide hkn2
      go_wp2_with fail
      go_returns
      have e0 := hkn2.out
      subst e0
      obtain ⟨cb, cc, e1, hcb⟩ := own_some hc.out (by omega)
      obtain ⟨hb, hcp, e2, hhb⟩ := own_some hh.out (by omega)
      rw [e1, e2] at hO
      rw [e1] at hc
      rw [e2] at hh
      have n1 := hO.out.not_own hc.out (by decide)
      have n2 := hO.out.not_own hh.out (by decide)
      refine ⟨r, cb, hb, cc, hcp, rfl, ⟨hwr, hcb, hhb, fun e => n1 (by rw [e]; rfl), fun e => n2 (by rw [e]; rfl), fun e => ?_, hO.out, own_base hc.out (Nat.zero_le _), own_base hh.out (Nat.zero_le _)⟩, hX.out⟩
      obtain ⟨x1, h3⟩ := own_heapA hc.out (g := cb) rfl
      obtain ⟨x2, h4⟩ := own_heapA hh.out (g := hb) rfl
      rw [← e, h3] at h4
      injection h4 with h4
      injection h4 with _ h5
      exact absurd h5 (by decide)
end Go.Proofs.YtjmoifbajjemmaaGreat
