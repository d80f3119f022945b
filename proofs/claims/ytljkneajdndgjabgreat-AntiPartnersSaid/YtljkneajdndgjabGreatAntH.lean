/-
  A helper of ours: no claim of its own. Layer 32 (anti): the walk of the law AntiPartners.
-/
import Derived.Test.YtljkneajdndgjabGreatAntF
import Derived.Test.YtljkneajdndgjabGreatEdgBj
import Derived.Test.YtljkneajdndgjabGreatStepR
set_option linter.unusedVariables false
set_option linter.unusedSimpArgs false
namespace Go.Proofs.YtljkneajdndgjabGreat
open Go.RowKit
attribute [local go_sem] GW.cell GW.frozen In.eq_true In.le_true In.ne In.ne' In.ne_add In.ne_add' In.lt_add Upto.le_true Upto.le_add Upto.lt_add
def anR : List Vl := [(1, 1, ⟨#[]⟩)]
def anX : List Vl := [(3, 0, ⟨#[]⟩), (3, 1, ⟨#[]⟩), (13, 0, ⟨#[]⟩)]
def anL : List Ed := [(anR, (2, 1)), (anR, (9, -1))]
def anM : List Ed := [(anR, (4, 1)), (anR, (6, -1))]
theorem an_a : aoE anL anM anX = 0 := by decide +kernel
theorem an_b : aoR anL anM anX = [(anR, (2, 1)), (anR, (4, -1)), (anR, (6, 1)), (anR, (9, -1))] := by kernel_rfl
theorem an_c : apE anR [(0, 1)] anM anX = 0 := by decide +kernel
theorem an_d : (apR anR [(0, 1)] anM anX).length = 2 := by decide +kernel
theorem an_inR : ∀ v ∈ anR, inW v := by intro o ho; simp only [anR, List.mem_cons, List.not_mem_nil, or_false] at ho; subst ho; exact ⟨by decide, by decide⟩
theorem an_inX : ∀ o ∈ anX, inW o := by intro o ho; simp only [anX, List.mem_cons, List.not_mem_nil, or_false] at ho; rcases ho with rfl | rfl | rfl <;> exact ⟨by decide, by decide⟩
theorem an_gL : grp anL = [(anR, [(2, 1), (9, -1)])] := by kernel_rfl
theorem an_gM : grp anM = [(anR, [(4, 1), (6, -1)])] := by kernel_rfl
theorem an_inL : ∀ g ∈ grp anL, ∀ v ∈ g.1, inW v := by rw [an_gL]; intro g hg; obtain rfl := List.mem_singleton.1 hg; exact an_inR
theorem an_inM : ∀ g ∈ grp anM, ∀ v ∈ g.1, inW v := by rw [an_gM]; intro g hg; obtain rfl := List.mem_singleton.1 hg; exact an_inR
theorem eds_at {M : List Ve} {i : Nat} {e : Ed} (h : (eds M)[i]? = some e) : ∃ u, M[i]? = some (u, e.1, e.2) := by
  unfold eds at h
  rw [List.getElem?_map] at h
  obtain ⟨p, hp, rfl⟩ := Option.map_eq_some_iff.1 h
  exact ⟨p.1, hp⟩
set_option maxHeartbeats 8000000 in
set_option maxRecDepth 100000 in
theorem antLive_c (w : World) : Calls Tryz.prog 24 #[] w fun e w' => e = .returned (.bool true) ∧ Ext w w' := by
  have r0 : Rw (w.alloc (.cells #[.int .i64 1, .int .i64 1, .string ⟨#[]⟩] 53)) [] (.slice (some ⟨w.heap.size, 0, none⟩) 1 1) anR := Sl.own (World.ownsRow_lit (base := w.heap.size) (e := 53) (size := 3) w #[.int .i64 1, .int .i64 1, .string ⟨#[]⟩] 1 (Nat.le_refl _) (by decide) rfl) (by simp)
  have eL : Ew ((w.alloc (.cells #[.int .i64 1, .int .i64 1, .string ⟨#[]⟩] 53)).alloc (.cells #[(.slice (some ⟨w.heap.size, 0, none⟩) 1 1), .int .i64 2, .int .i64 1, (.slice (some ⟨w.heap.size, 0, none⟩) 1 1), .int .i64 9, .int .i64 (-1)] 37)) [] (.slice (some ⟨w.heap.size + 1, 0, none⟩) 2 2) [((.slice (some ⟨w.heap.size, 0, none⟩) 1 1), anR, (2, 1)), ((.slice (some ⟨w.heap.size, 0, none⟩) 1 1), anR, (9, -1))] := by
    refine ⟨?_, ?_⟩
    · have h := Sl.own (S := []) (World.ownsRow_lit (base := (w.alloc (.cells #[.int .i64 1, .int .i64 1, .string ⟨#[]⟩] 53)).heap.size) (e := 37) (size := 3) (w.alloc (.cells #[.int .i64 1, .int .i64 1, .string ⟨#[]⟩] 53)) #[(.slice (some ⟨w.heap.size, 0, none⟩) 1 1), .int .i64 2, .int .i64 1, (.slice (some ⟨w.heap.size, 0, none⟩) 1 1), .int .i64 9, .int .i64 (-1)] 2 (Nat.le_refl _) (by decide) rfl) (by simp)
      rw [World.size_alloc] at h
      exact h
    · intro p hp
      simp only [List.mem_cons, List.not_mem_nil, or_false] at hp
      rcases hp with rfl | rfl
      · exact Sl.alloc r0 _
      · exact Sl.alloc r0 _
  have eM : Ew (((w.alloc (.cells #[.int .i64 1, .int .i64 1, .string ⟨#[]⟩] 53)).alloc (.cells #[(.slice (some ⟨w.heap.size, 0, none⟩) 1 1), .int .i64 2, .int .i64 1, (.slice (some ⟨w.heap.size, 0, none⟩) 1 1), .int .i64 9, .int .i64 (-1)] 37)).alloc (.cells #[(.slice (some ⟨w.heap.size, 0, none⟩) 1 1), .int .i64 4, .int .i64 1, (.slice (some ⟨w.heap.size, 0, none⟩) 1 1), .int .i64 6, .int .i64 (-1)] 37)) [] (.slice (some ⟨w.heap.size + 1 + 1, 0, none⟩) 2 2) [((.slice (some ⟨w.heap.size, 0, none⟩) 1 1), anR, (4, 1)), ((.slice (some ⟨w.heap.size, 0, none⟩) 1 1), anR, (6, -1))] := by
    refine ⟨?_, ?_⟩
    · have h := Sl.own (S := []) (World.ownsRow_lit (base := ((w.alloc (.cells #[.int .i64 1, .int .i64 1, .string ⟨#[]⟩] 53)).alloc (.cells #[(.slice (some ⟨w.heap.size, 0, none⟩) 1 1), .int .i64 2, .int .i64 1, (.slice (some ⟨w.heap.size, 0, none⟩) 1 1), .int .i64 9, .int .i64 (-1)] 37)).heap.size) (e := 37) (size := 3) ((w.alloc (.cells #[.int .i64 1, .int .i64 1, .string ⟨#[]⟩] 53)).alloc (.cells #[(.slice (some ⟨w.heap.size, 0, none⟩) 1 1), .int .i64 2, .int .i64 1, (.slice (some ⟨w.heap.size, 0, none⟩) 1 1), .int .i64 9, .int .i64 (-1)] 37)) #[(.slice (some ⟨w.heap.size, 0, none⟩) 1 1), .int .i64 4, .int .i64 1, (.slice (some ⟨w.heap.size, 0, none⟩) 1 1), .int .i64 6, .int .i64 (-1)] 2 (Nat.le_refl _) (by decide) rfl) (by simp)
      rw [World.size_alloc, World.size_alloc] at h
      exact h
    · intro p hp
      simp only [List.mem_cons, List.not_mem_nil, or_false] at hp
      rcases hp with rfl | rfl
      · exact Sl.alloc (Sl.alloc r0 _) _
      · exact Sl.alloc (Sl.alloc r0 _) _
  have eX : Rw ((((w.alloc (.cells #[.int .i64 1, .int .i64 1, .string ⟨#[]⟩] 53)).alloc (.cells #[(.slice (some ⟨w.heap.size, 0, none⟩) 1 1), .int .i64 2, .int .i64 1, (.slice (some ⟨w.heap.size, 0, none⟩) 1 1), .int .i64 9, .int .i64 (-1)] 37)).alloc (.cells #[(.slice (some ⟨w.heap.size, 0, none⟩) 1 1), .int .i64 4, .int .i64 1, (.slice (some ⟨w.heap.size, 0, none⟩) 1 1), .int .i64 6, .int .i64 (-1)] 37)).alloc (.cells #[.int .i64 3, .int .i64 0, .string ⟨#[]⟩, .int .i64 3, .int .i64 1, .string ⟨#[]⟩, .int .i64 13, .int .i64 0, .string ⟨#[]⟩] 56)) [] (.slice (some ⟨w.heap.size + 1 + 1 + 1, 0, none⟩) 3 3) anX := by
    have h := Sl.own (S := []) (World.ownsRow_lit (base := (((w.alloc (.cells #[.int .i64 1, .int .i64 1, .string ⟨#[]⟩] 53)).alloc (.cells #[(.slice (some ⟨w.heap.size, 0, none⟩) 1 1), .int .i64 2, .int .i64 1, (.slice (some ⟨w.heap.size, 0, none⟩) 1 1), .int .i64 9, .int .i64 (-1)] 37)).alloc (.cells #[(.slice (some ⟨w.heap.size, 0, none⟩) 1 1), .int .i64 4, .int .i64 1, (.slice (some ⟨w.heap.size, 0, none⟩) 1 1), .int .i64 6, .int .i64 (-1)] 37)).heap.size) (e := 56) (size := 3) (((w.alloc (.cells #[.int .i64 1, .int .i64 1, .string ⟨#[]⟩] 53)).alloc (.cells #[(.slice (some ⟨w.heap.size, 0, none⟩) 1 1), .int .i64 2, .int .i64 1, (.slice (some ⟨w.heap.size, 0, none⟩) 1 1), .int .i64 9, .int .i64 (-1)] 37)).alloc (.cells #[(.slice (some ⟨w.heap.size, 0, none⟩) 1 1), .int .i64 4, .int .i64 1, (.slice (some ⟨w.heap.size, 0, none⟩) 1 1), .int .i64 6, .int .i64 (-1)] 37)) #[.int .i64 3, .int .i64 0, .string ⟨#[]⟩, .int .i64 3, .int .i64 1, .string ⟨#[]⟩, .int .i64 13, .int .i64 0, .string ⟨#[]⟩] 3 (Nat.le_refl _) (by decide) rfl) (by simp)
    rw [World.size_alloc, World.size_alloc, World.size_alloc] at h
    exact h
  have hX0 := hide ((((((Ext.refl w).alloc (.cells #[.int .i64 1, .int .i64 1, .string ⟨#[]⟩] 53)).alloc (.cells #[(.slice (some ⟨w.heap.size, 0, none⟩) 1 1), .int .i64 2, .int .i64 1, (.slice (some ⟨w.heap.size, 0, none⟩) 1 1), .int .i64 9, .int .i64 (-1)] 37)).alloc (.cells #[(.slice (some ⟨w.heap.size, 0, none⟩) 1 1), .int .i64 4, .int .i64 1, (.slice (some ⟨w.heap.size, 0, none⟩) 1 1), .int .i64 6, .int .i64 (-1)] 37)).alloc (.cells #[.int .i64 3, .int .i64 0, .string ⟨#[]⟩, .int .i64 3, .int .i64 1, .string ⟨#[]⟩, .int .i64 13, .int .i64 0, .string ⟨#[]⟩] 56) : Ext w ((((w.alloc (.cells #[.int .i64 1, .int .i64 1, .string ⟨#[]⟩] 53)).alloc (.cells #[(.slice (some ⟨w.heap.size, 0, none⟩) 1 1), .int .i64 2, .int .i64 1, (.slice (some ⟨w.heap.size, 0, none⟩) 1 1), .int .i64 9, .int .i64 (-1)] 37)).alloc (.cells #[(.slice (some ⟨w.heap.size, 0, none⟩) 1 1), .int .i64 4, .int .i64 1, (.slice (some ⟨w.heap.size, 0, none⟩) 1 1), .int .i64 6, .int .i64 (-1)] 37)).alloc (.cells #[.int .i64 3, .int .i64 0, .string ⟨#[]⟩, .int .i64 3, .int .i64 1, .string ⟨#[]⟩, .int .i64 13, .int .i64 0, .string ⟨#[]⟩] 56))))
  have hal := hide (antAlone_c anX [((.slice (some ⟨w.heap.size, 0, none⟩) 1 1), anR, (2, 1)), ((.slice (some ⟨w.heap.size, 0, none⟩) 1 1), anR, (9, -1))] [((.slice (some ⟨w.heap.size, 0, none⟩) 1 1), anR, (4, 1)), ((.slice (some ⟨w.heap.size, 0, none⟩) 1 1), anR, (6, -1))] an_inX an_inL an_inM _ _ _ ((((w.alloc (.cells #[.int .i64 1, .int .i64 1, .string ⟨#[]⟩] 53)).alloc (.cells #[(.slice (some ⟨w.heap.size, 0, none⟩) 1 1), .int .i64 2, .int .i64 1, (.slice (some ⟨w.heap.size, 0, none⟩) 1 1), .int .i64 9, .int .i64 (-1)] 37)).alloc (.cells #[(.slice (some ⟨w.heap.size, 0, none⟩) 1 1), .int .i64 4, .int .i64 1, (.slice (some ⟨w.heap.size, 0, none⟩) 1 1), .int .i64 6, .int .i64 (-1)] 37)).alloc (.cells #[.int .i64 3, .int .i64 0, .string ⟨#[]⟩, .int .i64 3, .int .i64 1, .string ⟨#[]⟩, .int .i64 13, .int .i64 0, .string ⟨#[]⟩] 56)) ((eL.ext ((Ext.refl _).alloc (.cells #[(.slice (some ⟨w.heap.size, 0, none⟩) 1 1), .int .i64 4, .int .i64 1, (.slice (some ⟨w.heap.size, 0, none⟩) 1 1), .int .i64 6, .int .i64 (-1)] 37))).ext ((Ext.refl _).alloc (.cells #[.int .i64 3, .int .i64 0, .string ⟨#[]⟩, .int .i64 3, .int .i64 1, .string ⟨#[]⟩, .int .i64 13, .int .i64 0, .string ⟨#[]⟩] 56))) (eM.ext ((Ext.refl _).alloc (.cells #[.int .i64 3, .int .i64 0, .string ⟨#[]⟩, .int .i64 3, .int .i64 1, .string ⟨#[]⟩, .int .i64 13, .int .i64 0, .string ⟨#[]⟩] 56))) eX)
  rw [show eds [((.slice (some ⟨w.heap.size, 0, none⟩) 1 1), anR, (2, 1)), ((.slice (some ⟨w.heap.size, 0, none⟩) 1 1), anR, (9, -1))] = anL from rfl, show eds [((.slice (some ⟨w.heap.size, 0, none⟩) 1 1), anR, (4, 1)), ((.slice (some ⟨w.heap.size, 0, none⟩) 1 1), anR, (6, -1))] = anM from rfl, an_a, an_b] at hal
  have hpa := hide (fun w' vf (hX : Ext ((((w.alloc (.cells #[.int .i64 1, .int .i64 1, .string ⟨#[]⟩] 53)).alloc (.cells #[(.slice (some ⟨w.heap.size, 0, none⟩) 1 1), .int .i64 2, .int .i64 1, (.slice (some ⟨w.heap.size, 0, none⟩) 1 1), .int .i64 9, .int .i64 (-1)] 37)).alloc (.cells #[(.slice (some ⟨w.heap.size, 0, none⟩) 1 1), .int .i64 4, .int .i64 1, (.slice (some ⟨w.heap.size, 0, none⟩) 1 1), .int .i64 6, .int .i64 (-1)] 37)).alloc (.cells #[.int .i64 3, .int .i64 0, .string ⟨#[]⟩, .int .i64 3, .int .i64 1, .string ⟨#[]⟩, .int .i64 13, .int .i64 0, .string ⟨#[]⟩] 56)) w') (hf : Jw w' [] vf [(0, 1)]) => antPartners_c anR anX [(0, 1)] [((.slice (some ⟨w.heap.size, 0, none⟩) 1 1), anR, (4, 1)), ((.slice (some ⟨w.heap.size, 0, none⟩) 1 1), anR, (6, -1))] an_inR an_inX an_inM (.slice (some ⟨w.heap.size + 1 + 1, 0, none⟩) 2 2) (.slice (some ⟨w.heap.size, 0, none⟩) 1 1) vf (.slice (some ⟨w.heap.size + 1 + 1 + 1, 0, none⟩) 3 3) w' (Sl.ext (Sl.alloc (Sl.alloc (Sl.alloc r0 _) _) _) hX) hf ((eM.ext ((Ext.refl _).alloc (.cells #[.int .i64 3, .int .i64 0, .string ⟨#[]⟩, .int .i64 3, .int .i64 1, .string ⟨#[]⟩, .int .i64 13, .int .i64 0, .string ⟨#[]⟩] 56))).ext hX) (Sl.ext eX hX))
  rw [show eds [((.slice (some ⟨w.heap.size, 0, none⟩) 1 1), anR, (4, 1)), ((.slice (some ⟨w.heap.size, 0, none⟩) 1 1), anR, (6, -1))] = anM from rfl, an_c] at hpa
  clear r0 eL eM eX
  go_enter Tryz.func24, Tryz.ntmps24
  go_wp2_with (first
    | (go_at_call 28; refine hal.out.mono ?_; rintro ee w4 ⟨v4, M, rfl, hM, ho4, hx4⟩; have hx4' := hide hx4; obtain ⟨u1, hu1⟩ := eds_at (show (eds M)[1]? = some (anR, (4, -1)) by rw [hM]; rfl); obtain ⟨u2, hu2⟩ := eds_at (show (eds M)[2]? = some (anR, (6, 1)) by rw [hM]; rfl); have hl4 : M.length = 4 := (by have h := congrArg List.length hM; simpa [eds] using h); obtain ⟨A4, cap4, rfl, -, -, hat⟩ := ew_form ho4.ew; obtain ⟨b4, o4, rfl, -, hb4, -, c1, c2⟩ := hat 1 _ hu1; obtain ⟨b5, o5, e5, -, -, -, c3, -⟩ := hat 2 _ hu2; cases e5; rw [hl4]; have d1 := hide c1; have d2 := hide c2; have d3 := hide c3; clear c1 c2 c3 hat hu1 hu2 hM ho4 hx4)
    | (go_at_call 25; refine (hpa.out _ _ (hx4'.out.alloc _) (oneJ_new (0, 1) _)).mono ?_; rintro ee w5 ⟨v5, rfl, ho5, hx5⟩; have hx5' := hide ((hx4'.out.alloc (.cells #[.int .i64 0, .int .i64 1] 80)).trans hx5); have hy5 := hide (((Ext.refl _).alloc (.cells #[.int .i64 0, .int .i64 1] 80)).trans hx5); obtain ⟨A5, cap5, rfl⟩ := own_form ho5; rw [an_d]; have k1 := cell_later hy5.out d1.out; have k2 := cell_later hy5.out d2.out; have k3 := cell_later hy5.out d3.out; haveI : In b4 w5 := ⟨block_lt_of_cell k1⟩; clear ho5 hx5))
  go_returns
  exact ⟨by first | rfl | simp, hX0.out.trans hx5'.out⟩
end Go.Proofs.YtljkneajdndgjabGreat
set_option linter.unusedVariables false
set_option linter.unusedSimpArgs false
namespace Go.Proofs.YtljkneajdndgjabGreat
open Go.RowKit
attribute [local go_sem] GW.cell GW.frozen In.eq_true In.le_true In.ne In.ne' In.ne_add In.ne_add' In.lt_add Upto.le_true Upto.le_add Upto.lt_add
theorem grp_src : ∀ (l : List Ed) (g : Gp), g ∈ grp l → ∃ e ∈ l, e.1 = g.1
  | [], g, hg => by simp [grp] at hg
  | e :: l, g, hg => by
    have ih := grp_src l
    rw [grp] at hg
    split at hg
    · obtain rfl := List.mem_singleton.1 hg
      exact ⟨e, List.mem_cons_self .., rfl⟩
    · rename_i q f t h
      rw [h] at ih
      split at hg
      · rename_i hq
        rcases List.mem_cons.1 hg with rfl | hg
        · exact ⟨e, List.mem_cons_self .., hq.symm⟩
        · obtain ⟨d, hd, h2⟩ := ih g (List.mem_cons_of_mem _ hg)
          exact ⟨d, List.mem_cons_of_mem _ hd, h2⟩
      · rcases List.mem_cons.1 hg with rfl | hg
        · exact ⟨e, List.mem_cons_self .., rfl⟩
        · obtain ⟨d, hd, h2⟩ := ih g hg
          exact ⟨d, List.mem_cons_of_mem _ hd, h2⟩
theorem grp_in {l : List Ed} (h : ∀ e ∈ l, ∀ v ∈ e.1, inW v) : ∀ g ∈ grp l, ∀ v ∈ g.1, inW v := fun g hg => by
  obtain ⟨e, he, e1⟩ := grp_src l g hg
  rw [← e1]
  exact h e he
set_option maxHeartbeats 2000000 in
theorem antFew_c (L : List Ve) (v : Value) (w : World) (hC : Ew w [] v L) : Calls Tryz.prog 23 #[v] w fun e w' => e = .returned (.bool (decide (L.length ≤ 40))) ∧ Ext w w' := by
  obtain ⟨A, cap, rfl, hlc, hlm, -⟩ := ew_form hC
  unfold maxLen at hlm
  clear hC
  by_cases h : L.length ≤ 40
  all_goals
    go_enter Tryz.func23, Tryz.ntmps23
    go_wp2_with fail
    go_returns
    exact ⟨by first | rfl | (simp [h]; done) | (simp; omega), Ext.refl _⟩
set_option maxHeartbeats 8000000 in
set_option maxRecDepth 100000 in
theorem antiPartners_walk (r : List Vl) (f : List Jp) (L : List Ve) (ws : List Vl) (hri : ∀ v ∈ r, inW v) (hLi : ∀ e ∈ eds L, ∀ v ∈ e.1, inW v) (hi : ∀ v ∈ ws, inW v) (vr vf v vx : Value) (w : World) (hr : Rw w [] vr r) (hf : Jw w [] vf f) (hC : Ew w [] v L) (hx : Rw w [] vx ws) :
    Calls Tryz.prog 7 #[vr, vf, v, vx] w fun e w' => e = .returned (.bool true) ∧ Ext w w' := by
  have hl := hide (fun w => antLive_c w)
  have hfw := hide (fun w' (hX : Ext w w') => antFew_c L v w' (hC.ext hX))
  have hap := hide (fun w' (hX : Ext w w') => antPartners_c r ws f L hri hi (grp_in hLi) v vr vf vx w' (Sl.ext hr hX) (Sl.ext hf hX) (hC.ext hX) (Sl.ext hx hX))
  have hrp := hide (fun (h : L.length ≤ 40) w' (hX : Ext w w') => refPartners_c r ws f L hri hi hLi (by omega) v vr vf vx w' (Sl.ext hr hX) (Sl.ext hf hX) (hC.ext hX) (Sl.ext hx hX))
  obtain ⟨RA, rcap, rfl, -, -, -⟩ := rw_form hr
  obtain ⟨FA, fcap, rfl, -, hfm, -⟩ := jw_form hf
  obtain ⟨XA, xcap, rfl, -, -, -⟩ := rw_form hx
  obtain ⟨LA, lcap, rfl, -, hlm, -⟩ := ew_form hC
  unfold maxLen at hfm hlm
  clear hr hf hC hx hri hi hLi
  obtain ⟨E, hE⟩ : ∃ E, E = apE r f (eds L) ws := ⟨_, rfl⟩
  obtain ⟨S, hS⟩ : ∃ S, S = apR r f (eds L) ws := ⟨_, rfl⟩
  rw [← hE, ← hS] at hap hrp
  clear hE hS
  have hsm := hide (fun v u w' (h1 : Jw w' [] v S) (h2 : Jw w' [] u S) => refStepSame_c S S v u w' h1 h2)
  rw [show decide (S = S) = true by simp] at hsm
  by_cases h40 : L.length ≤ 40
  case neg =>
    rw [decide_eq_false h40] at hfw
    clear hap hrp hsm
    go_enter Tryz.func7, Tryz.ntmps7
    go_wp2_with (first | (go_at_call 23; (with_reducible refine seq_gw (hfw.out _ (Ext.refl _)) ?_); intro g) | (go_at_call 24; (with_reducible refine seq_gw' (hl.out _) ?_); intro g2))
    go_returns
    exact ⟨rfl, g2.grown⟩
  rw [decide_eq_true h40] at hfw
  by_cases hf40 : 40 < f.length
  case pos =>
    have hfI : (40 : Int) < f.length := by omega
    have d1 : decide ((40 : Int) < f.length) = true := decide_eq_true hfI
    clear hap hrp hsm
    go_enter Tryz.func7, Tryz.ntmps7
    go_wp2_with (first | (go_at_call 23; (with_reducible refine seq_gw (hfw.out _ (Ext.refl _)) ?_); intro g) | (go_at_call 24; (with_reducible refine seq_gw' (hl.out _) ?_); intro g2))
    go_returns
    exact ⟨rfl, g2.grown⟩
  have hfI : ¬ (40 : Int) < f.length := by omega
  have d1 : decide ((40 : Int) < f.length) = false := decide_eq_false hfI
  replace hrp := hide (hrp.out h40)
  have hEE : (E == E) = true := by simp
  go_enter Tryz.func7, Tryz.ntmps7
  go_wp2_with (first | (go_at_call 23; (with_reducible refine seq_gw (hfw.out _ (Ext.refl _)) ?_); intro g) | (go_at_call 25; refine (hap.out _ g.grown).mono ?_; rintro ee w4 ⟨v4, rfl, ho4, hx4⟩; have hx4' := hide (g.grown.trans hx4); have hj4 := hide (own_jw (S := []) ho4 (by simp)); obtain ⟨A4, c4, q4⟩ := own_form ho4; subst q4; clear ho4 hx4) | (go_at_call 26; refine (hrp.out _ hx4'.out).mono ?_; rintro ee w5 ⟨v5, rfl, hj5, hx5⟩; have hx5' := hide (hx4'.out.trans hx5); have hj5' := hide hj5; have hj45 := hide (Sl.ext hj4.out hx5); obtain ⟨A5, c5, rfl, -, -, -⟩ := jw_form hj5; clear hj5 hx5) | (go_at_call 24; (with_reducible refine seq_gw (hl.out _) ?_); intro g6) | (go_at_call 27; (with_reducible refine seq_gw' (hsm.out _ _ _ (Sl.ext hj45.out g6.grown) (Sl.ext hj5'.out g6.grown)) ?_); intro g7))
  go_returns
  exact ⟨by first | rfl | simp, hx5'.out.trans g7.grown⟩
end Go.Proofs.YtljkneajdndgjabGreat
