/-
  A helper of ours: no claim of its own. Layer 32 (anti): what is alone is a table; the walk of the law AntiAlone.
-/
import Derived.Test.YtljkneajdndgjabGreatAntF
import Derived.Test.YtljkneajdndgjabGreatEdgBj
import Derived.Test.YtljkneajdndgjabGreatStepR
import Derived.Test.YtljkneajdndgjabGreatAntJ
import Derived.Test.YtljkneajdndgjabGreatAntiAloneF
set_option linter.unusedVariables false
set_option linter.unusedSimpArgs false
namespace Go.Proofs.YtljkneajdndgjabGreat
open Go.RowKit
attribute [local go_sem] GW.cell GW.frozen In.eq_true In.le_true In.ne In.ne' In.ne_add In.ne_add' In.lt_add Upto.le_true Upto.le_add Upto.lt_add
def anR : List Vl := [(1, 1, ⟨#[]⟩)]
def anX : List Vl := [(3, 0, ⟨#[]⟩), (3, 1, ⟨#[]⟩), (13, 0, ⟨#[]⟩)]
def anL : List Ed := [(anR, (2, 1)), (anR, (9, -1))]
def anM : List Ed := [(anR, (4, 1)), (anR, (6, -1))]
theorem an_a : aoE anL anM anX = 0 := by decide +kernel
theorem an_b : aoR anL anM anX = [(anR, (2, 1)), (anR, (4, -1)), (anR, (6, 1)), (anR, (9, -1))] := by kernel_rfl
theorem an_c : apE anR [(0, 1)] anM anX = 0 := by decide +kernel
theorem an_d : (apR anR [(0, 1)] anM anX).length = 2 := by decide +kernel
theorem an_inR : ∀ v ∈ anR, inW v := by intro o ho; simp only [anR, List.mem_cons, List.not_mem_nil, or_false] at ho; subst ho; exact ⟨by decide, by decide⟩
theorem an_inX : ∀ o ∈ anX, inW o := by intro o ho; simp only [anX, List.mem_cons, List.not_mem_nil, or_false] at ho; rcases ho with rfl | rfl | rfl <;> exact ⟨by decide, by decide⟩
theorem an_gL : grp anL = [(anR, [(2, 1), (9, -1)])] := by kernel_rfl
theorem an_gM : grp anM = [(anR, [(4, 1), (6, -1)])] := by kernel_rfl
theorem an_inL : ∀ g ∈ grp anL, ∀ v ∈ g.1, inW v := by rw [an_gL]; intro g hg; obtain rfl := List.mem_singleton.1 hg; exact an_inR
theorem an_inM : ∀ g ∈ grp anM, ∀ v ∈ g.1, inW v := by rw [an_gM]; intro g hg; obtain rfl := List.mem_singleton.1 hg; exact an_inR
theorem eds_at {M : List Ve} {i : Nat} {e : Ed} (h : (eds M)[i]? = some e) : ∃ u, M[i]? = some (u, e.1, e.2) := by
  unfold eds at h
  rw [List.getElem?_map] at h
  obtain ⟨p, hp, rfl⟩ := Option.map_eq_some_iff.1 h
  exact ⟨p.1, hp⟩
set_option maxHeartbeats 8000000 in
set_option maxRecDepth 100000 in
theorem antLive_c (w : World) : Calls Tryz.prog 24 #[] w fun e w' => e = .returned (.bool true) ∧ Ext w w' := by
  have r0 : Rw (w.alloc (.cells #[.int .i64 1, .int .i64 1, .string ⟨#[]⟩] 53)) [] (.slice (some ⟨w.heap.size, 0, none⟩) 1 1) anR := Sl.own (World.ownsRow_lit (base := w.heap.size) (e := 53) (size := 3) w #[.int .i64 1, .int .i64 1, .string ⟨#[]⟩] 1 (Nat.le_refl _) (by decide) rfl) (by simp)
  have eL : Ew ((w.alloc (.cells #[.int .i64 1, .int .i64 1, .string ⟨#[]⟩] 53)).alloc (.cells #[(.slice (some ⟨w.heap.size, 0, none⟩) 1 1), .int .i64 2, .int .i64 1, (.slice (some ⟨w.heap.size, 0, none⟩) 1 1), .int .i64 9, .int .i64 (-1)] 37)) [] (.slice (some ⟨w.heap.size + 1, 0, none⟩) 2 2) [((.slice (some ⟨w.heap.size, 0, none⟩) 1 1), anR, (2, 1)), ((.slice (some ⟨w.heap.size, 0, none⟩) 1 1), anR, (9, -1))] := by
    refine ⟨?_, ?_⟩
    · have h := Sl.own (S := []) (World.ownsRow_lit (base := (w.alloc (.cells #[.int .i64 1, .int .i64 1, .string ⟨#[]⟩] 53)).heap.size) (e := 37) (size := 3) (w.alloc (.cells #[.int .i64 1, .int .i64 1, .string ⟨#[]⟩] 53)) #[(.slice (some ⟨w.heap.size, 0, none⟩) 1 1), .int .i64 2, .int .i64 1, (.slice (some ⟨w.heap.size, 0, none⟩) 1 1), .int .i64 9, .int .i64 (-1)] 2 (Nat.le_refl _) (by decide) rfl) (by simp)
      rw [World.size_alloc] at h
      exact h
    · intro p hp
      simp only [List.mem_cons, List.not_mem_nil, or_false] at hp
      rcases hp with rfl | rfl
      · exact Sl.alloc r0 _
      · exact Sl.alloc r0 _
  have eM : Ew (((w.alloc (.cells #[.int .i64 1, .int .i64 1, .string ⟨#[]⟩] 53)).alloc (.cells #[(.slice (some ⟨w.heap.size, 0, none⟩) 1 1), .int .i64 2, .int .i64 1, (.slice (some ⟨w.heap.size, 0, none⟩) 1 1), .int .i64 9, .int .i64 (-1)] 37)).alloc (.cells #[(.slice (some ⟨w.heap.size, 0, none⟩) 1 1), .int .i64 4, .int .i64 1, (.slice (some ⟨w.heap.size, 0, none⟩) 1 1), .int .i64 6, .int .i64 (-1)] 37)) [] (.slice (some ⟨w.heap.size + 1 + 1, 0, none⟩) 2 2) [((.slice (some ⟨w.heap.size, 0, none⟩) 1 1), anR, (4, 1)), ((.slice (some ⟨w.heap.size, 0, none⟩) 1 1), anR, (6, -1))] := by
    refine ⟨?_, ?_⟩
    · have h := Sl.own (S := []) (World.ownsRow_lit (base := ((w.alloc (.cells #[.int .i64 1, .int .i64 1, .string ⟨#[]⟩] 53)).alloc (.cells #[(.slice (some ⟨w.heap.size, 0, none⟩) 1 1), .int .i64 2, .int .i64 1, (.slice (some ⟨w.heap.size, 0, none⟩) 1 1), .int .i64 9, .int .i64 (-1)] 37)).heap.size) (e := 37) (size := 3) ((w.alloc (.cells #[.int .i64 1, .int .i64 1, .string ⟨#[]⟩] 53)).alloc (.cells #[(.slice (some ⟨w.heap.size, 0, none⟩) 1 1), .int .i64 2, .int .i64 1, (.slice (some ⟨w.heap.size, 0, none⟩) 1 1), .int .i64 9, .int .i64 (-1)] 37)) #[(.slice (some ⟨w.heap.size, 0, none⟩) 1 1), .int .i64 4, .int .i64 1, (.slice (some ⟨w.heap.size, 0, none⟩) 1 1), .int .i64 6, .int .i64 (-1)] 2 (Nat.le_refl _) (by decide) rfl) (by simp)
      rw [World.size_alloc, World.size_alloc] at h
      exact h
    · intro p hp
      simp only [List.mem_cons, List.not_mem_nil, or_false] at hp
      rcases hp with rfl | rfl
      · exact Sl.alloc (Sl.alloc r0 _) _
      · exact Sl.alloc (Sl.alloc r0 _) _
  have eX : Rw ((((w.alloc (.cells #[.int .i64 1, .int .i64 1, .string ⟨#[]⟩] 53)).alloc (.cells #[(.slice (some ⟨w.heap.size, 0, none⟩) 1 1), .int .i64 2, .int .i64 1, (.slice (some ⟨w.heap.size, 0, none⟩) 1 1), .int .i64 9, .int .i64 (-1)] 37)).alloc (.cells #[(.slice (some ⟨w.heap.size, 0, none⟩) 1 1), .int .i64 4, .int .i64 1, (.slice (some ⟨w.heap.size, 0, none⟩) 1 1), .int .i64 6, .int .i64 (-1)] 37)).alloc (.cells #[.int .i64 3, .int .i64 0, .string ⟨#[]⟩, .int .i64 3, .int .i64 1, .string ⟨#[]⟩, .int .i64 13, .int .i64 0, .string ⟨#[]⟩] 56)) [] (.slice (some ⟨w.heap.size + 1 + 1 + 1, 0, none⟩) 3 3) anX := by
    have h := Sl.own (S := []) (World.ownsRow_lit (base := (((w.alloc (.cells #[.int .i64 1, .int .i64 1, .string ⟨#[]⟩] 53)).alloc (.cells #[(.slice (some ⟨w.heap.size, 0, none⟩) 1 1), .int .i64 2, .int .i64 1, (.slice (some ⟨w.heap.size, 0, none⟩) 1 1), .int .i64 9, .int .i64 (-1)] 37)).alloc (.cells #[(.slice (some ⟨w.heap.size, 0, none⟩) 1 1), .int .i64 4, .int .i64 1, (.slice (some ⟨w.heap.size, 0, none⟩) 1 1), .int .i64 6, .int .i64 (-1)] 37)).heap.size) (e := 56) (size := 3) (((w.alloc (.cells #[.int .i64 1, .int .i64 1, .string ⟨#[]⟩] 53)).alloc (.cells #[(.slice (some ⟨w.heap.size, 0, none⟩) 1 1), .int .i64 2, .int .i64 1, (.slice (some ⟨w.heap.size, 0, none⟩) 1 1), .int .i64 9, .int .i64 (-1)] 37)).alloc (.cells #[(.slice (some ⟨w.heap.size, 0, none⟩) 1 1), .int .i64 4, .int .i64 1, (.slice (some ⟨w.heap.size, 0, none⟩) 1 1), .int .i64 6, .int .i64 (-1)] 37)) #[.int .i64 3, .int .i64 0, .string ⟨#[]⟩, .int .i64 3, .int .i64 1, .string ⟨#[]⟩, .int .i64 13, .int .i64 0, .string ⟨#[]⟩] 3 (Nat.le_refl _) (by decide) rfl) (by simp)
    rw [World.size_alloc, World.size_alloc, World.size_alloc] at h
    exact h
  have hX0 := hide ((((((Ext.refl w).alloc (.cells #[.int .i64 1, .int .i64 1, .string ⟨#[]⟩] 53)).alloc (.cells #[(.slice (some ⟨w.heap.size, 0, none⟩) 1 1), .int .i64 2, .int .i64 1, (.slice (some ⟨w.heap.size, 0, none⟩) 1 1), .int .i64 9, .int .i64 (-1)] 37)).alloc (.cells #[(.slice (some ⟨w.heap.size, 0, none⟩) 1 1), .int .i64 4, .int .i64 1, (.slice (some ⟨w.heap.size, 0, none⟩) 1 1), .int .i64 6, .int .i64 (-1)] 37)).alloc (.cells #[.int .i64 3, .int .i64 0, .string ⟨#[]⟩, .int .i64 3, .int .i64 1, .string ⟨#[]⟩, .int .i64 13, .int .i64 0, .string ⟨#[]⟩] 56) : Ext w ((((w.alloc (.cells #[.int .i64 1, .int .i64 1, .string ⟨#[]⟩] 53)).alloc (.cells #[(.slice (some ⟨w.heap.size, 0, none⟩) 1 1), .int .i64 2, .int .i64 1, (.slice (some ⟨w.heap.size, 0, none⟩) 1 1), .int .i64 9, .int .i64 (-1)] 37)).alloc (.cells #[(.slice (some ⟨w.heap.size, 0, none⟩) 1 1), .int .i64 4, .int .i64 1, (.slice (some ⟨w.heap.size, 0, none⟩) 1 1), .int .i64 6, .int .i64 (-1)] 37)).alloc (.cells #[.int .i64 3, .int .i64 0, .string ⟨#[]⟩, .int .i64 3, .int .i64 1, .string ⟨#[]⟩, .int .i64 13, .int .i64 0, .string ⟨#[]⟩] 56))))
  have hal := hide (antAlone_c anX [((.slice (some ⟨w.heap.size, 0, none⟩) 1 1), anR, (2, 1)), ((.slice (some ⟨w.heap.size, 0, none⟩) 1 1), anR, (9, -1))] [((.slice (some ⟨w.heap.size, 0, none⟩) 1 1), anR, (4, 1)), ((.slice (some ⟨w.heap.size, 0, none⟩) 1 1), anR, (6, -1))] an_inX an_inL an_inM _ _ _ ((((w.alloc (.cells #[.int .i64 1, .int .i64 1, .string ⟨#[]⟩] 53)).alloc (.cells #[(.slice (some ⟨w.heap.size, 0, none⟩) 1 1), .int .i64 2, .int .i64 1, (.slice (some ⟨w.heap.size, 0, none⟩) 1 1), .int .i64 9, .int .i64 (-1)] 37)).alloc (.cells #[(.slice (some ⟨w.heap.size, 0, none⟩) 1 1), .int .i64 4, .int .i64 1, (.slice (some ⟨w.heap.size, 0, none⟩) 1 1), .int .i64 6, .int .i64 (-1)] 37)).alloc (.cells #[.int .i64 3, .int .i64 0, .string ⟨#[]⟩, .int .i64 3, .int .i64 1, .string ⟨#[]⟩, .int .i64 13, .int .i64 0, .string ⟨#[]⟩] 56)) ((eL.ext ((Ext.refl _).alloc (.cells #[(.slice (some ⟨w.heap.size, 0, none⟩) 1 1), .int .i64 4, .int .i64 1, (.slice (some ⟨w.heap.size, 0, none⟩) 1 1), .int .i64 6, .int .i64 (-1)] 37))).ext ((Ext.refl _).alloc (.cells #[.int .i64 3, .int .i64 0, .string ⟨#[]⟩, .int .i64 3, .int .i64 1, .string ⟨#[]⟩, .int .i64 13, .int .i64 0, .string ⟨#[]⟩] 56))) (eM.ext ((Ext.refl _).alloc (.cells #[.int .i64 3, .int .i64 0, .string ⟨#[]⟩, .int .i64 3, .int .i64 1, .string ⟨#[]⟩, .int .i64 13, .int .i64 0, .string ⟨#[]⟩] 56))) eX)
  rw [show eds [((.slice (some ⟨w.heap.size, 0, none⟩) 1 1), anR, (2, 1)), ((.slice (some ⟨w.heap.size, 0, none⟩) 1 1), anR, (9, -1))] = anL from rfl, show eds [((.slice (some ⟨w.heap.size, 0, none⟩) 1 1), anR, (4, 1)), ((.slice (some ⟨w.heap.size, 0, none⟩) 1 1), anR, (6, -1))] = anM from rfl, an_a, an_b] at hal
  have hpa := hide (fun w' vf (hX : Ext ((((w.alloc (.cells #[.int .i64 1, .int .i64 1, .string ⟨#[]⟩] 53)).alloc (.cells #[(.slice (some ⟨w.heap.size, 0, none⟩) 1 1), .int .i64 2, .int .i64 1, (.slice (some ⟨w.heap.size, 0, none⟩) 1 1), .int .i64 9, .int .i64 (-1)] 37)).alloc (.cells #[(.slice (some ⟨w.heap.size, 0, none⟩) 1 1), .int .i64 4, .int .i64 1, (.slice (some ⟨w.heap.size, 0, none⟩) 1 1), .int .i64 6, .int .i64 (-1)] 37)).alloc (.cells #[.int .i64 3, .int .i64 0, .string ⟨#[]⟩, .int .i64 3, .int .i64 1, .string ⟨#[]⟩, .int .i64 13, .int .i64 0, .string ⟨#[]⟩] 56)) w') (hf : Jw w' [] vf [(0, 1)]) => antPartners_c anR anX [(0, 1)] [((.slice (some ⟨w.heap.size, 0, none⟩) 1 1), anR, (4, 1)), ((.slice (some ⟨w.heap.size, 0, none⟩) 1 1), anR, (6, -1))] an_inR an_inX an_inM (.slice (some ⟨w.heap.size + 1 + 1, 0, none⟩) 2 2) (.slice (some ⟨w.heap.size, 0, none⟩) 1 1) vf (.slice (some ⟨w.heap.size + 1 + 1 + 1, 0, none⟩) 3 3) w' (Sl.ext (Sl.alloc (Sl.alloc (Sl.alloc r0 _) _) _) hX) hf ((eM.ext ((Ext.refl _).alloc (.cells #[.int .i64 3, .int .i64 0, .string ⟨#[]⟩, .int .i64 3, .int .i64 1, .string ⟨#[]⟩, .int .i64 13, .int .i64 0, .string ⟨#[]⟩] 56))).ext hX) (Sl.ext eX hX))
  rw [show eds [((.slice (some ⟨w.heap.size, 0, none⟩) 1 1), anR, (4, 1)), ((.slice (some ⟨w.heap.size, 0, none⟩) 1 1), anR, (6, -1))] = anM from rfl, an_c] at hpa
  clear r0 eL eM eX
  go_enter Tryz.func24, Tryz.ntmps24
  go_wp2_with (first
    | (go_at_call 28; refine hal.out.mono ?_; rintro ee w4 ⟨v4, M, rfl, hM, ho4, hx4⟩; have hx4' := hide hx4; obtain ⟨u1, hu1⟩ := eds_at (show (eds M)[1]? = some (anR, (4, -1)) by rw [hM]; rfl); obtain ⟨u2, hu2⟩ := eds_at (show (eds M)[2]? = some (anR, (6, 1)) by rw [hM]; rfl); have hl4 : M.length = 4 := (by have h := congrArg List.length hM; simpa [eds] using h); obtain ⟨A4, cap4, rfl, -, -, hat⟩ := ew_form ho4.ew; obtain ⟨b4, o4, rfl, -, hb4, -, c1, c2⟩ := hat 1 _ hu1; obtain ⟨b5, o5, e5, -, -, -, c3, -⟩ := hat 2 _ hu2; cases e5; rw [hl4]; have d1 := hide c1; have d2 := hide c2; have d3 := hide c3; clear c1 c2 c3 hat hu1 hu2 hM ho4 hx4)
    | (go_at_call 25; refine (hpa.out _ _ (hx4'.out.alloc _) (oneJ_new (0, 1) _)).mono ?_; rintro ee w5 ⟨v5, rfl, ho5, hx5⟩; have hx5' := hide ((hx4'.out.alloc (.cells #[.int .i64 0, .int .i64 1] 80)).trans hx5); have hy5 := hide (((Ext.refl _).alloc (.cells #[.int .i64 0, .int .i64 1] 80)).trans hx5); obtain ⟨A5, cap5, rfl⟩ := own_form ho5; rw [an_d]; have k1 := cell_later hy5.out d1.out; have k2 := cell_later hy5.out d2.out; have k3 := cell_later hy5.out d3.out; haveI : In b4 w5 := ⟨block_lt_of_cell k1⟩; clear ho5 hx5))
  go_returns
  exact ⟨by first | rfl | simp, hX0.out.trans hx5'.out⟩
end Go.Proofs.YtljkneajdndgjabGreat
set_option linter.unusedVariables false
set_option linter.unusedSimpArgs false
namespace Go.Proofs.YtljkneajdndgjabGreat
open Go.RowKit
attribute [local go_sem] GW.cell GW.frozen In.eq_true In.le_true In.ne In.ne' In.ne_add In.ne_add' In.lt_add Upto.le_true Upto.le_add Upto.lt_add
theorem grp_src : ∀ (l : List Ed) (g : Gp), g ∈ grp l → ∃ e ∈ l, e.1 = g.1
  | [], g, hg => by simp [grp] at hg
  | e :: l, g, hg => by
    have ih := grp_src l
    rw [grp] at hg
    split at hg
    · obtain rfl := List.mem_singleton.1 hg
      exact ⟨e, List.mem_cons_self .., rfl⟩
    · rename_i q f t h
      rw [h] at ih
      split at hg
      · rename_i hq
        rcases List.mem_cons.1 hg with rfl | hg
        · exact ⟨e, List.mem_cons_self .., hq.symm⟩
        · obtain ⟨d, hd, h2⟩ := ih g (List.mem_cons_of_mem _ hg)
          exact ⟨d, List.mem_cons_of_mem _ hd, h2⟩
      · rcases List.mem_cons.1 hg with rfl | hg
        · exact ⟨e, List.mem_cons_self .., rfl⟩
        · obtain ⟨d, hd, h2⟩ := ih g hg
          exact ⟨d, List.mem_cons_of_mem _ hd, h2⟩
theorem grp_in {l : List Ed} (h : ∀ e ∈ l, ∀ v ∈ e.1, inW v) : ∀ g ∈ grp l, ∀ v ∈ g.1, inW v := fun g hg => by
  obtain ⟨e, he, e1⟩ := grp_src l g hg
  rw [← e1]
  exact h e he
set_option maxHeartbeats 2000000 in
theorem antFew_c (L : List Ve) (v : Value) (w : World) (hC : Ew w [] v L) : Calls Tryz.prog 23 #[v] w fun e w' => e = .returned (.bool (decide (L.length ≤ 40))) ∧ Ext w w' := by
  obtain ⟨A, cap, rfl, hlc, hlm, -⟩ := ew_form hC
  unfold maxLen at hlm
  clear hC
  by_cases h : L.length ≤ 40
  all_goals
    go_enter Tryz.func23, Tryz.ntmps23
    go_wp2_with fail
    go_returns
    exact ⟨by first | rfl | (simp [h]; done) | (simp; omega), Ext.refl _⟩
end Go.Proofs.YtljkneajdndgjabGreat
set_option linter.unusedVariables false
set_option linter.unusedSimpArgs false
namespace Go.Proofs.YtljkneajdndgjabGreat
open Go.RowKit
attribute [local go_sem] GW.cell GW.frozen In.eq_true In.le_true In.ne In.ne' In.ne_add In.ne_add' In.lt_add Upto.le_true Upto.le_add Upto.lt_add
theorem ajv_stay {f : List Jp} {p : Int} (h : ∀ j ∈ f, j.1 ≠ p) : jv f p = jv f (p - 1) := by
  induction f with
  | nil => rfl
  | cons a r ih =>
    rw [jv, jv, ih (fun j hj => h j (List.mem_cons_of_mem _ hj))]
    have := h a (by simp)
    congr 1
    by_cases h1 : a.1 ≤ p
    · rw [if_pos h1, if_pos (by omega)]
    · rw [if_neg h1, if_neg (by omega)]
theorem aleF_iff (f : List Jp) : ∀ (g : List Jp) (m : Int), 0 ≤ leF f m g ↔ 0 ≤ m ∧ ∀ j ∈ g, 0 ≤ jv f j.1
  | [], m => by simp [leF]
  | a :: g, m => by
    have ih := aleF_iff f g (min m (jv f a.1))
    have e : leF f m (a :: g) = leF f (min m (jv f a.1)) g := by simp [leF]
    rw [e, ih]
    constructor
    · rintro ⟨h1, h2⟩
      refine ⟨by omega, fun j hj => ?_⟩
      rcases List.mem_cons.1 hj with rfl | hj
      · omega
      · exact h2 j hj
    · rintro ⟨h1, h2⟩
      exact ⟨by have := h2 a (by simp); omega, fun j hj => h2 j (List.mem_cons_of_mem _ hj)⟩
/-- Nowhere below none. -/
theorem ale_iff {f : List Jp} (h : mayJ f = true) : 0 ≤ leV f ↔ ∀ p, -1 ≤ p → 0 ≤ jv f p := by
  unfold leV
  rw [if_pos h, aleF_iff]
  constructor
  · rintro ⟨h1, h2⟩
    have key : ∀ n : Nat, 0 ≤ jv f ((n : Int) - 1) := by
      intro n
      induction n with
      | zero => exact h1
      | succ n ih =>
        by_cases hj : ∃ j ∈ f, j.1 = ((n + 1 : Nat) : Int) - 1
        · obtain ⟨j, hj, e⟩ := hj
          rw [← e]; exact h2 j hj
        · rw [ajv_stay (fun j hj' e => hj ⟨j, hj', e⟩)]
          have : ((n + 1 : Nat) : Int) - 1 - 1 = (n : Int) - 1 := by omega
          rw [this]; exact ih
    intro p hp
    have := key (p + 1).toNat
    rwa [show (((p + 1).toNat : Nat) : Int) - 1 = p by omega] at this
  · intro k
    exact ⟨k _ (Int.le_refl _), fun j hj => k _ (mayJ_at h j hj).1⟩
/-- What is alone is nowhere below none. -/
theorem woR_le {q : List Vl} {J : List Jp} {x : List Vl} {H : List Gp} (h : woE q J x H = 0) (hJ : 0 ≤ leV J) : 0 ≤ leV (woR q J x H) := by
  have hm := woR_may h
  rw [ale_iff hm]
  unfold woE at h
  unfold woR
  split at h
  · rename_i h0
    obtain ⟨m1, m2, m3⟩ := twE_zero.1 h
    rw [ale_iff m1] at hJ
    rw [if_pos h0, twR_ok h]
    intro p hp
    rw [opd_all (op := whO) rfl m1 m2]
    unfold whO
    split
    · exact hJ p hp
    · exact Int.le_refl 0
  · rename_i h0
    exact absurd h h0
/-- What the document has put together. -/
theorem ra_out {l : List Ed} {x : List Vl} {H : List Gp} (hl : mayE l = true) (h : (raGo x H (grp l) []).1 = 0) : (∀ q ∈ rowsL l, woE q (jmps l q) x H = 0) ∧ (raGo x H (grp l) []).2 = evL idO ((rowsL l).map fun q => (q, woR q (jmps l q) x H)) := by
  have hR := mayE_rise hl
  obtain ⟨m1, m2⟩ := raGo_flat x H (grp l) [] h
  rw [grp_eq hR] at m1
  refine ⟨fun q hq => m1 (q, jmps l q) (List.mem_map.2 ⟨q, hq, rfl⟩), ?_⟩
  rw [m2, grp_eq hR]
  unfold byRows evL
  rw [List.nil_append, List.flatMap_map, List.flatMap_map]
  rfl
/-- What has no partner is a table, and what it is at each row. -/
theorem ao_rows {l r : List Ed} {x : List Vl} (h : aoE l r x = 0) : mayE l = true ∧ mayE r = true ∧ tabE l = true ∧ tabE r = true ∧ formE x = 0 ∧ (∀ q ∈ rowsL l, woE q (jmps l q) x (grp r) = 0) ∧ aoR l r x = evL idO ((rowsL l).map fun q => (q, woR q (jmps l q) x (grp r))) ∧ (aoR l r x).length ≤ 4096 := by
  have h' := h
  unfold aoE at h'
  split at h'
  case isFalse => exact absurd h' (by decide)
  rename_i h1
  split at h'
  case isFalse => exact absurd h' (by decide)
  rename_i h2
  split at h'
  case isFalse h3 => exact absurd h' h3
  rename_i h3
  rw [Bool.and_eq_true] at h1 h2
  obtain ⟨s1, s2⟩ := ao_ra l r x h1.1 h1.2 h2.1 h2.2 h3
  rw [h] at s1
  by_cases h0 : (raGo x (grp r) (grp l) []).1 = 0
  · rw [if_pos h0] at s1 s2
    obtain ⟨m1, m2⟩ := ra_out h1.1 h0
    have hR := mayE_rise h1.1
    have hrow := rowsL_ok hR.1
    have hv : ∀ q ∈ rowsL l, mayR q = true := fun q hq => by
      obtain ⟨e, he, rfl⟩ := (hrow.2 q).1 hq
      exact hR.1 e he
    obtain ⟨n1, n2⟩ := ne_flat (fun q => woR q (jmps l q) x (grp r)) (rowsL l) hrow.1 hv (fun q hq => woR_may (m1 q hq)) _ m2
    rw [n1] at s1
    rw [n2] at s2
    by_cases h4 : 4096 < (raGo x (grp r) (grp l) []).2.length
    · rw [if_pos h4] at s1
      exact absurd s1 (by decide)
    · rw [if_neg h4] at s2
      exact ⟨h1.1, h1.2, h2.1, h2.2, h3, m1, by rw [s2, m2], by rw [s2]; omega⟩
  · rw [if_neg h0] at s1
    exact absurd s1.symm h0
theorem ao_jmps {l r : List Ed} {x : List Vl} (h : aoE l r x = 0) (q : List Vl) : jmps (aoR l r x) q = if hasR (rowsL l) q then woR q (jmps l q) x (grp r) else [] := by
  obtain ⟨h1, -, -, -, -, -, h6, -⟩ := ao_rows h
  rw [h6, jmps_rows idO (fun q => woR q (jmps l q) x (grp r)) q _ (rowsL_ok (mayE_rise h1).1).1]
  rfl
theorem ao_table {l r : List Ed} {x : List Vl} (h : aoE l r x = 0) : tabE (aoR l r x) = true := by
  obtain ⟨h1, h2, h3, h4, h5, h6, h7, h8⟩ := ao_rows h
  have hR := mayE_rise h1
  have hrow := rowsL_ok hR.1
  have hv : ∀ q ∈ rowsL l, mayR q = true := fun q hq => by
    obtain ⟨e, he, rfl⟩ := (hrow.2 q).1 hq
    exact hR.1 e he
  have hr : Rise (aoR l r x) := by rw [h7]; exact rise_rows idO _ _ hrow.1 hv
  have hjm : ∀ q, mayJ (jmps (aoR l r x) q) = true ∧ 0 ≤ leV (jmps (aoR l r x) q) := fun q => by
    rw [ao_jmps h]
    split
    · rename_i hq
      have hq' := hasR_iff.1 hq
      have hle : 0 ≤ leV (jmps l q) := by
        rw [tabE_rows h1, List.all_eq_true] at h3
        exact of_decide_eq_true (h3 q hq')
      exact ⟨woR_may (h6 q hq'), woR_le (h6 q hq') hle⟩
    · exact ⟨mayJ_nil, by decide⟩
  have hm : mayE (aoR l r x) = true := mayE_iff.2 ⟨h8, hr, fun g hg => by rw [((grp_rows hr).2.2 g hg).1]; exact (hjm g.1).1⟩
  rw [tabE_rows hm, List.all_eq_true]
  intro q _
  exact decide_eq_true (hjm q).2
set_option maxHeartbeats 8000000 in
set_option maxRecDepth 100000 in
theorem antiAlone_walk (L R : List Ve) (ws : List Vl) (hLi : ∀ e ∈ eds L, ∀ v ∈ e.1, inW v) (hRi : ∀ e ∈ eds R, ∀ v ∈ e.1, inW v) (hi : ∀ v ∈ ws, inW v) (v u vx : Value) (w : World) (hL : Ew w [] v L) (hR : Ew w [] u R) (hx : Rw w [] vx ws) :
    Calls Tryz.prog 8 #[v, u, vx] w fun e w' => e = .returned (.bool true) ∧ Ext w w' := by
  have hl := hide (fun w => antLive_c w)
  have hf1 := hide (fun w' (hX : Ext w w') => antFew_c L v w' (hL.ext hX))
  have hf2 := hide (fun w' (hX : Ext w w') => antFew_c R u w' (hR.ext hX))
  have hap := hide (fun w' (hX : Ext w w') => antAlone_c ws L R hi (grp_in hLi) (grp_in hRi) v u vx w' (hL.ext hX) (hR.ext hX) (Sl.ext hx hX))
  have hrp := hide (fun (h : L.length ≤ 40) (h2 : R.length ≤ 40) w' (hX : Ext w w') => refAlone_c ws L R h (by omega) hi hLi hRi v u vx w' (hL.ext hX) (hR.ext hX) (Sl.ext hx hX))
  obtain ⟨XA, xcap, rfl, -, -, -⟩ := rw_form hx
  obtain ⟨LA, lcap, rfl, -, -, -⟩ := ew_form hL
  obtain ⟨UA, ucap, rfl, -, -, -⟩ := ew_form hR
  clear hL hR hx hi hLi hRi
  have htb : aoE (eds L) (eds R) ws = 0 → tabE (aoR (eds L) (eds R) ws) = true := ao_table
  obtain ⟨E, hE⟩ : ∃ E, E = aoE (eds L) (eds R) ws := ⟨_, rfl⟩
  obtain ⟨S, hS⟩ : ∃ S, S = aoR (eds L) (eds R) ws := ⟨_, rfl⟩
  rw [← hE, ← hS] at hap hrp htb
  clear hE hS
  by_cases h40 : L.length ≤ 40
  case neg =>
    rw [decide_eq_false h40] at hf1
    clear hap hrp hf2 htb
    go_enter Tryz.func8, Tryz.ntmps8
    go_wp2_with (first | (go_at_call 23; (with_reducible refine seq_gw (hf1.out _ (Ext.refl _)) ?_); intro g) | (go_at_call 24; (with_reducible refine seq_gw' (hl.out _) ?_); intro g2))
    go_returns
    exact ⟨rfl, g2.grown⟩
  rw [decide_eq_true h40] at hf1
  by_cases h41 : R.length ≤ 40
  case neg =>
    rw [decide_eq_false h41] at hf2
    clear hap hrp htb
    go_enter Tryz.func8, Tryz.ntmps8
    go_wp2_with (first | (go_at_call 23; (with_reducible refine seq_gw (hf1.out _ (Ext.refl _)) ?_); intro g) | (go_at_call 23; (with_reducible refine seq_gw' (hf2.out _ g.grown) ?_); intro g1) | (go_at_call 24; (with_reducible refine seq_gw' (hl.out _) ?_); intro g2))
    go_returns
    exact ⟨rfl, g2.grown⟩
  rw [decide_eq_true h41] at hf2
  replace hrp := hide (hrp.out h40 h41)
  have hEE : (E == E) = true := by simp
  by_cases h0 : E = 0
  all_goals
    first | (have hne : (E != 0) = true := by simpa using h0) | (subst h0; replace htb := hide (htb rfl))
    go_enter Tryz.func8, Tryz.ntmps8
    go_wp2_with (first
      | (go_at_call 23; (with_reducible refine seq_gw (hf1.out _ (Ext.refl _)) ?_); intro g)
      | (go_at_call 23; (with_reducible refine seq_gw' (hf2.out _ g.grown) ?_); intro g1)
      | (go_at_call 28; refine (hap.out _ g1.grown).mono ?_; rintro ee w4 ⟨v4, M, rfl, hM, ho4, hx4⟩; have hx4' := hide (g1.grown.trans hx4); have hM' := hide hM; have he4 := hide ho4.ew; obtain ⟨A4, c4, q4⟩ := own_form ho4.1; subst q4; clear ho4 hx4 hM)
      | (go_at_call 29; refine (hrp.out _ hx4'.out).mono ?_; rintro ee w5 ⟨v5, N, rfl, hN, ho5, hx5⟩; have hx5' := hide (hx4'.out.trans hx5); have he5 := hide ho5.ew; have he45 := hide (he4.out.ext hx5); obtain ⟨A5, c5, q5⟩ := own_form ho5.1; subst q5; have hsm := hide (fun w' (hX : Ext w5 w') => refEdgeSame_c (he45.out.ext hX) (he5.out.ext hX)); rw [hM'.out, hN, show decide (S = S) = true by simp] at hsm; have htt := hide (fun w' (hX : Ext w5 w') => edgeTable_c _ _ w' (he45.out.ext hX)); rw [hM'.out] at htt; (try rw [htb.out] at htt); clear ho5 hx5 hN)
      | (go_at_call 24; (with_reducible refine seq_gw (hl.out _) ?_); intro g6)
      | (go_at_call 15; (with_reducible refine seq_gw' (hsm.out _ g6.grown) ?_); intro g7)
      | (go_at_call 30; (with_reducible refine seq_gw' (htt.out _ g7.grown) ?_); intro g8))
    go_returns
    exact ⟨by first | rfl | simp, hx5'.out.trans (by first | exact g8.grown | exact g7.grown)⟩
end Go.Proofs.YtljkneajdndgjabGreat
