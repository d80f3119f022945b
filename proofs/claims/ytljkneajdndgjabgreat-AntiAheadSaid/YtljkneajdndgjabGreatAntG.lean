/-
  A helper of ours: no claim of its own. Layer 32 (anti): what must be whatever is asked.
-/
import Derived.Test.YtljkneajdndgjabGreatAntF
import Derived.Test.YtljkneajdndgjabGreatEdgK
import Derived.Test.YtljkneajdndgjabGreatEvaY
import Derived.Test.YtljkneajdndgjabGreatEdgEg
import Derived.Test.YtljkneajdndgjabGreatAntiAheadF
import Derived.Test.YtljkneajdndgjabGreatEdgBj
set_option linter.unusedVariables false
set_option linter.unusedSimpArgs false
namespace Go.Proofs.YtljkneajdndgjabGreat
open Go.RowKit
theorem fine_of {f : List Jp} (h : mayJ f = true) : ∀ j ∈ f, tooJ j = false ∧ nowJ j = false := fun j hj => by
  have h1 := (mayJ_iff.1 h).2.1 j hj
  unfold okJ at h1
  rw [decide_eq_true_iff] at h1
  unfold tooJ nowJ
  constructor <;> simp <;> omega
theorem nm_selfA {f : List Jp} (h : mayJ f = true) : nmOp f = (0, f) := by
  have hf := fine_of h
  have e : nmL f = f := one_form (nm_canon _) (mayJ_canon h) (nmL_lt _ fun j hj => (hf j hj).2) (fun j hj => (mayJ_at h j hj).2) fun t ht => nmL_val _ (fun j hj => (hf j hj).2) t ht
  have a1 : f.any tooJ = false := List.any_eq_false.2 fun j hj => by rw [(hf j hj).1]; decide
  have a2 : f.any nowJ = false := List.any_eq_false.2 fun j hj => by rw [(hf j hj).2]; decide
  have e1 : nmE f = 0 := by
    unfold nmE
    rw [a1, a2, if_neg (by decide), if_neg (by decide), e]
    exact full_zero.2 h
  unfold nmOp nmR
  rw [e1, if_pos rfl, e]
/-- A row's function where it has no partner is in form. -/
theorem woR_may {q : List Vl} {J : List Jp} {x : List Vl} {H : List Gp} (h : woE q J x H = 0) : mayJ (woR q J x H) = true := by
  unfold woE at h
  unfold woR
  split at h
  · rename_i h0
    rw [if_pos h0, twR_ok h]
    exact (twE_zero.1 h).2.2
  · rename_i h0
    exact absurd h h0
theorem bld_row {q : List Vl} {J : List Jp} {x : List Vl} {H : List Gp} (hq : mayR q = true) (h : woE q J x H = 0) : bld q (woR q J x H) = (woR q J x H).map fun j => (q, j) := by
  unfold bld
  rw [hq, woR_may h]
  rfl
/-- The document's steps: no look at the room. -/
def raGo (x : List Vl) (H : List Gp) : List Gp → List Ed → Int × List Ed
  | [], S => (0, S)
  | (q, J) :: G, S => if woE q J x H = 0 then raGo x H G (S ++ (woR q J x H).map fun j => (q, j)) else (woE q J x H, [])
/-- Both ways at once. -/
theorem al_ra (x : List Vl) (H : List Gp) : ∀ (G : List Gp) (S D : List Ed), (∀ g ∈ G, mayR g.1 = true) → (S.length ≤ 4096 → S = D) → (4096 < S.length → 4096 < D.length) →
    (alGo x H G S).1 = (raGo x H G D).1 ∧ ((alGo x H G S).1 = 0 → ((alGo x H G S).2.length ≤ 4096 → (alGo x H G S).2 = (raGo x H G D).2) ∧ (4096 < (alGo x H G S).2.length → 4096 < (raGo x H G D).2.length))
  | [], S, D, _, h1, h2 => ⟨rfl, fun _ => ⟨h1, h2⟩⟩
  | (q, J) :: G, S, D, hv, h1, h2 => by
    have hq := hv (q, J) (List.mem_cons_self ..)
    simp only at hq
    rw [alGo, raGo]
    by_cases h0 : woE q J x H = 0
    · rw [if_pos h0, if_pos h0, bld_row hq h0]
      refine al_ra x H G _ _ (fun g hg => hv g (List.mem_cons_of_mem _ hg)) ?_ ?_
      · intro hl
        by_cases hs : S.length ≤ 4096
        · rw [if_pos hs, h1 hs]
        · rw [if_neg hs] at hl
          exact absurd hl hs
      · intro hl
        by_cases hs : S.length ≤ 4096
        · rw [if_pos hs, h1 hs] at hl
          exact hl
        · have := h2 (by omega)
          rw [List.length_append]
          omega
    · rw [if_neg h0, if_neg h0]
      exact ⟨rfl, fun h => absurd h h0⟩
/-- What the document has put together, if nothing is wrong. -/
theorem raGo_flat (x : List Vl) (H : List Gp) : ∀ (G : List Gp) (D : List Ed), (raGo x H G D).1 = 0 → (∀ g ∈ G, woE g.1 g.2 x H = 0) ∧ (raGo x H G D).2 = D ++ G.flatMap fun g => (woR g.1 g.2 x H).map fun j => (g.1, j)
  | [], D, _ => ⟨by simp, by simp [raGo]⟩
  | (q, J) :: G, D, h => by
    rw [raGo] at h ⊢
    by_cases h0 : woE q J x H = 0
    · rw [if_pos h0] at h ⊢
      obtain ⟨i1, i2⟩ := raGo_flat x H G _ h
      refine ⟨fun g hg => ?_, by rw [i2]; simp⟩
      rcases List.mem_cons.1 hg with rfl | hg
      · exact h0
      · exact i1 g hg
    · rw [if_neg h0] at h
      exact absurd h h0
def idO (J : List Jp) : Int × List Jp := (0, J)
/-- Edges of rows in order, each row's in form: norm takes them as they are, if there is room. -/
theorem ne_flat (F : List Vl → List Jp) (rows : List (List Vl)) (hp : rows.Pairwise rlt) (hv : ∀ r ∈ rows, mayR r = true) (hF : ∀ r ∈ rows, mayJ (F r) = true) (out : List Ed) (ho : out = evL idO (rows.map fun q => (q, F q))) :
    neE out = (if 4096 < out.length then 7 else 0) ∧ neR out = (if 4096 < out.length then [] else out) := by
  have hr : Rise out := by rw [ho]; exact rise_rows idO F rows hp hv
  have hj : ∀ r, mayJ (jmps out r) = true := fun r => by
    rw [ho, jmps_rows idO F r rows hp]
    split
    · rename_i h
      exact hF r (hasR_iff.1 h)
    · exact mayJ_nil
  have hb : ∀ e ∈ out, badE e = false ∧ nowJ e.2 = false := fun e he => by
    rw [ho] at he
    simp only [evL, List.mem_flatMap, List.mem_map] at he
    obtain ⟨g, ⟨r, hr, rfl⟩, j, hj, rfl⟩ := he
    have h1 := fine_of (hF r hr) j hj
    unfold badE
    exact ⟨by rw [hv r hr, h1.1]; rfl, h1.2⟩
  have hev : ∀ g ∈ byRows out, nmOp g.2 = (0, g.2) := fun g hg => by
    unfold byRows at hg
    obtain ⟨r, -, rfl⟩ := List.mem_map.1 hg
    exact nm_selfA (hj r)
  have e0 : evE nmOp (byRows out) = 0 := by
    have : ∀ G : List Gp, (∀ g ∈ G, nmOp g.2 = (0, g.2)) → evE nmOp G = 0 := fun G => by
      induction G with
      | nil => intro _; rfl
      | cons g t ih => intro h; rw [evE, h g (List.mem_cons_self ..), if_pos rfl]; exact ih fun x hx => h x (List.mem_cons_of_mem _ hx)
    exact this _ hev
  have e1 : evL nmOp (byRows out) = out := by
    have h1 : evL nmOp (byRows out) = evL (fun f => (0, f)) (byRows out) := by
      have : ∀ G : List Gp, (∀ g ∈ G, nmOp g.2 = (0, g.2)) → evL nmOp G = evL (fun f => (0, f)) G := fun G => by
        induction G with
        | nil => intro _; rfl
        | cons g t ih =>
          intro h
          have e := ih fun x hx => h x (List.mem_cons_of_mem _ hx)
          unfold evL at e ⊢
          rw [List.flatMap_cons, List.flatMap_cons, e, h g (List.mem_cons_self ..)]
      exact this _ hev
    rw [h1, ← grp_eq hr, grp_back]
  have eE : neE out = (if 4096 < out.length then 7 else 0) := by rw [ne_ok hb, eachE, if_pos e0, e1]
  refine ⟨eE, ?_⟩
  unfold neR eachR
  rw [← ne_ok hb, eE, e1]
  split
  · rfl
  · rfl
/-- The document's answer is the code's. -/
theorem ao_ra (l r : List Ed) (x : List Vl) (hl : mayE l = true) (hr : mayE r = true) (hc : tabE l = true) (hd : tabE r = true) (hf : formE x = 0) :
    aoE l r x = (if (raGo x (grp r) (grp l) []).1 = 0 then neE (raGo x (grp r) (grp l) []).2 else (raGo x (grp r) (grp l) []).1) ∧ aoR l r x = (if (raGo x (grp r) (grp l) []).1 = 0 then neR (raGo x (grp r) (grp l) []).2 else []) := by
  have hR := mayE_rise hl
  have hrow := rowsL_ok hR.1
  have hv : ∀ q ∈ rowsL l, mayR q = true := fun q hq => by
    obtain ⟨e, he, rfl⟩ := (hrow.2 q).1 hq
    exact hR.1 e he
  obtain ⟨k1, k2⟩ := al_ra x (grp r) (grp l) [] [] (fun g hg => by rw [grp_eq hR] at hg; obtain ⟨q, hq, rfl⟩ := List.mem_map.1 hg; exact hv q hq) (fun _ => rfl) (fun h => absurd h (by simp))
  have hE : aoE l r x = (if (alGo x (grp r) (grp l) []).1 = 0 then (if 4096 < (alGo x (grp r) (grp l) []).2.length then 7 else 0) else (alGo x (grp r) (grp l) []).1) := by
    unfold aoE
    rw [hl, hr, hc, hd, if_pos (by rfl), if_pos (by rfl), if_pos hf]
  unfold aoR
  rw [hE]
  by_cases h0 : (alGo x (grp r) (grp l) []).1 = 0
  · obtain ⟨k3, k4⟩ := k2 h0
    have h0' := h0
    rw [k1] at h0'
    rw [if_pos h0, if_pos h0', if_pos h0']
    obtain ⟨m1, m2⟩ := raGo_flat x (grp r) (grp l) [] h0'
    rw [grp_eq hR] at m1
    have hout : (raGo x (grp r) (grp l) []).2 = evL idO ((rowsL l).map fun q => (q, woR q (jmps l q) x (grp r))) := by
      rw [m2, grp_eq hR]
      unfold byRows evL
      rw [List.nil_append, List.flatMap_map, List.flatMap_map]
      rfl
    obtain ⟨n1, n2⟩ := ne_flat (fun q => woR q (jmps l q) x (grp r)) (rowsL l) hrow.1 hv (fun q hq => woR_may (m1 (q, jmps l q) (List.mem_map.2 ⟨q, hq, rfl⟩))) _ hout
    rw [n1, n2]
    by_cases h4 : 4096 < (alGo x (grp r) (grp l) []).2.length
    · have := k4 h4
      rw [if_pos h4, if_pos this, if_pos this, if_neg (by decide)]
      exact ⟨rfl, rfl⟩
    · have e := k3 (by omega)
      rw [← e, if_neg h4, if_neg h4, if_pos rfl]
      exact ⟨rfl, rfl⟩
  · have h0' := h0
    rw [k1] at h0'
    rw [if_neg h0, if_neg h0', if_neg h0', if_neg h0, k1]
    exact ⟨rfl, rfl⟩
end Go.Proofs.YtljkneajdndgjabGreat
set_option linter.unusedVariables false
set_option linter.unusedSimpArgs false
namespace Go.Proofs.YtljkneajdndgjabGreat
open Go.RowKit
attribute [local go_sem] GW.cell GW.frozen In.eq_true In.le_true In.ne In.ne' In.ne_add In.ne_add' In.lt_add Upto.le_true Upto.le_add Upto.lt_add
end Go.Proofs.YtljkneajdndgjabGreat
set_option linter.unusedVariables false
set_option linter.unusedSimpArgs false
namespace Go.Proofs.YtljkneajdndgjabGreat
open Go.RowKit
attribute [local go_sem] GW.cell GW.frozen In.eq_true In.le_true In.ne In.ne' In.ne_add In.ne_add' In.lt_add Upto.le_true Upto.le_add Upto.lt_add
end Go.Proofs.YtljkneajdndgjabGreat
set_option linter.unusedVariables false
set_option linter.unusedSimpArgs false
namespace Go.Proofs.YtljkneajdndgjabGreat
open Go.RowKit
attribute [local go_sem] GW.cell GW.frozen In.eq_true In.le_true In.ne In.ne' In.ne_add In.ne_add' In.lt_add Upto.le_true Upto.le_add Upto.lt_add
end Go.Proofs.YtljkneajdndgjabGreat
set_option linter.unusedVariables false
set_option linter.unusedSimpArgs false
namespace Go.Proofs.YtljkneajdndgjabGreat
open Go.RowKit
attribute [local go_sem] GW.cell GW.frozen In.eq_true In.le_true In.ne In.ne' In.ne_add In.ne_add' In.lt_add Upto.le_true Upto.le_add Upto.lt_add
end Go.Proofs.YtljkneajdndgjabGreat
set_option linter.unusedVariables false
set_option linter.unusedSimpArgs false
namespace Go.Proofs.YtljkneajdndgjabGreat
open Go.RowKit
attribute [local go_sem] GW.cell GW.frozen In.eq_true In.le_true In.ne In.ne' In.ne_add In.ne_add' In.lt_add Upto.le_true Upto.le_add Upto.lt_add
def anR : List Vl := [(1, 1, ⟨#[]⟩)]
def anX : List Vl := [(3, 0, ⟨#[]⟩), (3, 1, ⟨#[]⟩), (13, 0, ⟨#[]⟩)]
def anL : List Ed := [(anR, (2, 1)), (anR, (9, -1))]
def anM : List Ed := [(anR, (4, 1)), (anR, (6, -1))]
theorem an_a : aoE anL anM anX = 0 := by decide +kernel
theorem an_b : aoR anL anM anX = [(anR, (2, 1)), (anR, (4, -1)), (anR, (6, 1)), (anR, (9, -1))] := by kernel_rfl
theorem an_c : apE anR [(0, 1)] anM anX = 0 := by decide +kernel
theorem an_d : (apR anR [(0, 1)] anM anX).length = 2 := by decide +kernel
theorem an_inR : ∀ v ∈ anR, inW v := by intro o ho; simp only [anR, List.mem_cons, List.not_mem_nil, or_false] at ho; subst ho; exact ⟨by decide, by decide⟩
theorem an_inX : ∀ o ∈ anX, inW o := by intro o ho; simp only [anX, List.mem_cons, List.not_mem_nil, or_false] at ho; rcases ho with rfl | rfl | rfl <;> exact ⟨by decide, by decide⟩
theorem an_gL : grp anL = [(anR, [(2, 1), (9, -1)])] := by kernel_rfl
theorem an_gM : grp anM = [(anR, [(4, 1), (6, -1)])] := by kernel_rfl
theorem an_inL : ∀ g ∈ grp anL, ∀ v ∈ g.1, inW v := by rw [an_gL]; intro g hg; obtain rfl := List.mem_singleton.1 hg; exact an_inR
theorem an_inM : ∀ g ∈ grp anM, ∀ v ∈ g.1, inW v := by rw [an_gM]; intro g hg; obtain rfl := List.mem_singleton.1 hg; exact an_inR
theorem eds_at {M : List Ve} {i : Nat} {e : Ed} (h : (eds M)[i]? = some e) : ∃ u, M[i]? = some (u, e.1, e.2) := by
  unfold eds at h
  rw [List.getElem?_map] at h
  obtain ⟨p, hp, rfl⟩ := Option.map_eq_some_iff.1 h
  exact ⟨p.1, hp⟩
set_option maxHeartbeats 8000000 in
set_option maxRecDepth 100000 in
theorem antLive_c (w : World) : Calls Tryz.prog 24 #[] w fun e w' => e = .returned (.bool true) ∧ Ext w w' := by
  have r0 : Rw (w.alloc (.cells #[.int .i64 1, .int .i64 1, .string ⟨#[]⟩] 53)) [] (.slice (some ⟨w.heap.size, 0, none⟩) 1 1) anR := Sl.own (World.ownsRow_lit (base := w.heap.size) (e := 53) (size := 3) w #[.int .i64 1, .int .i64 1, .string ⟨#[]⟩] 1 (Nat.le_refl _) (by decide) rfl) (by simp)
  have eL : Ew ((w.alloc (.cells #[.int .i64 1, .int .i64 1, .string ⟨#[]⟩] 53)).alloc (.cells #[(.slice (some ⟨w.heap.size, 0, none⟩) 1 1), .int .i64 2, .int .i64 1, (.slice (some ⟨w.heap.size, 0, none⟩) 1 1), .int .i64 9, .int .i64 (-1)] 37)) [] (.slice (some ⟨w.heap.size + 1, 0, none⟩) 2 2) [((.slice (some ⟨w.heap.size, 0, none⟩) 1 1), anR, (2, 1)), ((.slice (some ⟨w.heap.size, 0, none⟩) 1 1), anR, (9, -1))] := by
    refine ⟨?_, ?_⟩
    · have h := Sl.own (S := []) (World.ownsRow_lit (base := (w.alloc (.cells #[.int .i64 1, .int .i64 1, .string ⟨#[]⟩] 53)).heap.size) (e := 37) (size := 3) (w.alloc (.cells #[.int .i64 1, .int .i64 1, .string ⟨#[]⟩] 53)) #[(.slice (some ⟨w.heap.size, 0, none⟩) 1 1), .int .i64 2, .int .i64 1, (.slice (some ⟨w.heap.size, 0, none⟩) 1 1), .int .i64 9, .int .i64 (-1)] 2 (Nat.le_refl _) (by decide) rfl) (by simp)
      rw [World.size_alloc] at h
      exact h
    · intro p hp
      simp only [List.mem_cons, List.not_mem_nil, or_false] at hp
      rcases hp with rfl | rfl
      · exact Sl.alloc r0 _
      · exact Sl.alloc r0 _
  have eM : Ew (((w.alloc (.cells #[.int .i64 1, .int .i64 1, .string ⟨#[]⟩] 53)).alloc (.cells #[(.slice (some ⟨w.heap.size, 0, none⟩) 1 1), .int .i64 2, .int .i64 1, (.slice (some ⟨w.heap.size, 0, none⟩) 1 1), .int .i64 9, .int .i64 (-1)] 37)).alloc (.cells #[(.slice (some ⟨w.heap.size, 0, none⟩) 1 1), .int .i64 4, .int .i64 1, (.slice (some ⟨w.heap.size, 0, none⟩) 1 1), .int .i64 6, .int .i64 (-1)] 37)) [] (.slice (some ⟨w.heap.size + 1 + 1, 0, none⟩) 2 2) [((.slice (some ⟨w.heap.size, 0, none⟩) 1 1), anR, (4, 1)), ((.slice (some ⟨w.heap.size, 0, none⟩) 1 1), anR, (6, -1))] := by
    refine ⟨?_, ?_⟩
    · have h := Sl.own (S := []) (World.ownsRow_lit (base := ((w.alloc (.cells #[.int .i64 1, .int .i64 1, .string ⟨#[]⟩] 53)).alloc (.cells #[(.slice (some ⟨w.heap.size, 0, none⟩) 1 1), .int .i64 2, .int .i64 1, (.slice (some ⟨w.heap.size, 0, none⟩) 1 1), .int .i64 9, .int .i64 (-1)] 37)).heap.size) (e := 37) (size := 3) ((w.alloc (.cells #[.int .i64 1, .int .i64 1, .string ⟨#[]⟩] 53)).alloc (.cells #[(.slice (some ⟨w.heap.size, 0, none⟩) 1 1), .int .i64 2, .int .i64 1, (.slice (some ⟨w.heap.size, 0, none⟩) 1 1), .int .i64 9, .int .i64 (-1)] 37)) #[(.slice (some ⟨w.heap.size, 0, none⟩) 1 1), .int .i64 4, .int .i64 1, (.slice (some ⟨w.heap.size, 0, none⟩) 1 1), .int .i64 6, .int .i64 (-1)] 2 (Nat.le_refl _) (by decide) rfl) (by simp)
      rw [World.size_alloc, World.size_alloc] at h
      exact h
    · intro p hp
      simp only [List.mem_cons, List.not_mem_nil, or_false] at hp
      rcases hp with rfl | rfl
      · exact Sl.alloc (Sl.alloc r0 _) _
      · exact Sl.alloc (Sl.alloc r0 _) _
  have eX : Rw ((((w.alloc (.cells #[.int .i64 1, .int .i64 1, .string ⟨#[]⟩] 53)).alloc (.cells #[(.slice (some ⟨w.heap.size, 0, none⟩) 1 1), .int .i64 2, .int .i64 1, (.slice (some ⟨w.heap.size, 0, none⟩) 1 1), .int .i64 9, .int .i64 (-1)] 37)).alloc (.cells #[(.slice (some ⟨w.heap.size, 0, none⟩) 1 1), .int .i64 4, .int .i64 1, (.slice (some ⟨w.heap.size, 0, none⟩) 1 1), .int .i64 6, .int .i64 (-1)] 37)).alloc (.cells #[.int .i64 3, .int .i64 0, .string ⟨#[]⟩, .int .i64 3, .int .i64 1, .string ⟨#[]⟩, .int .i64 13, .int .i64 0, .string ⟨#[]⟩] 56)) [] (.slice (some ⟨w.heap.size + 1 + 1 + 1, 0, none⟩) 3 3) anX := by
    have h := Sl.own (S := []) (World.ownsRow_lit (base := (((w.alloc (.cells #[.int .i64 1, .int .i64 1, .string ⟨#[]⟩] 53)).alloc (.cells #[(.slice (some ⟨w.heap.size, 0, none⟩) 1 1), .int .i64 2, .int .i64 1, (.slice (some ⟨w.heap.size, 0, none⟩) 1 1), .int .i64 9, .int .i64 (-1)] 37)).alloc (.cells #[(.slice (some ⟨w.heap.size, 0, none⟩) 1 1), .int .i64 4, .int .i64 1, (.slice (some ⟨w.heap.size, 0, none⟩) 1 1), .int .i64 6, .int .i64 (-1)] 37)).heap.size) (e := 56) (size := 3) (((w.alloc (.cells #[.int .i64 1, .int .i64 1, .string ⟨#[]⟩] 53)).alloc (.cells #[(.slice (some ⟨w.heap.size, 0, none⟩) 1 1), .int .i64 2, .int .i64 1, (.slice (some ⟨w.heap.size, 0, none⟩) 1 1), .int .i64 9, .int .i64 (-1)] 37)).alloc (.cells #[(.slice (some ⟨w.heap.size, 0, none⟩) 1 1), .int .i64 4, .int .i64 1, (.slice (some ⟨w.heap.size, 0, none⟩) 1 1), .int .i64 6, .int .i64 (-1)] 37)) #[.int .i64 3, .int .i64 0, .string ⟨#[]⟩, .int .i64 3, .int .i64 1, .string ⟨#[]⟩, .int .i64 13, .int .i64 0, .string ⟨#[]⟩] 3 (Nat.le_refl _) (by decide) rfl) (by simp)
    rw [World.size_alloc, World.size_alloc, World.size_alloc] at h
    exact h
  have hX0 := hide ((((((Ext.refl w).alloc (.cells #[.int .i64 1, .int .i64 1, .string ⟨#[]⟩] 53)).alloc (.cells #[(.slice (some ⟨w.heap.size, 0, none⟩) 1 1), .int .i64 2, .int .i64 1, (.slice (some ⟨w.heap.size, 0, none⟩) 1 1), .int .i64 9, .int .i64 (-1)] 37)).alloc (.cells #[(.slice (some ⟨w.heap.size, 0, none⟩) 1 1), .int .i64 4, .int .i64 1, (.slice (some ⟨w.heap.size, 0, none⟩) 1 1), .int .i64 6, .int .i64 (-1)] 37)).alloc (.cells #[.int .i64 3, .int .i64 0, .string ⟨#[]⟩, .int .i64 3, .int .i64 1, .string ⟨#[]⟩, .int .i64 13, .int .i64 0, .string ⟨#[]⟩] 56) : Ext w ((((w.alloc (.cells #[.int .i64 1, .int .i64 1, .string ⟨#[]⟩] 53)).alloc (.cells #[(.slice (some ⟨w.heap.size, 0, none⟩) 1 1), .int .i64 2, .int .i64 1, (.slice (some ⟨w.heap.size, 0, none⟩) 1 1), .int .i64 9, .int .i64 (-1)] 37)).alloc (.cells #[(.slice (some ⟨w.heap.size, 0, none⟩) 1 1), .int .i64 4, .int .i64 1, (.slice (some ⟨w.heap.size, 0, none⟩) 1 1), .int .i64 6, .int .i64 (-1)] 37)).alloc (.cells #[.int .i64 3, .int .i64 0, .string ⟨#[]⟩, .int .i64 3, .int .i64 1, .string ⟨#[]⟩, .int .i64 13, .int .i64 0, .string ⟨#[]⟩] 56))))
  have hal := hide (antAlone_c anX [((.slice (some ⟨w.heap.size, 0, none⟩) 1 1), anR, (2, 1)), ((.slice (some ⟨w.heap.size, 0, none⟩) 1 1), anR, (9, -1))] [((.slice (some ⟨w.heap.size, 0, none⟩) 1 1), anR, (4, 1)), ((.slice (some ⟨w.heap.size, 0, none⟩) 1 1), anR, (6, -1))] an_inX an_inL an_inM _ _ _ ((((w.alloc (.cells #[.int .i64 1, .int .i64 1, .string ⟨#[]⟩] 53)).alloc (.cells #[(.slice (some ⟨w.heap.size, 0, none⟩) 1 1), .int .i64 2, .int .i64 1, (.slice (some ⟨w.heap.size, 0, none⟩) 1 1), .int .i64 9, .int .i64 (-1)] 37)).alloc (.cells #[(.slice (some ⟨w.heap.size, 0, none⟩) 1 1), .int .i64 4, .int .i64 1, (.slice (some ⟨w.heap.size, 0, none⟩) 1 1), .int .i64 6, .int .i64 (-1)] 37)).alloc (.cells #[.int .i64 3, .int .i64 0, .string ⟨#[]⟩, .int .i64 3, .int .i64 1, .string ⟨#[]⟩, .int .i64 13, .int .i64 0, .string ⟨#[]⟩] 56)) ((eL.ext ((Ext.refl _).alloc (.cells #[(.slice (some ⟨w.heap.size, 0, none⟩) 1 1), .int .i64 4, .int .i64 1, (.slice (some ⟨w.heap.size, 0, none⟩) 1 1), .int .i64 6, .int .i64 (-1)] 37))).ext ((Ext.refl _).alloc (.cells #[.int .i64 3, .int .i64 0, .string ⟨#[]⟩, .int .i64 3, .int .i64 1, .string ⟨#[]⟩, .int .i64 13, .int .i64 0, .string ⟨#[]⟩] 56))) (eM.ext ((Ext.refl _).alloc (.cells #[.int .i64 3, .int .i64 0, .string ⟨#[]⟩, .int .i64 3, .int .i64 1, .string ⟨#[]⟩, .int .i64 13, .int .i64 0, .string ⟨#[]⟩] 56))) eX)
  rw [show eds [((.slice (some ⟨w.heap.size, 0, none⟩) 1 1), anR, (2, 1)), ((.slice (some ⟨w.heap.size, 0, none⟩) 1 1), anR, (9, -1))] = anL from rfl, show eds [((.slice (some ⟨w.heap.size, 0, none⟩) 1 1), anR, (4, 1)), ((.slice (some ⟨w.heap.size, 0, none⟩) 1 1), anR, (6, -1))] = anM from rfl, an_a, an_b] at hal
  have hpa := hide (fun w' vf (hX : Ext ((((w.alloc (.cells #[.int .i64 1, .int .i64 1, .string ⟨#[]⟩] 53)).alloc (.cells #[(.slice (some ⟨w.heap.size, 0, none⟩) 1 1), .int .i64 2, .int .i64 1, (.slice (some ⟨w.heap.size, 0, none⟩) 1 1), .int .i64 9, .int .i64 (-1)] 37)).alloc (.cells #[(.slice (some ⟨w.heap.size, 0, none⟩) 1 1), .int .i64 4, .int .i64 1, (.slice (some ⟨w.heap.size, 0, none⟩) 1 1), .int .i64 6, .int .i64 (-1)] 37)).alloc (.cells #[.int .i64 3, .int .i64 0, .string ⟨#[]⟩, .int .i64 3, .int .i64 1, .string ⟨#[]⟩, .int .i64 13, .int .i64 0, .string ⟨#[]⟩] 56)) w') (hf : Jw w' [] vf [(0, 1)]) => antPartners_c anR anX [(0, 1)] [((.slice (some ⟨w.heap.size, 0, none⟩) 1 1), anR, (4, 1)), ((.slice (some ⟨w.heap.size, 0, none⟩) 1 1), anR, (6, -1))] an_inR an_inX an_inM (.slice (some ⟨w.heap.size + 1 + 1, 0, none⟩) 2 2) (.slice (some ⟨w.heap.size, 0, none⟩) 1 1) vf (.slice (some ⟨w.heap.size + 1 + 1 + 1, 0, none⟩) 3 3) w' (Sl.ext (Sl.alloc (Sl.alloc (Sl.alloc r0 _) _) _) hX) hf ((eM.ext ((Ext.refl _).alloc (.cells #[.int .i64 3, .int .i64 0, .string ⟨#[]⟩, .int .i64 3, .int .i64 1, .string ⟨#[]⟩, .int .i64 13, .int .i64 0, .string ⟨#[]⟩] 56))).ext hX) (Sl.ext eX hX))
  rw [show eds [((.slice (some ⟨w.heap.size, 0, none⟩) 1 1), anR, (4, 1)), ((.slice (some ⟨w.heap.size, 0, none⟩) 1 1), anR, (6, -1))] = anM from rfl, an_c] at hpa
  clear r0 eL eM eX
  go_enter Tryz.func24, Tryz.ntmps24
  go_wp2_with (first
    | (go_at_call 28; refine hal.out.mono ?_; rintro ee w4 ⟨v4, M, rfl, hM, ho4, hx4⟩; have hx4' := hide hx4; obtain ⟨u1, hu1⟩ := eds_at (show (eds M)[1]? = some (anR, (4, -1)) by rw [hM]; rfl); obtain ⟨u2, hu2⟩ := eds_at (show (eds M)[2]? = some (anR, (6, 1)) by rw [hM]; rfl); have hl4 : M.length = 4 := (by have h := congrArg List.length hM; simpa [eds] using h); obtain ⟨A4, cap4, rfl, -, -, hat⟩ := ew_form ho4.ew; obtain ⟨b4, o4, rfl, -, hb4, -, c1, c2⟩ := hat 1 _ hu1; obtain ⟨b5, o5, e5, -, -, -, c3, -⟩ := hat 2 _ hu2; cases e5; rw [hl4]; have d1 := hide c1; have d2 := hide c2; have d3 := hide c3; clear c1 c2 c3 hat hu1 hu2 hM ho4 hx4)
    | (go_at_call 25; refine (hpa.out _ _ (hx4'.out.alloc _) (oneJ_new (0, 1) _)).mono ?_; rintro ee w5 ⟨v5, rfl, ho5, hx5⟩; have hx5' := hide ((hx4'.out.alloc (.cells #[.int .i64 0, .int .i64 1] 80)).trans hx5); have hy5 := hide (((Ext.refl _).alloc (.cells #[.int .i64 0, .int .i64 1] 80)).trans hx5); obtain ⟨A5, cap5, rfl⟩ := own_form ho5; rw [an_d]; have k1 := cell_later hy5.out d1.out; have k2 := cell_later hy5.out d2.out; have k3 := cell_later hy5.out d3.out; haveI : In b4 w5 := ⟨block_lt_of_cell k1⟩; clear ho5 hx5))
  go_returns
  exact ⟨by first | rfl | simp, hX0.out.trans hx5'.out⟩
end Go.Proofs.YtljkneajdndgjabGreat
