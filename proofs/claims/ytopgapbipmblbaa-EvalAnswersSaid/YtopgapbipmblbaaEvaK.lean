/-
  A helper of ours: no claim of its own. Layer 18 (eval): what must be whatever is asked.
-/
import Derived.Test.YtopgapbipmblbaaEvaJ
import Derived.Test.YtopgapbipmblbaaValQ
set_option linter.unusedVariables false
set_option linter.unusedSimpArgs false
namespace Go.Proofs.Ytopgapbipmblbaa
open Go.RowKit
attribute [local go_sem] GW.cell GW.frozen In.eq_true In.le_true In.ne In.ne' In.ne_add In.ne_add' In.lt_add Upto.le_true Upto.le_add Upto.lt_add
def lE7 : List Vl := [(3, 0, ⟨#[]⟩), (1, 3, ⟨#[]⟩), (10, 0, ⟨#[]⟩)]
def rE7 : List Vl := [(1, 7, ⟨#[]⟩)]
def rEa : List Vl := [(2, 0, ⟨#[97]⟩)]
theorem ex1 : (evX lE7 rE7).1.1 = 1 := by decide +kernel
theorem ex2 : (evX lE7 rE7).1.2.1 = 2 := by decide +kernel
theorem ex3 : (evX lE7 rE7).1.2.2 = ⟨#[]⟩ := by decide +kernel
theorem ex4 : (evX lE7 rE7).2 = 0 := by decide +kernel
theorem ex5 : (hoX lE7 rE7).1 = true := by decide +kernel
theorem ex6 : (hoX lE7 rE7).2 = 0 := by decide +kernel
theorem ex7 : (evX lE7 rEa).2 = 12 := by decide +kernel
theorem ex8 : (evX lE7 rEa).1.1 = 0 := by decide +kernel
theorem ex9 : (evX lE7 rEa).1.2.1 = 0 := by decide +kernel
theorem ex10 : (evX lE7 rEa).1.2.2 = ⟨#[]⟩ := by decide +kernel
theorem inE7 : ∀ o ∈ lE7, inW o := by intro o ho; simp only [lE7, List.mem_cons, List.not_mem_nil, or_false] at ho; rcases ho with rfl | rfl | rfl <;> exact ⟨by decide, by decide⟩
theorem inR7 : ∀ o ∈ rE7, inW o := by intro o ho; simp only [rE7, List.mem_cons, List.not_mem_nil, or_false] at ho; subst ho; exact ⟨by decide, by decide⟩
theorem inRa : ∀ o ∈ rEa, inW o := by intro o ho; simp only [rEa, List.mem_cons, List.not_mem_nil, or_false] at ho; subst ho; exact ⟨by decide, by decide⟩
abbrev oR7 : Obj := .cells #[.int .i64 1, .int .i64 7, .string ⟨#[]⟩] 40
abbrev oE7 : Obj := .cells #[.int .i64 3, .int .i64 0, .string ⟨#[]⟩, .int .i64 1, .int .i64 3, .string ⟨#[]⟩, .int .i64 10, .int .i64 0, .string ⟨#[]⟩] 57
abbrev oRa : Obj := .cells #[.int .i64 2, .int .i64 0, .string ⟨#[97]⟩] 40
theorem rwR7 (w : World) : Rw (w.alloc oR7) [] (.slice (some ⟨w.heap.size, 0, none⟩) 1 1) rE7 := Sl.own (World.ownsRow_lit (base := w.heap.size) (e := 40) (size := 3) w #[.int .i64 1, .int .i64 7, .string ⟨#[]⟩] 1 (Nat.le_refl _) (by decide) rfl) (by simp)
theorem rwRa (w : World) : Rw (w.alloc oRa) [] (.slice (some ⟨w.heap.size, 0, none⟩) 1 1) rEa := Sl.own (World.ownsRow_lit (base := w.heap.size) (e := 40) (size := 3) w #[.int .i64 2, .int .i64 0, .string ⟨#[97]⟩] 1 (Nat.le_refl _) (by decide) rfl) (by simp)
theorem rwE7 (w : World) : Rw (w.alloc oE7) [] (.slice (some ⟨w.heap.size, 0, none⟩) 3 3) lE7 := Sl.own (World.ownsRow_lit (base := w.heap.size) (e := 57) (size := 3) w #[.int .i64 3, .int .i64 0, .string ⟨#[]⟩, .int .i64 1, .int .i64 3, .string ⟨#[]⟩, .int .i64 10, .int .i64 0, .string ⟨#[]⟩] 3 (Nat.le_refl _) (by decide) rfl) (by simp)
theorem rwE7' (w : World) : Rw ((w.alloc oR7).alloc oE7) [] (.slice (some ⟨w.heap.size + 1, 0, none⟩) 3 3) lE7 := by
  have := rwE7 (w.alloc oR7)
  rwa [World.size_alloc] at this
set_option maxHeartbeats 4000000 in
set_option maxRecDepth 100000 in
theorem evaLive_c (w : World) : Calls Try.prog 20 #[] w fun e w' => e = .returned (.bool true) ∧ Ext w w' := by
  have hx := hide (rwE7' w)
  have hr := hide (Sl.ext (rwR7 w) ((Ext.refl _).alloc oE7))
  have hev := hide (fun v rvv w' (h : Rw w' [] v lE7) (hrr : Rw w' [] rvv rE7) => eval_c lE7 rE7 inR7 inE7 v rvv w' h hrr)
  rw [ex1, ex2, ex3, ex4] at hev
  have hho := hide (fun v rvv w' (h : Rw w' [] v lE7) (hrr : Rw w' [] rvv rE7) => holds_c lE7 rE7 inR7 inE7 v rvv w' h hrr)
  rw [ex5, ex6] at hho
  have hev2 := hide (fun v rvv w' (h : Rw w' [] v lE7) (hrr : Rw w' [] rvv rEa) => eval_c lE7 rEa inRa inE7 v rvv w' h hrr)
  rw [ex7, ex8, ex9, ex10] at hev2
  have hX0 := hide (((Ext.refl w).alloc oR7).alloc oE7)
  go_enter Try.func20, Try.ntmps20
  go_wp2_with (first
    | (go_at_call 16; (with_reducible refine seq_gw (hev.out _ _ _ hx.out hr.out) ?_); intro g; clear hev; have k0 := hide g.grown)
    | (go_at_call 18; (with_reducible refine seq_gw (hho.out _ _ _ (Sl.ext hx.out (k0.out.alloc _)) (Sl.ext hr.out (k0.out.alloc _))) ?_); intro g2; have k2 := hide ((k0.out.alloc (.cells #[.int .i64 1, .int .i64 2, .string ⟨#[]⟩] 40)).trans g2.grown); have o7 := hide ((Ob.new g.val 40 [.int .i64 1, .int .i64 2, .string ⟨#[]⟩]).ext g2.grown))
    | (go_at_call 16; (with_reducible refine seq_gw (hev2.out _ _ _ (Sl.ext hx.out (k2.out.alloc _)) (rwRa _)) ?_); intro g3; have o8 := ((o7.out.alloc oRa).ext g3.grown).alloc (.cells #[.int .i64 0, .int .i64 0, .string ⟨#[]⟩] 40); have c0 := o8.cell 0 rfl; have c1 := o8.cell 1 rfl; have c2 := o8.cell 2 rfl))
  go_returns
  exact ⟨by first | rfl | simp, (((hX0.out.trans k2.out).alloc _).trans g3.grown).alloc _⟩
end Go.Proofs.Ytopgapbipmblbaa
