/-
  A helper of ours: no claim of its own. Layer 10 (edge): which edges are in form, which are a table, by the document.
-/
import Derived.Test.YtoghgjgaolinaaaEdgO
import Derived.Test.YtoghgjgaolinaaaEdgQ
import Derived.Test.YtoghgjgaolinaaaEdgF
import Derived.Test.YtoghgjgaolinaaaStepR
import Derived.Test.YtoghgjgaolinaaaStepD
import Derived.Test.YtoghgjgaolinaaaEdgEn
import Derived.Test.YtoghgjgaolinaaaEdgH
import Derived.Test.YtoghgjgaolinaaaStepC
set_option linter.unusedVariables false
set_option linter.unusedSimpArgs false
namespace Go.Proofs.Ytoghgjgaolinaaa
open Go.RowKit
attribute [-go_sem] sliced
attribute [local go_sem] sliced_eq
attribute [local go_sem] GW.cell GW.frozen In.eq_true In.le_true In.ne In.ne' In.ne_add In.ne_add' In.lt_add Upto.le_true Upto.le_add Upto.lt_add
/-- A slice of rows, as it lies; its rows lie elsewhere. -/
abbrev OwnRs (w : World) (base : Nat) (v : Value) (M : List Rv) : Prop := w.ownsRow base 34 1 v M.length (rcs M)
def Rs (w : World) (v : Value) (M : List Rv) : Prop := Sl w [] 1 v M.length (rcs M) ∧ ∀ p ∈ M, Rw w [] p.1 p.2
theorem Rs.ext {w w' : World} {v : Value} {M : List Rv} (h : Rs w v M) (k : Ext w w') : Rs w' v M := ⟨Sl.ext h.1 k, fun p hp => Sl.ext (h.2 p hp) k⟩
theorem rs_form {w : World} {S : List Nat} {v : Value} {M : List Rv} (h : Sl w S 1 v M.length (rcs M)) : ∃ A cap, v = .slice A M.length cap ∧ M.length ≤ cap ∧ cap ≤ maxLen ∧ ∀ (i : Nat) (p : Rv), M[i]? = some p → ∃ b o, A = some ⟨b, o, none⟩ ∧ b ∉ S ∧ b < w.heap.size ∧ w.cell? ⟨b, o + i, none⟩ = some p.1 := by
  obtain ⟨A, cap, rfl, h1, h2, h3, h4⟩ := h
  refine ⟨A, cap, rfl, h1, h2, fun i p hp => ?_⟩
  have hg : (rcs M)[i]? = some p.1 := by simp [rcs, hp]
  rcases h4 with h4 | ⟨b, o, rfl, hb, hc⟩
  · rw [h4] at hg; cases hg
  · have c0 := hc i _ hg
    exact ⟨b, o, rfl, hb, block_lt_of_cell c0, c0⟩
theorem rcs_one {N : List Rv} (h : ∀ p ∈ N, p.1.oneCell' = true) : ∀ u ∈ rcs N, u.oneCell' = true := by
  intro u hu
  obtain ⟨p, hp, rfl⟩ := List.mem_map.1 hu
  exact h p hp
theorem rcs_take {N : List Rv} (n : Nat) (h : ∀ p ∈ N, p.1.oneCell' = true) : ∀ u ∈ (rcs N).take n, u.oneCell' = true := fun u hu => rcs_one h u (List.mem_of_mem_take hu)
theorem rcs_drop {N : List Rv} (n : Nat) (h : ∀ p ∈ N, p.1.oneCell' = true) : ∀ u ∈ (rcs N).drop n, u.oneCell' = true := fun u hu => rcs_one h u (List.mem_of_mem_drop hu)
theorem own_rs {w : World} {base n : Nat} {v : Value} {M : List Rv} {p : Rv} (hn : n ≤ M.length) (h : w.ownsRow base 34 1 v (0 + n + 1 + (M.length - n)) ((([] ++ (rcs M).take n) ++ [p.1]) ++ (rcs M).drop n)) : OwnRs w base v (M.take n ++ p :: M.drop n) := by
  unfold OwnRs
  have e : (M.take n ++ p :: M.drop n).length = 0 + n + 1 + (M.length - n) := by simp only [List.length_append, List.length_take, List.length_cons, List.length_drop]; omega
  rw [e]
  simpa [rcs] using h
end Go.Proofs.Ytoghgjgaolinaaa
set_option linter.unusedVariables false
set_option linter.unusedSimpArgs false
namespace Go.Proofs.Ytoghgjgaolinaaa
open Go.RowKit
attribute [local go_sem] GW.cell GW.frozen In.eq_true In.le_true In.ne In.ne' In.ne_add In.ne_add' In.lt_add Upto.le_true Upto.le_add Upto.lt_add
end Go.Proofs.Ytoghgjgaolinaaa
set_option linter.unusedVariables false
set_option linter.unusedSimpArgs false
namespace Go.Proofs.Ytoghgjgaolinaaa
open Go.RowKit
theorem run_app_lit {P : Program} {w : World} {t tx ty e : TypeId} {z : Value} {size bytes base m b : Nat} {x : Value} {news : List Value} (T : ElemT P t e z size bytes) (hs : Src P size tx x m news w)
    (h63 : m ≤ maxLen) (hbytes : m * bytes ≤ 140737488355328) (hb : base ≤ b) (hbw : base ≤ w.heap.size) (ho : Ob w b e []) :
    ∃ v' w', (Builtin.append_ #[t, tx] ty #[.slice (some ⟨b, 0, none⟩) 0 0, x]).run P w = .ok v' w' ∧ w'.ownsRow base e size v' m news ∧ Ext w w' := by
  obtain ⟨ht, ⟨i, hi, hz, hsize, hby⟩, hzs, hsz⟩ := T
  subst hsize
  subst hby
  have hsmall : m ≤ 9223372036854775807 := by simp only [maxLen] at h63; omega
  by_cases hm : m = 0
  · subst hm
    have hn : news = [] := List.eq_nil_of_length_eq_zero (by simpa using hs.newsLen)
    subst hn
    have hst := run_storeCells_at P b (0 * i.size) e [] 0 #[] w ho (by simp) hs.one
    simp only [Nat.add_zero, Nat.zero_mul] at hst
    have hh := setRow_heap w b #[] #[] e _ ho
    refine ⟨.slice (some ⟨b, 0, none⟩) 0 0, w.setRow b #[], ?_, ⟨by simp, .inr ⟨b, 0, #[], rfl, hb, hh, Nat.le_refl _, Nat.zero_le _, by simp, by simp⟩⟩, ⟨rfl, rfl, rfl, by simp, fun k hk => ?_⟩⟩
    · rcases hs.kind with ⟨e', hk⟩ | hk <;> simp [Builtin.append_, run_underlying ht, run_underlying hk, sizeOf, typeInfo, hi, hs.len, hs.cells, Addr.add_lit, hst]
    · by_cases hkb : k = b
      · subst hkb; rw [hh]; exact ho.symm
      · exact setRow_other w b k _ hkb
  · have hr := run_append_grow_src (P := P) w t tx ty e i z ht hi hz (some ⟨b, 0, none⟩) 0 0 [] (run_firstCells_some w.drew i.size 0 _ 0 0 [] (by simp) (fun j u hu => by simp at hu)) x m news hs (by omega) (by omega) (growslice_fits (by omega) (by rw [Nat.zero_add]; exact hbytes))
    simp only [Nat.zero_add, List.nil_append] at hr
    have hge := grownCap_ge w m 0 e
    have hcm : grownCap w m 0 e ≤ maxLen := grownCap_le_maxLen w m 0 e h63
    refine ⟨_, _, hr, ⟨hs.newsLen, .inr ⟨w.heap.size, _, _, rfl, hbw, heap_alloc_new w.drew _, hge, hcm, ?_, ?_⟩⟩, ⟨rfl, rfl, rfl, by simp, fun k hk => Below.heap_alloc w.drew _ k hk⟩⟩
    · simp only [Array.size_append, List.size_toArray, size_zeroCells, hzs, hs.newsLen, ← Nat.add_mul]
      congr 1
      omega
    · simp only [Array.toList_append]
      rw [← hs.newsLen]
      exact List.take_left
end Go.Proofs.Ytoghgjgaolinaaa
set_option linter.unusedVariables false
set_option linter.unusedSimpArgs false
namespace Go.Proofs.Ytoghgjgaolinaaa
open Go.RowKit
attribute [local go_sem] GW.cell GW.frozen In.eq_true In.le_true In.ne In.ne' In.ne_add In.ne_add' In.lt_add Upto.le_true Upto.le_add Upto.lt_add
theorem tValP : ElemT Try.prog 34 64 (.agg #[.int .i64 0, .int .i64 0, .string ⟨#[]⟩]) 3 32 := ElemT.mk' Try.underlying34 (by kernel_rfl) rfl (by omega)
theorem buildRow0 (w : World) : (Instr.buildSlice 34 0 #[]).run Try.prog w = .ok (.slice (some ⟨w.heap.size, 0, none⟩) 0 0) (w.alloc (.cells #[] 64)) := by simp [go_sem]
def litF (n0 : Nat) : Fact := .st (fun u w => ∃ b, u = .slice (some ⟨b, 0, none⟩) 0 0 ∧ (n0 ≤ b ∧ Ob w b 64 [])) (fun _ _ _ ⟨b, e, h1, h2⟩ k => ⟨b, e, h1, h2.ext k⟩)
end Go.Proofs.Ytoghgjgaolinaaa
set_option linter.unusedVariables false
set_option linter.unusedSimpArgs false
namespace Go.Proofs.Ytoghgjgaolinaaa
open Go.RowKit
attribute [local go_sem] GW.cell GW.frozen In.eq_true In.le_true In.ne In.ne' In.ne_add In.ne_add' In.lt_add Upto.le_true Upto.le_add Upto.lt_add
theorem fr_cell {K : List Nat} {w wr : World} {b o : Nat} (h : Fr K w wr) (hb : b < w.heap.size) (hn : b ∉ K) : wr.cell? ⟨b, o, none⟩ = w.cell? ⟨b, o, none⟩ := by simp only [World.cell?, h.block b hb hn]
end Go.Proofs.Ytoghgjgaolinaaa
set_option linter.unusedVariables false
set_option linter.unusedSimpArgs false
namespace Go.Proofs.Ytoghgjgaolinaaa
open Go.RowKit
attribute [local go_sem] GW.cell GW.frozen In.eq_true In.le_true In.ne In.ne' In.ne_add In.ne_add' In.lt_add Upto.le_true Upto.le_add Upto.lt_add
theorem map_next {ps : List Int} {k : Nat} {p : Int} (vf : Int → Int) (hp : ps[k]? = some p) : (ps.take (k + 1)).map vf = (ps.take k).map vf ++ [vf p] := by
  rw [take_snoc hp, List.map_append]; rfl
theorem mayJ_4096 {l : List Jp} (h : mayJ l = true) : l.length ≤ 4096 := by have := mayJ_len h; omega
theorem jv_60 {l : List Jp} (hb : ∀ j ∈ l, -1048576 ≤ j.2 ∧ j.2 ≤ 1048576) (hn : l.length ≤ 4096) (t : Int) : -4294967296 ≤ jv l t ∧ jv l t ≤ 4294967296 := by
  have := jv_small hb hn l.length t
  rwa [List.take_length] at this
end Go.Proofs.Ytoghgjgaolinaaa
set_option linter.unusedVariables false
set_option linter.unusedSimpArgs false
namespace Go.Proofs.Ytoghgjgaolinaaa
open Go.RowKit
attribute [local go_sem] GW.cell GW.frozen In.eq_true In.le_true In.ne In.ne' In.ne_add In.ne_add' In.lt_add Upto.le_true Upto.le_add Upto.lt_add
theorem inF_next {l : List Jp} {k : Nat} {x : Jp} (hx : l[k]? = some x) : inF (l.take (k + 1)) = if x.1 = 1125899906842624 then inF (l.take k) else inF (l.take k) ++ [x] := by
  unfold inF
  rw [take_snoc hx, List.filter_append]
  by_cases h : x.1 = 1125899906842624
  · rw [if_pos h]; simp [h]
  · rw [if_neg h]; simp [h]
theorem inF_len (l : List Jp) : (inF l).length ≤ l.length := List.length_filter_le _ _
theorem any_next {l : List Jp} {k : Nat} {x : Jp} {p : Jp → Bool} (h : (l.take k).any p = false) (hx : l[k]? = some x) (hp : p x = false) : (l.take (k + 1)).any p = false := by
  rw [take_snoc hx, List.any_append, h]; simp [hp]
theorem any_yes {l : List Jp} {k : Nat} {x : Jp} {p : Jp → Bool} (hx : l[k]? = some x) (hp : p x = true) : l.any p = true := List.any_eq_true.2 ⟨x, List.mem_of_getElem? hx, hp⟩
end Go.Proofs.Ytoghgjgaolinaaa
set_option linter.unusedVariables false
set_option linter.unusedSimpArgs false
namespace Go.Proofs.Ytoghgjgaolinaaa
open Go.RowKit
attribute [local go_sem] GW.cell GW.frozen In.eq_true In.le_true In.ne In.ne' In.ne_add In.ne_add' In.lt_add Upto.le_true Upto.le_add Upto.lt_add
theorem sl_put {w w' : World} {K : List Nat} {v' u : Value} {sz n : Nat} {xs : List Value} (h : Sl w K sz u n xs) (hF : Fr K w w') (hv : ∀ q, v'.ownBlock = some q → q ∈ K ∨ w.heap.size ≤ q) : Sl w' (ob v') sz u n xs := by
  have h2 : Sl w (ob v' ++ K) sz u n xs := Sl.new h fun b hb => by
    rcases List.mem_append.1 hb with hb | hb
    · exact hv b (by simpa [ob] using hb)
    · exact .inl hb
  exact Sl.less (Sl.fr h2 hF fun b hb => List.mem_append_right _ hb) fun b hb => List.mem_append_left _ hb
theorem Ew.new {w : World} {S S' : List Nat} {v : Value} {L : List Ve} (h : Ew w S v L) (hs : ∀ b, b ∈ S' → b ∈ S ∨ w.heap.size ≤ b) : Ew w S' v L := ⟨Sl.new h.1 hs, fun p hp => Sl.new (h.2 p hp) hs⟩
/-- Edges and rows that avoid a list. -/
def Apt (w : World) (S : List Nat) (lv rv : Value) (L : List Ve) (M : List Rv) : Prop := Ew w S lv L ∧ (Sl w S 1 rv M.length (rcs M) ∧ ∀ p ∈ M, Rw w S p.1 p.2)
theorem Apt.ext {w w' : World} {S : List Nat} {lv rv : Value} {L : List Ve} {M : List Rv} (h : Apt w S lv rv L M) (k : Ext w w') : Apt w' S lv rv L M := ⟨h.1.ext k, Sl.ext h.2.1 k, fun p hp => Sl.ext (h.2.2 p hp) k⟩
theorem Apt.put {w w' : World} {K : List Nat} {lv rv v' : Value} {L : List Ve} {M : List Rv} (h : Apt w K lv rv L M) (hF : Fr K w w') (hv : ∀ q, v'.ownBlock = some q → q ∈ K ∨ w.heap.size ≤ q) : Apt w' (ob v') lv rv L M :=
  ⟨⟨sl_put h.1.1 hF hv, fun p hp => sl_put (h.1.2 p hp) hF hv⟩, sl_put h.2.1 hF hv, fun p hp => sl_put (h.2.2 p hp) hF hv⟩
theorem Apt.start {w0 w1 w2 : World} {lv rv : Value} {L : List Ve} {M : List Rv} {b : Nat} (h : Ew w0 [] lv L) (hb : w0.heap.size ≤ b) (hb1 : b < w1.heap.size) (hX : Ext w0 w2) (ho : OwnRs w2 w1.heap.size rv M) (hq : ∀ p ∈ M, ∃ q ∈ L, q.1 = p.1 ∧ q.2.1 = p.2) : Apt w2 [b] lv rv L M := by
  have h2 : Ew w2 [b] lv L := (h.new (S' := [b]) fun c hc => .inr (by simp at hc; omega)).ext hX
  refine ⟨h2, Sl.own ho (fun c hc => by simp at hc; omega), fun p hp => ?_⟩
  obtain ⟨q, hq, e1, e2⟩ := hq p hp
  rw [← e1, ← e2]; exact h2.2 q hq
theorem eds_app (Y N : List Ve) : eds (Y ++ N) = eds Y ++ eds N := by simp [eds]

theorem anyT {α : Type} {p : α → Bool} {l : List α} {k : Nat} {x : α} (h : (l.take k).any p = false) (hx : l[k]? = some x) (hp : p x = false) : (l.take (k + 1)).any p = false := by
  rw [List.take_add_one, hx, Option.toList_some, List.any_append, h]; simpa using hp
theorem anyY {α : Type} {p : α → Bool} {l : List α} {k : Nat} {x : α} (hx : l[k]? = some x) (hp : p x = true) : l.any p = true := List.any_eq_true.2 ⟨x, List.mem_of_getElem? hx, hp⟩
end Go.Proofs.Ytoghgjgaolinaaa
set_option linter.unusedVariables false
set_option linter.unusedSimpArgs false
namespace Go.Proofs.Ytoghgjgaolinaaa
open Go.RowKit
attribute [local go_sem] GW.cell GW.frozen In.eq_true In.le_true In.ne In.ne' In.ne_add In.ne_add' In.lt_add Upto.le_true Upto.le_add Upto.lt_add
end Go.Proofs.Ytoghgjgaolinaaa
