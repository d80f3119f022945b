/-
  A helper of ours: no claim of its own. Layer 10 (edge), lists only: a row put into rows that rise, at the place where it belongs.
-/
import Derived.Test.YtobmjcehgpmfgaaGreatBagK
import Derived.Shelf.SlSortCmp.WholeK
import Derived.Shelf.SlSortCmp.NoneTotal
import Derived.Test.YtobmjcehgpmfgaaGreatProg
import Derived.Test.YtobmjcehgpmfgaaGreatEdgS
set_option linter.unusedVariables false
set_option linter.unusedSimpArgs false
namespace Go.Proofs.YtobmjcehgpmfgaaGreat
open Go.RowKit
attribute [local go_sem] GW.cell GW.frozen In.eq_true In.le_true In.ne In.ne' In.ne_add In.ne_add' In.lt_add Upto.le_true Upto.le_add Upto.lt_add Oper.semAt_some wide_depth wide_fn
/-- The cells of entries. -/
def fcs (D : List Fe) : List Value := D.flatMap fun p => [p.1, p.2.1]
theorem fcs_snoc (D : List Fe) (p : Fe) : fcs (D ++ [p]) = fcs D ++ [p.1, p.2.1] := by simp [fcs]
abbrev OwnFs (w : World) (base : Nat) (v : Value) (D : List Fe) : Prop := w.ownsRow base 128 2 v D.length (fcs D)
theorem tFn : ElemT Tryz.prog 134 128 (.agg #[.slice none 0 0, .slice none 0 0]) 2 48 := ElemT.mk' Tryz.underlying134 (by kernel_rfl) rfl (by omega)
theorem src_two {P : Program} {tx e' : TypeId} (hk : P.underlying tx = some (.slice e')) (w : World) (v1 v2 : Value) (h1 : v1.oneCell' = true) (h2 : v2.oneCell' = true) (E : TypeId) : Src P 2 tx (.slice (some ⟨w.heap.size, 0, none⟩) 1 1) 1 [v1, v2] (w.alloc (.cells #[v1, v2] E)) :=
  Src.ofSlice _ hk _ 1 1 [v1, v2] (by simp) (fun j u hj => by
    have hh := (Ob.new w E [v1, v2]).cell j hj
    rw [show (⟨w.heap.size, 0, none⟩ : Addr).add j = ⟨w.heap.size, j, none⟩ by rw [add_plain]; simp]
    exact hh) (by
    intro u hu
    simp only [List.mem_cons, List.not_mem_nil, or_false] at hu
    rcases hu with rfl | rfl
    · exact h1
    · exact h2)
abbrev IAs (w : World) (b2 B0 : Nat) (T : List Fe) (D : List Fe) (W : World) : Prop :=
  (∃ mv, Ob W b2 134 [mv] ∧ OwnFs W B0 mv D) ∧ ((∃ L', T.Perm (D ++ L')) ∧ (Ext w W ∧ B0 ≤ W.heap.size))
theorem IAs.stab (w : World) (b2 B0 : Nat) (T D : List Fe) (C : Nat) (hC : w.heap.size ≤ C) : Stab C (IAs w b2 B0 T D) :=
  (Stab.ex fun mv => (Stab.ob _ _ _).and (Stab.own _ _ _ _ _ _)).and ((Stab.pure _).and ((Stab.of_ext hC).and ⟨fun A C h e => Nat.le_trans h e.size, fun A l o o' h _ _ _ => by simpa using h⟩))
set_option maxHeartbeats 8000000 in
set_option maxRecDepth 100000 in
theorem appendSeq_c (kf : List Vl → List UInt8) (S : List Nat) (mb n : Nat) (T : List Fe) (b : Nat) (w : World) (hM : Fm kf w S mb n T) (hb : Ob w b 117 [.map (some mb)]) (hT : T.length ≤ 1000000) : Calls Tryz.prog 214 #[.slice none 0 0, .func (.func 156) #[] #[.pointer (some ⟨b, 0, none⟩)]] w fun e w' => ∃ v' D, e = .returned v' ∧ D.Perm T ∧ OwnFs w' w.heap.size v' D ∧ Ext w w' := by
  have hml := hM.1.lt
  obtain ⟨W0, hW0⟩ : ∃ W0, W0 = w.alloc (.cells #[.slice none 0 0] 134) := ⟨_, rfl⟩
  have hX0 : Ext w W0 := by rw [hW0]; exact (Ext.refl w).alloc _
  have p2 : Ob W0 w.heap.size 134 [.slice none 0 0] := by rw [hW0]; exact Ob.new w _ _
  have hM0 : Fm kf W0 S mb n T := ⟨hM.1.kept (ext_by hX0) (by simp), fun p hp => ⟨Sl.ext (hM.2 p hp).1 hX0, Sl.ext (hM.2 p hp).2 hX0⟩⟩
  have hseq := values_seq kf [w.heap.size] S mb n T W0 W0 b hM0 (Ext.refl _) (hb.ext hX0) (by simp; omega)
  have hzw := hX0.size
  have hb2l := p2.lt
  have hW0s : W0.heap.size = w.heap.size + 1 := by rw [hW0]; simp
  rw [hW0s] at hseq
  refine calls_marks Tryz.func214 rfl ?_
  simp only [Tryz.ntmps214, List.size_toArray, List.length_cons, List.length_nil, Nat.reduceAdd, Nat.reduceSub, Array.replicate_succ, Array.replicate_zero, List.push_toArray, List.append_toArray, List.nil_append, List.cons_append]
  go_wp2_with fail
  rw [← hW0]
  refine wp_rangeG (X := [w.heap.size]) (xs := T) rfl (enters_of Tryz.func156 (by kernel_rfl) rfl) hseq (Ext.refl _) (by omega) (fun x vs W h => by rw [h.1]; rfl) (fun x vs => Hv.stab x vs)
    (fun _ _ => False) (fun b => Stab.pure _) (IAs w w.heap.size (w.heap.size + 1) T) (fun c D W => False)
    (fun D => IAs.stab w _ _ T D _ hzw) (fun c D => Stab.pure _)
    ⟨⟨_, p2, World.ownsRow_nil _ _ _ _⟩, ⟨T, by simp⟩, hX0, by omega⟩
    (fun D x vs a' W => ∃ bv, a' = { tmps := #[.slice none 0 0, .func (.func 156) #[] #[.pointer (some ⟨b, 0, none⟩)], .pointer (some ⟨w.heap.size, 0, none⟩), undef, .slice none 0 0, .pointer (some ⟨bv, 0, none⟩), .func (.func 156) #[] #[.pointer (some ⟨b, 0, none⟩)], .agg #[x.1, x.2.1], undef, undef, undef, undef, undef], defers := [] } ∧ Ob W bv 128 [x.1, x.2.1])
    (fun D x vs a' => Stab.ex fun bv => (Stab.pure _).and (Stab.ob _ _ _)) ?assign ?body ?done ?stop
  case assign =>
    rintro LL D ⟨v1, v2, q, f⟩ vs W K _ ⟨rfl, ⟨A1, n1, c1, e1⟩, ⟨A2, n2, c2, e2⟩⟩ hK
    simp only at e1 e2
    subst e1; subst e2
    gi_wp2
    exact hK _ _ ((Ext.refl W).alloc _) ⟨_, rfl, Ob.new W _ _⟩
  case body =>
    rintro LL D ⟨v1, v2, q, f⟩ vs a' W ⟨L', hp⟩ ⟨⟨mv, o2, ho⟩, -, hXk, h1W⟩ ⟨rfl, ⟨A1, n1, c1, e1⟩, ⟨A2, n2, c2, e2⟩⟩ ⟨bv, rfl, ov⟩
    simp only at e1 e2
    subst e1; subst e2
    have k2 := o2.cell 0 rfl
    have kv0 := ov.cell 0 rfl
    have kv1 := ov.cell 1 rfl
    have hDl : D.length < 1000000 := by have := hp.length_eq; rw [List.length_append, List.length_cons] at this; omega
    have hno := Ob.not_own o2 ho (by decide)
    have hp' := hide hp
    have hobg := ob_ge ho
    obtain ⟨MA, mcap, rfl⟩ := own_form ho
    have ho' := hide ho
    have o2' := hide o2
    have hXk' := hide hXk
    clear ho o2 hXk hp ov
    gi_wp2_with (refine wplIn_app tFn rfl (.tmp 8) (.tmp 10) rfl rfl (own_ext ho'.out ((Ext.refl W).alloc _)) rfl (src_two Tryz.underlying134 W _ _ rfl rfl _) (by unfold maxLen; omega) (by omega) (by simp only [World.size_alloc]; omega) ?_; intro v8 w8 ho8 hg8 hob8; have o8 := (o2'.out.alloc (.cells #[.slice A1 n1 c1, .slice A2 n2 c2] 128)).grown hg8 (Ne.symm hno); have k8 := o8.cell 0 rfl; have fr8 := o8.free 0; have l8 := o8.lt; haveI : In w.heap.size w8 := ⟨l8⟩; replace o8 := hide o8; obtain ⟨A8, c8, q8⟩ := own_form ho8; subst q8)
    have hS : ∀ y ∈ w.heap.size :: ob (.slice MA D.length mcap), y = w.heap.size ∨ w.heap.size + 1 ≤ y := fun y hy => (List.mem_cons.1 hy).imp id (fun h => (hobg y h).1)
    have hF : Fr (w.heap.size :: ob (.slice MA D.length mcap)) W (w8.setCell ⟨w.heap.size, 0, none⟩ (.slice A8 (D.length + 1) c8)) := ((((Fr.refl _ W).alloc _).grown hg8 (fun k hk => .inl (List.mem_cons_of_mem _ (by unfold ob; rw [show (Value.slice MA D.length mcap).ownBlock = some k from hk]; exact List.mem_singleton.2 rfl)))).setCell ⟨w.heap.size, 0, none⟩ _ (.inl (by simp)))
    have hown : OwnFs (w8.setCell ⟨w.heap.size, 0, none⟩ (.slice A8 (D.length + 1) c8)) (w.heap.size + 1) (.slice A8 (D.length + 1) c8) (D ++ [(.slice A1 n1 c1, .slice A2 n2 c2, q, f)]) := by
      have h1 := own_fr ho8 ((Fr.refl [w.heap.size] w8).setCell ⟨w.heap.size, 0, none⟩ (.slice A8 (D.length + 1) c8) (.inl (by simp))) (by simp)
      unfold OwnFs
      rw [fcs_snoc, List.length_append, List.length_singleton]
      exact h1
    have o9 := o8.out.set 0 (.slice A8 (D.length + 1) c8)
    refine ⟨keeps_fr hF (fun y hy => ?_), belX_fr hF h1W (fun y hy => ?_), ⟨⟨_, o9, hown⟩, ⟨L', by rw [List.append_assoc]; exact hp'.out⟩, ext_fr hXk'.out hF (fun y hy => by have := hS y hy; omega), Nat.le_trans h1W hF.size⟩, fun _ _ _ h => h.elim⟩
    · rcases List.mem_cons.1 hy with rfl | hy
      · exact ⟨_, _, o2'.out⟩
      · exact ob_obj ho'.out y hy
    · rcases hS y hy with h | h
      · exact .inr (by simp [h])
      · exact .inl h
  case done =>
    rintro Dd D W hD hDp ⟨⟨mv, o2, ho⟩, -, hXk, h1W⟩ hK
    have k2 := o2.cell 0 rfl
    obtain ⟨MA, mcap, rfl⟩ := own_form ho
    have ho' := hide ho
    have hXk' := hide hXk
    have hK' := hide hK
    have hDp' := hide hDp
    clear ho hXk hK hDp
    go_wp2_with fail
    refine ret_mark hK'.out (v := .slice MA D.length mcap) (by simp [results, Tryz.f214, go_sem]) ⟨_, D, rfl, hDp'.out, ?_, put_ext hXk'.out (by omega) _⟩
    have h1 := (Stab.own (B := 0) _ _ _ _ _ _).put _ Dd _ (.deferred none) ho'.out (Nat.zero_le _) hK'.out rfl
    exact own_base h1 (by omega)
  case stop =>
    rintro D c k W _ h
    exact h.elim
end Go.Proofs.YtobmjcehgpmfgaaGreat
namespace Go.Proofs.YtobmjcehgpmfgaaGreat
open Go.Shelf
def Tryz.sortB_ren : Go.Shelf.Ren := ⟨fun | 6 => 155 | 15 => 216 | 14 => 215 | 28 => 263 | 29 => 264 | 20 => 255 | 21 => 256 | 22 => 257 | 23 => 258 | 24 => 259 | 25 => 260 | 26 => 261 | 27 => 262 | 46 => 298 | 47 => 299 | 48 => 300 | 49 => 301 | 50 => 302 | 57 => 319 | n => n, fun | 22 => 134 | 24 => 128 | 25 => 139 | 3 => 3 | 39 => 257 | 0 => 0 | 53 => 296 | 55 => 298 | 4 => 4 | 46 => 289 | 45 => 288 | 50 => 293 | 5 => 5 | 9 => 9 | 66 => 323 | 70 => 327 | 76 => 341 | 77 => 342 | n => n, fun | n => n⟩
theorem Tryz.sortB : Go.Proofs.SlLaysF0.n6 Tryz.prog Tryz.sortB_ren := {
  mixed := by kernel_rfl
  f6 := ⟨Tryz.f155.name, by decide, Tryz.func155.trans (congrArg some (by kernel_rfl))⟩
  f14 := ⟨Tryz.f215.name, by decide, Tryz.func215.trans (congrArg some (by kernel_rfl))⟩
  f15 := Tryz.func216.trans (congrArg some (by kernel_rfl))
  f20 := ⟨Tryz.f255.name, by decide, Tryz.func255.trans (congrArg some (by kernel_rfl))⟩
  f21 := ⟨Tryz.f256.name, by decide, Tryz.func256.trans (congrArg some (by kernel_rfl))⟩
  f22 := ⟨Tryz.f257.name, by decide, Tryz.func257.trans (congrArg some (by kernel_rfl))⟩
  f23 := ⟨Tryz.f258.name, by decide, Tryz.func258.trans (congrArg some (by kernel_rfl))⟩
  f24 := ⟨Tryz.f259.name, by decide, Tryz.func259.trans (congrArg some (by kernel_rfl))⟩
  f25 := ⟨Tryz.f260.name, by decide, Tryz.func260.trans (congrArg some (by kernel_rfl))⟩
  f26 := ⟨Tryz.f261.name, by decide, Tryz.func261.trans (congrArg some (by kernel_rfl))⟩
  f27 := ⟨Tryz.f262.name, by decide, Tryz.func262.trans (congrArg some (by kernel_rfl))⟩
  f28 := Tryz.func263.trans (congrArg some (by kernel_rfl))
  f29 := Tryz.func264.trans (congrArg some (by kernel_rfl))
  f46 := ⟨Tryz.f298.name, by decide, Tryz.func298.trans (congrArg some (by kernel_rfl))⟩
  f47 := Tryz.func299.trans (congrArg some (by kernel_rfl))
  f48 := Tryz.func300.trans (congrArg some (by kernel_rfl))
  f49 := ⟨Tryz.f301.name, by decide, Tryz.func301.trans (congrArg some (by kernel_rfl))⟩
  f50 := ⟨Tryz.f302.name, by decide, Tryz.func302.trans (congrArg some (by kernel_rfl))⟩
  f57 := ⟨Tryz.f319.name, by decide, Tryz.func319.trans (congrArg some (by kernel_rfl))⟩
  t0 := Tryz.underlying0
  a0 := Tryz.isAgg0
  z0 := Tryz.sizeOf0
  v0 := Tryz.zeroValue0
  t3 := Tryz.underlying3
  a3 := Tryz.isAgg3
  z3 := Tryz.sizeOf3
  v3 := Tryz.zeroValue3
  t4 := Tryz.underlying4
  a4 := Tryz.isAgg4
  z4 := Tryz.sizeOf4
  v4 := Tryz.zeroValue4
  t5 := Tryz.underlying5
  a5 := Tryz.isAgg5
  z5 := Tryz.sizeOf5
  v5 := Tryz.zeroValue5
  t9 := Tryz.underlying9
  a9 := Tryz.isAgg9
  z9 := Tryz.sizeOf9
  v9 := Tryz.zeroValue9
  t22 := Tryz.underlying134
  a22 := Tryz.isAgg134
  z22 := Tryz.sizeOf134
  v22 := Tryz.zeroValue134
  t25 := Tryz.underlying139
  a25 := Tryz.isAgg139
  z25 := Tryz.sizeOf139
  v25 := Tryz.zeroValue139
  t39 := Tryz.underlying257
  a39 := Tryz.isAgg257
  z39 := Tryz.sizeOf257
  v39 := Tryz.zeroValue257
  t45 := Tryz.underlying288
  a45 := Tryz.isAgg288
  z45 := Tryz.sizeOf288
  v45 := Tryz.zeroValue288
  t46 := Tryz.underlying289
  a46 := Tryz.isAgg289
  z46 := Tryz.sizeOf289
  v46 := Tryz.zeroValue289
  t50 := Tryz.underlying293
  a50 := Tryz.isAgg293
  z50 := Tryz.sizeOf293
  v50 := Tryz.zeroValue293
  t53 := Tryz.underlying296
  a53 := Tryz.isAgg296
  z53 := Tryz.sizeOf296
  v53 := Tryz.zeroValue296
  t55 := Tryz.underlying298
  a55 := Tryz.isAgg298
  z55 := Tryz.sizeOf298
  v55 := Tryz.zeroValue298
  t66 := Tryz.underlying323
  a66 := Tryz.isAgg323
  z66 := Tryz.sizeOf323
  v66 := Tryz.zeroValue323
  t70 := Tryz.underlying327
  a70 := Tryz.isAgg327
  z70 := Tryz.sizeOf327
  v70 := Tryz.zeroValue327
  t76 := Tryz.underlying341
  a76 := Tryz.isAgg341
  z76 := Tryz.sizeOf341
  v76 := Tryz.zeroValue341
  t77 := Tryz.underlying342
  a77 := Tryz.isAgg342
  z77 := Tryz.sizeOf342
  v77 := Tryz.zeroValue342 }
end Go.Proofs.YtobmjcehgpmfgaaGreat
set_option linter.unusedVariables false
set_option linter.unusedSimpArgs false
namespace Go.Proofs.YtobmjcehgpmfgaaGreat
open Go.RowKit
theorem ins_same {rows : List (List Vl)} {r : List Vl} (n : Nat) (h : rows[n]? = some r) : insR rows r = rows := by
  unfold insR
  rw [if_pos (hasR_iff.2 (List.mem_of_getElem? h))]
theorem ins_split {rows : List (List Vl)} {r : List Vl} (hv : ∀ y ∈ rows, mayR y = true) (hr : mayR r = true) (ha : rows.Pairwise rlt) (n : Nat) (h1 : ∀ x ∈ rows.take n, cmpT x r < 0) (h2 : ∀ x, rows[n]? = some x → ¬ cmpT x r < 0) (h3 : rows[n]? ≠ some r) : insR rows r = rows.take n ++ r :: rows.drop n := by
  have key : ∀ x ∈ rows.drop n, 0 < cmpT x r := by
    have hd : (rows.drop n).Pairwise rlt := ha.sublist (List.drop_sublist n rows)
    have h0 : (rows.drop n)[0]? = rows[n]? := by rw [List.getElem?_drop, Nat.add_zero]
    have hsub : ∀ y ∈ rows.drop n, y ∈ rows := fun y hy => List.mem_of_mem_drop hy
    generalize rows.drop n = t at hd h0 hsub
    rcases t with _ | ⟨y, t⟩
    · intro x hx; simp at hx
    · simp only [List.getElem?_cons_zero] at h0
      have hyr : rlt r y := by
        rcases row_ways (hv y (hsub y (by simp))) hr with h | h | h
        · exact absurd h.2 (h2 y h0.symm)
        · exact absurd (h ▸ h0.symm) h3
        · exact h
      intro x hx
      have hrx : rlt r x := by
        rcases List.mem_cons.1 hx with rfl | hx
        · exact hyr
        · exact rlt_trans hyr ((List.pairwise_cons.1 hd).1 x hx)
      have := hrx.2; have := cmpT_swap x r; omega
  have hno : r ∉ rows := by
    intro h
    rw [← List.take_append_drop n rows] at h
    have h0 := cmpT_self hr
    rcases List.mem_append.1 h with h | h
    · have := h1 r h; omega
    · have := key r h; omega
  unfold insR
  rw [if_neg (by rw [hasR_iff]; exact hno)]
  have e1 : rows.filter (fun x => decide (cmpT x r < 0)) = rows.take n := by
    conv => lhs; rw [← List.take_append_drop n rows]
    rw [List.filter_append, List.filter_eq_self.2 (fun x hx => by simpa using h1 x hx), List.filter_eq_nil_iff.2 (fun x hx => by have := key x hx; simp; omega), List.append_nil]
  have e2 : rows.filter (fun x => decide (0 < cmpT x r)) = rows.drop n := by
    conv => lhs; rw [← List.take_append_drop n rows]
    rw [List.filter_append, List.filter_eq_nil_iff.2 (fun x hx => by have := h1 x hx; simp; omega), List.filter_eq_self.2 (fun x hx => by simpa using key x hx), List.nil_append]
  rw [e1, e2]
theorem rowsL_take_succ (l : List Ed) (k : Nat) (e : Ed) (h : l[k]? = some e) : rowsL (l.take (k + 1)) = insR (rowsL (l.take k)) e.1 := by
  rw [List.take_add_one, h, Option.toList_some, rowsL_snoc]
/-- A cell for each row. -/
abbrev Rv := Value × List Vl
abbrev rvs (M : List Rv) : List (List Vl) := M.map Prod.snd
abbrev rcs (M : List Rv) : List Value := M.map Prod.fst

/-- What is asked of each edge, and of two that are neighbours. -/
def okE (e : Ed) : Bool := mayR e.1 && mayJ [e.2]
theorem mayJ_one (j : Jp) : mayJ [j] = okJ j := by
  rw [Bool.eq_iff_iff, mayJ_iff]
  constructor
  · rintro ⟨-, h, -⟩; exact h j (by simp)
  · intro h; exact ⟨by simp, by simpa using h, by simp [Asc]⟩
theorem okE_iff (e : Ed) : okE e = true ↔ mayR e.1 = true ∧ okJ e.2 = true := by unfold okE; rw [Bool.and_eq_true, mayJ_one]
/-- The first n edges are in form, each by itself and behind the one ahead of it. -/
def Chk (l : List Ed) (n : Nat) : Prop := (∀ i e, i < n → l[i]? = some e → okE e = true) ∧ ∀ i a b, i + 1 < n → l[i]? = some a → l[i + 1]? = some b → elt a b
theorem Chk.zero (l : List Ed) : Chk l 0 := ⟨fun i e h => by omega, fun i a b h => by omega⟩
theorem Chk.first {l : List Ed} {e : Ed} (h : l[0]? = some e) (ok : okE e = true) : Chk l 1 :=
  ⟨fun i x hi hx => by obtain rfl : i = 0 := by omega
                       rw [h] at hx; cases hx; exact ok, fun i a b hi => by omega⟩
theorem Chk.next {l : List Ed} {k : Nat} {d e : Ed} (c : Chk l (k + 1)) (hd : l[k]? = some d) (he : l[k + 1]? = some e) (ok : okE e = true) (lt : elt d e) : Chk l (k + 2) := by
  refine ⟨fun i x hi hx => ?_, fun i a b hi ha hb => ?_⟩
  · rcases Nat.lt_or_ge i (k + 1) with h | h
    · exact c.1 i x h hx
    · obtain rfl : i = k + 1 := by omega
      rw [he] at hx; cases hx; exact ok
  · rcases Nat.lt_or_ge (i + 1) (k + 1) with h | h
    · exact c.2 i a b h ha hb
    · obtain rfl : i = k := by omega
      rw [hd] at ha; rw [he] at hb; cases ha; cases hb; exact lt
theorem Chk.pairwise {l : List Ed} (c : Chk l l.length) : l.Pairwise elt := by
  have key : ∀ (m : List Ed), (∀ i a b, m[i]? = some a → m[i + 1]? = some b → elt a b) → m.Pairwise elt := by
    intro m
    induction m with
    | nil => intro _; exact .nil
    | cons a m ih =>
      intro h
      have ih' := ih fun i x y hx hy => h (i + 1) x y (by simpa using hx) (by simpa using hy)
      refine List.pairwise_cons.2 ⟨?_, ih'⟩
      rcases m with _ | ⟨b, m⟩
      · simp
      · have hab := h 0 a b rfl rfl
        intro x hx
        rcases List.mem_cons.1 hx with rfl | hx
        · exact hab
        · exact elt_trans hab ((List.pairwise_cons.1 ih').1 x hx)
  refine key l fun i a b ha hb => c.2 i a b ?_ ha hb
  have := (List.getElem?_eq_some_iff.1 hb).1
  exact this
theorem mayE_elt {l : List Ed} (h : mayE l = true) {i : Nat} {a b : Ed} (ha : l[i]? = some a) (hb : l[i + 1]? = some b) : elt a b := by
  obtain ⟨-, -, h3, -⟩ := mayE_doc.1 h
  obtain ⟨q, rfl⟩ := List.getElem?_eq_some_iff.1 ha
  obtain ⟨q', rfl⟩ := List.getElem?_eq_some_iff.1 hb
  exact List.pairwise_iff_getElem.1 h3 i (i + 1) q q' (by omega)
theorem mayE_okE {l : List Ed} (h : mayE l = true) {e : Ed} (he : e ∈ l) : okE e = true := (okE_iff e).2 ((mayE_doc.1 h).2.1 e he)
theorem mayE_chk {l : List Ed} (hl : l.length ≤ 4096) (c : Chk l l.length) (h : ∀ r ∈ rowsL l, (jmps l r).length ≤ 1024) : mayE l = true := by
  refine mayE_doc.2 ⟨hl, fun e he => ?_, c.pairwise, h⟩
  obtain ⟨i, hi⟩ := List.getElem?_of_mem he
  exact (okE_iff e).1 (c.1 i e (List.getElem?_eq_some_iff.1 hi).1 hi)
theorem Chk.rows {l : List Ed} (c : Chk l l.length) : ∀ e ∈ l, mayR e.1 = true := fun e he => by
  obtain ⟨i, hi⟩ := List.getElem?_of_mem he
  exact ((okE_iff e).1 (c.1 i e (List.getElem?_eq_some_iff.1 hi).1 hi)).1
theorem mayE_false {l : List Ed} (h : mayE l = true → False) : mayE l = false := by
  cases hh : mayE l
  · rfl
  · exact (h hh).elim
/-- Which rows' jumps a table asks about. -/
theorem tabE_rows {l : List Ed} (h : mayE l = true) : tabE l = (rowsL l).all fun r => decide (0 ≤ leV (jmps l r)) := by
  unfold tabE
  rw [h, Bool.true_and, grp_eq (mayE_rise h)]
  unfold byRows
  rw [List.all_map]
  rfl
theorem byRows_get {l : List Ed} {k : Nat} {r : List Vl} (h : (rowsL l)[k]? = some r) : (byRows l)[k]? = some (r, jmps l r) := by
  unfold byRows; rw [List.getElem?_map, h]; rfl
theorem byRows_len (l : List Ed) : (byRows l).length = (rowsL l).length := by unfold byRows; rw [List.length_map]
/-- What is made of the first k rows. -/
def Evs (op : List Jp → Int × List Jp) (l : List Ed) (k : Nat) (acc : List Ed) : Prop := (∀ g ∈ (byRows l).take k, (op g.2).1 = 0) ∧ acc = evL op ((byRows l).take k)
theorem Evs.zero (op : List Jp → Int × List Jp) (l : List Ed) : Evs op l 0 [] := ⟨by simp, by simp [evL]⟩
theorem Evs.next {op : List Jp → Int × List Jp} {l : List Ed} {k : Nat} {acc : List Ed} {r : List Vl} (h : Evs op l k acc) (hr : (rowsL l)[k]? = some r) (h0 : (op (jmps l r)).1 = 0) : Evs op l (k + 1) (acc ++ (op (jmps l r)).2.map fun j => (r, j)) := by
  have hx := byRows_get hr
  have e : (byRows l).take (k + 1) = (byRows l).take k ++ [(r, jmps l r)] := by rw [List.take_add_one, hx]; rfl
  refine ⟨fun g hg => ?_, ?_⟩
  · rw [e] at hg
    rcases List.mem_append.1 hg with hg | hg
    · exact h.1 g hg
    · obtain rfl := List.mem_singleton.1 hg; exact h0
  · rw [e, evL_snoc, ← h.2]
theorem evE_ok' {op : List Jp → Int × List Jp} : ∀ {G : List Gp}, (∀ g ∈ G, (op g.2).1 = 0) → evE op G = 0
  | [], _ => rfl
  | g :: t, h => by unfold evE; rw [if_pos (h g (by simp))]; exact evE_ok' fun x hx => h x (by simp [hx])
theorem evE_bad' {op : List Jp → Int × List Jp} : ∀ {G : List Gp} {k : Nat} {x : Gp}, (∀ g ∈ G.take k, (op g.2).1 = 0) → G[k]? = some x → (op x.2).1 ≠ 0 → evE op G = (op x.2).1
  | g :: t, 0, x, _, hx, h => by simp at hx; subst hx; unfold evE; rw [if_neg h]
  | g :: t, k + 1, x, hp, hx, h => by
    unfold evE
    rw [if_pos (hp g (by simp))]
    exact evE_bad' (k := k) (fun y hy => hp y (by simp [hy])) (by simpa using hx) h
theorem Evs.bad {op : List Jp → Int × List Jp} {l : List Ed} {k : Nat} {acc : List Ed} {r : List Vl} (h : Evs op l k acc) (hr : (rowsL l)[k]? = some r) (h0 : (op (jmps l r)).1 ≠ 0) : eachE op (byRows l) = (op (jmps l r)).1 ∧ eachR op (byRows l) = [] := by
  have e := evE_bad' h.1 (byRows_get hr) h0
  have e2 : eachE op (byRows l) = (op (jmps l r)).1 := by unfold eachE; rw [if_neg (by rw [e]; exact h0), e]
  exact ⟨e2, by unfold eachR; rw [if_neg (by rw [e2]; exact h0)]⟩
theorem Evs.done {op : List Jp → Int × List Jp} {l : List Ed} {k : Nat} {acc : List Ed} (h : Evs op l k acc) (hk : (rowsL l).length ≤ k) : (4096 < acc.length → eachE op (byRows l) = 7 ∧ eachR op (byRows l) = []) ∧ (¬ 4096 < acc.length → eachE op (byRows l) = 0 ∧ eachR op (byRows l) = acc) := by
  obtain ⟨h1, h2⟩ := h
  rw [List.take_of_length_le (by rw [byRows_len]; exact hk)] at h1 h2
  have e := evE_ok' h1
  constructor
  · intro hl
    have e2 : eachE op (byRows l) = 7 := by unfold eachE; rw [if_pos e, ← h2, if_pos hl]
    exact ⟨e2, by unfold eachR; rw [if_neg (by rw [e2]; decide)]⟩
  · intro hl
    have e2 : eachE op (byRows l) = 0 := by unfold eachE; rw [if_pos e, ← h2, if_neg hl]
    exact ⟨e2, by unfold eachR; rw [if_pos e2, h2]⟩
end Go.Proofs.YtobmjcehgpmfgaaGreat
