/-
  A helper of ours: no claim of its own. Layer 28 (hop): the rows of a table by where the windows begin to which they belong, by the code.
-/
import Derived.Test.YtljkneajdndgjaaGreatHopX
import Derived.Test.YtljkneajdndgjaaGreatHopR
import Derived.Test.YtljkneajdndgjaaGreatRgx
import Derived.Test.YtljkneajdndgjaaGreatSnaD
import Derived.Test.YtljkneajdndgjaaGreatEdgM
set_option linter.unusedVariables false
set_option linter.unusedSimpArgs false
namespace Go.Proofs.YtljkneajdndgjaaGreat
open Go.RowKit
attribute [local go_sem] GW.cell GW.frozen In.eq_true In.le_true In.ne In.ne' In.ne_add In.ne_add' In.lt_add Upto.le_true Upto.le_add Upto.lt_add Oper.semAt_some wide_depth wide_fn
/-- What a round leaves alone, told from its start. -/
def Thr (B n₀ : Nat) (X : List Nat) (Wo W : World) : Prop := KeepsFrom B Wo W ∧ (BelX n₀ X Wo W ∧ Qk B Wo W)
theorem Thr.refl (B n₀ : Nat) (X : List Nat) (W : World) : Thr B n₀ X W W := ⟨keeps_ext (Ext.refl W), BelX.refl _ _ _, fun b T us _ _ h => h⟩
theorem Thr.size {B n₀ : Nat} {X : List Nat} {Wo W : World} (h : Thr B n₀ X Wo W) : Wo.heap.size ≤ W.heap.size := h.1.size
theorem Thr.fr {B n₀ : Nat} {X S : List Nat} {Wo W W' : World} (h : Thr B n₀ X Wo W) (hF : Fr S W W') (hn : n₀ ≤ W.heap.size) (hS : ∀ b ∈ S, (n₀ ≤ b ∨ b ∈ X) ∧ ((∃ T vs, Ob W b T vs) ∨ b < B) ∧ (B ≤ b → ∀ T us, T ≠ 56 → ¬ Ob W b T us)) : Thr B n₀ X Wo W' := by
  refine ⟨keepsF_trans h.1 ⟨hF.size, fun k o hk ho hc => (hF.block k (lt_of_block ho) (fun m => ?_)).trans ho⟩, h.2.1.trans (belX_fr hF hn (fun b hb => (hS b hb).1)), h.2.2.trans (fun b T us hb hT ho => ho.fr hF (fun m => (hS b m).2.2 hb T us hT ho))⟩
  rcases (hS k m).2.1 with ⟨T, vs, h1⟩ | h1
  · unfold Ob at h1
    rw [h1] at ho
    obtain rfl := Option.some.inj ho
    cases hc
  · omega
theorem Thr.ext {B n₀ : Nat} {X : List Nat} {Wo W W' : World} (h : Thr B n₀ X Wo W) (hn : n₀ ≤ W.heap.size) (k : Ext W W') : Thr B n₀ X Wo W' := h.fr (S := []) (Fr.of_ext k) hn (by simp)
theorem Thr.stab {B n₀ C : Nat} {X : List Nat} {Wo : World} (hn : n₀ ≤ Wo.heap.size) (hC : Wo.heap.size ≤ C) : Stab C (Thr B n₀ X Wo) :=
  ⟨fun A D x e => x.ext (Nat.le_trans hn x.size) e, fun A l o o' x hl ho hc => by
    refine ⟨⟨by have := x.size; simpa using this, fun k p hk hp hpc => (World.putObj_heap_other (by have := lt_of_block hp; omega)).trans (x.1.same k p hk hp hpc)⟩, x.2.1.trans ⟨rfl, rfl, rfl, by simp, fun k hk _ => World.putObj_heap_other (by omega)⟩, x.2.2.trans (Qk.put ho hc)⟩⟩
theorem Thr.cls {B n₀ N : Nat} {X : List Nat} {Wo : World} (hn : n₀ ≤ Wo.heap.size) (hN : Wo.heap.size ≤ N) {A : World} {b o : Nat} {u : Value} {vs : List Value} (h : Thr B n₀ X Wo A) (hb : N ≤ b) (ho : Ob A b 82 vs) : Thr B n₀ X Wo (A.setCell ⟨b, o, none⟩ u) := by
  have hF : Fr [b] A (A.setCell ⟨b, o, none⟩ u) := (Fr.refl _ A).setCell ⟨b, o, none⟩ u (.inl (by simp))
  refine ⟨keepsF_trans h.1 (keeps_fr hF (fun y hy => by rw [List.mem_singleton] at hy; subst hy; exact ⟨_, _, ho⟩)), h.2.1.trans (belX_fr hF (Nat.le_trans hn h.size) (fun y hy => by rw [List.mem_singleton] at hy; subst hy; exact .inl (by omega))), fun c T us hc hT h1 => ?_⟩
  have h2 := h.2.2 c T us hc hT h1
  exact h2.far ⟨b, o, none⟩ u (by have := h1.lt; show c ≠ b; omega)
/-- Where one of another kind is turned, copies and rows stay. -/
theorem OwnC.kind {w w' : World} {B : Nat} {v : Value} {C : List Vc} {S : List Nat} (h : OwnC w B v C) (hF : Fr S w w') (hS : ∀ b ∈ S, ∀ cs c, w.heap[b]? ≠ some (.cells cs 56 c) ∧ w.heap[b]? ≠ some (.cells cs 64 c)) : OwnC w' B v C :=
  h.away hF fun b hb => ⟨fun hb2 => by obtain ⟨cs, c, hc⟩ := own_kind h.1 hb2; exact (hS b hb cs c).1 hc, fun cs c => (hS b hb cs c).2⟩
theorem map_no_kind {w : World} {b : Nat} (h : ∃ es c, w.heap[b]? = some (.map es c)) (E : TypeId) : ∀ cs c, w.heap[b]? ≠ some (.cells cs E c) := by
  obtain ⟨es, c, h⟩ := h
  intro cs c2 hc
  rw [h] at hc
  cases hc
theorem GrpH.set {A : World} {B mb n b o : Nat} {u : Value} {T : List Eh} {E : TypeId} {vs : List Value} (h : GrpH A B mb n T) (ho : Ob A b E vs) (h1 : E ≠ 56) (h2 : E ≠ 64) : GrpH (A.setCell ⟨b, o, none⟩ u) B mb n T := by
  have hF : Fr [b] A (A.setCell ⟨b, o, none⟩ u) := (Fr.refl _ A).setCell ⟨b, o, none⟩ u (.inl (by simp))
  refine ⟨h.1.kept (row := some b) (World.grownBy.mk (row := some b) rfl rfl rfl (by simp) fun i hi hn => Below.heap_setCell A ⟨b, o, none⟩ u i (fun e => hn (by rw [e]))) (fun e => ?_), fun p hp => (h.2.1 p hp).kind hF (fun y hy cs c => ?_), h.2.2⟩
  · obtain rfl := Option.some.inj e
    obtain ⟨es, c, hm⟩ := h.1.isMap
    unfold Ob at ho
    rw [hm] at ho
    cases ho
  · rw [List.mem_singleton] at hy
    subst hy
    exact ⟨no_kind ho h1 cs c, no_kind ho h2 cs c⟩
/-- A row belongs to a window: told in the map. -/
theorem GrpH.put {W w8 w9 : World} {B mb n : Nat} {T : List Eh} {t : Int} {v0 v8 : Value} {C0 : List Vc} {c : Vc} (h : GrpH W B mb n T) (ht : 0 ≤ t ∧ t < 1125899906842624)
    (h0 : (getH T t = none ∧ v0 = .slice none 0 0 ∧ C0 = []) ∨ getH T t = some (t, v0, C0)) {Wx : World} (hXx : Ext W Wx) (hF8 : Fr (ob v0) Wx w8) (ho8 : w8.ownsRow B 56 2 v8 (C0.length + 1) (cc C0 ++ cc1 c)) (hb8 : v8.ownBlock = v0.ownBlock ∨ v8.ownBlock = some Wx.heap.size) (hc : OwnR Wx 0 c.1 c.2.1)
    (hM9 : Mv w9 Tryz.prog 3 kentH mb (n + 1) (putM kentH T (t, v8, C0 ++ [c]))) (hg9 : w8.grownBy w9 (some mb)) : GrpH w9 B mb (n + 1) (putM kentH T (t, v8, C0 ++ [c])) := by
  obtain ⟨hM, hO, hE, hP⟩ := h
  have hF9 : Fr [mb] w8 w9 := (Fr.refl [mb] w8).grown hg9 (fun k hk => by obtain rfl := Option.some.inj hk; exact .inl (by simp))
  have hmp8 : ∃ es c, w8.heap[mb]? = some (.map es c) := by
    have hmx : ∃ es c, Wx.heap[mb]? = some (.map es c) := by obtain ⟨es, c, hm⟩ := hM.isMap; exact ⟨es, c, (hXx.block _ (lt_of_block hm)).trans hm⟩
    obtain ⟨es, c, hm⟩ := hmx
    refine ⟨es, c, (hF8.block mb (lt_of_block hm) (fun m => ?_)).trans hm⟩
    rcases h0 with ⟨-, rfl, -⟩ | h0
    · simp [ob, Value.ownBlock] at m
    · obtain ⟨ds, d, hd⟩ := own_kind ((hO _ (getH_mem h0).1).ext hXx).1 m
      exact map_no_kind ⟨es, c, hm⟩ _ ds d hd
  have hS9 : ∀ b ∈ [mb], ∀ cs c, w8.heap[b]? ≠ some (.cells cs 56 c) ∧ w8.heap[b]? ≠ some (.cells cs 64 c) := fun b hb cs c => by
    rw [List.mem_singleton] at hb
    subst hb
    exact ⟨map_no_kind hmp8 _ cs c, map_no_kind hmp8 _ cs c⟩
  have hC0 : OwnC Wx B v0 C0 := by
    rcases h0 with ⟨-, rfl, rfl⟩ | h0
    · exact OwnC.nil _ _
    · exact (hO _ (getH_mem h0).1).ext hXx
  have hnew : OwnC w8 B v8 (C0 ++ [c]) := OwnC.app (cs := []) (cap := 0) (u := undef) hC0 hF8 ho8 hc
  have hap : ∀ p ∈ T, p.1 ≠ t → ∀ b ∈ ob v0, b ∉ ob p.2.1 := fun p hp hne b hb hb2 => by
    rcases h0 with ⟨-, rfl, -⟩ | h0
    · simp [ob, Value.ownBlock] at hb
    · obtain ⟨hq, -⟩ := getH_mem h0
      obtain ⟨i, hi, rfl⟩ := List.mem_iff_getElem.1 hp
      obtain ⟨j, hj, hje⟩ := List.mem_iff_getElem.1 hq
      rw [List.pairwise_iff_getElem] at hP
      rcases Nat.lt_trichotomy i j with h3 | h3 | h3
      · have := hP i j hi hj h3 b hb2
        rw [hje] at this
        exact this hb
      · subst h3
        rw [hje] at hne
        exact hne rfl
      · have := hP j i hj hi h3
        rw [hje] at this
        exact this b hb hb2
  have hold : ∀ p ∈ T, p.1 ≠ t → OwnC w8 B p.2.1 p.2.2 := fun p hp hne => ((hO p hp).ext hXx).away hF8 fun b hb => ⟨hap p hp hne b hb, fun cs cn hcs => by
    rcases h0 with ⟨-, rfl, -⟩ | h0
    · simp [ob, Value.ownBlock] at hb
    · obtain ⟨ds, d, hd⟩ := own_kind ((hO _ (getH_mem h0).1).ext hXx).1 hb
      exact no_kind hd (by decide) cs cn hcs⟩
  refine ⟨hM9, fun p hp => ?_, fun p hp => ?_, ?_⟩
  · rcases putH_mem hp with rfl | ⟨hp, hne⟩
    · exact hnew.kind hF9 hS9
    · exact (hold p hp hne).kind hF9 hS9
  · rcases putH_mem hp with rfl | ⟨hp, hne⟩
    · exact ⟨by simp, ht⟩
    · exact hE p hp
  · unfold putM
    rw [List.pairwise_cons]
    refine ⟨fun p hp b hb hb2 => ?_, ?_⟩
    · have hp2 : p ∈ T ∧ p.1 ≠ t := by
        unfold delM at hp
        rw [List.mem_filter, show (kentH p).1.sameKey (kentH (t, v8, C0 ++ [c])).1 = decide (p.1 = t) from kh_same p t] at hp
        exact ⟨hp.1, by simpa using hp.2⟩
      rcases hb8 with h8 | h8
      · exact hap p hp2.1 hp2.2 b (by unfold ob; rw [← h8]; exact hb) hb2
      · have e1 : b = Wx.heap.size := by have := Option.mem_toList.1 hb; rw [h8] at this; simpa using this.symm
        have := (ob_ge ((hO p hp2.1).ext hXx).1 b hb2).2
        omega
    · unfold delM
      exact hP.sublist List.filter_sublist
theorem cell_map {W : World} {b p : Nat} {es c} (h : W.heap[b]? = some (.map es c)) (u : Value) : W.cell? ⟨b, p, none⟩ ≠ some u := by
  intro e
  simp [World.cell?, h] at e
/-- Edges lie in no map. -/
theorem ew_map {W : World} {S : List Nat} {v : Value} {L : List Ve} {b : Nat} {es c} (h : Ew W S v L) (hm : W.heap[b]? = some (.map es c)) : Ew W (b :: S) v L := by
  have sl : ∀ {k n : Nat} {u : Value} {xs : List Value}, Sl W S k u n xs → Sl W (b :: S) k u n xs := by
    rintro k n u xs ⟨B, q, rfl, h1, h2, h3, h4⟩
    refine ⟨B, q, rfl, h1, h2, h3, ?_⟩
    rcases h4 with h4 | ⟨c, p, e, hcS, hc⟩
    · exact .inl h4
    · rcases xs with _ | ⟨x, xs⟩
      · exact .inl rfl
      · refine .inr ⟨c, p, e, ?_, hc⟩
        intro hcb
        rcases List.mem_cons.1 hcb with rfl | hcb
        · exact cell_map hm _ (hc 0 x rfl)
        · exact hcS hcb
  exact ⟨sl h.1, fun p hp => sl (h.2 p hp)⟩
theorem keepsF_stab {B C : Nat} {Wo : World} (hC : Wo.heap.size ≤ C) : Stab C (KeepsFrom B Wo) :=
  ⟨fun A D x e => keepsF_trans x (keeps_ext e), fun A l o o' x hl ho hc => ⟨by have := x.size; simpa using this, fun k p hk hp hpc => (World.putObj_heap_other (by have := lt_of_block hp; omega)).trans (x.same k p hk hp hpc)⟩⟩
theorem mv_ext {α : Type} {P : Program} {kt : TypeId} {f : α → Lit × Value} {b n : Nat} {M : List α} {w w' : World} (h : Mv w P kt f b n M) (k : Ext w w') : Mv w' P kt f b n M := h.kept (row := none) ⟨k.os, k.tape, k.output, k.size, fun i hi _ => k.block i hi⟩ (by simp)
/-- What is told by the code's collecting. -/
def hcE (s hp f r : Int) (G : List Gp) : Int := if 1024 < (hkeys s hp f r G).length then 7 else 0
abbrev IC (w : World) (s hp f r : Int) (b2 b4 b5 b6 mb B0 : Nat) (G : List Gp) (k : Nat) (W : World) : Prop :=
  (Ob W b4 83 [.map none] ∧ Ob W b5 28 [.int .i64 0]) ∧ ((Ob W b6 83 [.map (some mb)] ∧ Ob W b2 82 [.int .i64 s, .int .i64 hp, .int .i64 f, .int .i64 r]) ∧ ((∃ n T, GrpH W B0 mb n T ∧ ((∀ t, rowsH T t = hrows s hp f r (G.take k) t) ∧ T.length ≤ 1024 ∧ n ≤ k * 2048)) ∧ (Ext w W ∧ B0 ≤ W.heap.size)))
theorem szStab (B0 B : Nat) : Stab B fun W => B0 ≤ W.heap.size := ⟨fun A C h e => Nat.le_trans h e.size, fun A l o o' h _ _ _ => by simpa using h⟩
theorem IC.stab (w : World) (s hp f r : Int) (b2 b4 b5 b6 mb B0 : Nat) (G : List Gp) (k B : Nat) (hB : w.heap.size ≤ B) (hm : mb < B) : Stab B (IC w s hp f r b2 b4 b5 b6 mb B0 G k) :=
  ((Stab.ob _ _ _).and (Stab.ob _ _ _)).and (((Stab.ob _ _ _).and (Stab.ob _ _ _)).and ((Stab.ex fun n => Stab.ex fun T => (GrpH.stab hm).and (Stab.pure _)).and ((Stab.of_ext hB).and (szStab _ _))))
abbrev IxC (w : World) (s hp f r : Int) (b4 b5 : Nat) (G : List Gp) (c : Code) (k : Nat) (W : World) : Prop :=
  (c = .ret ∧ 1024 < (hkeys s hp f r G).length) ∧ ((Ob W b4 83 [.map none] ∧ Ob W b5 28 [.int .i64 7]) ∧ Ext w W)
theorem IxC.stab (w : World) (s hp f r : Int) (b4 b5 : Nat) (G : List Gp) (c : Code) (k B : Nat) (hB : w.heap.size ≤ B) : Stab B (IxC w s hp f r b4 b5 G c k) :=
  (Stab.pure _).and (((Stab.ob _ _ _).and (Stab.ob _ _ _)).and (Stab.of_ext hB))
/-- Within a row's windows. -/
abbrev IN (w Wo : World) (s hp f r : Int) (b2 b4 b5 b6 mb B0 Bo : Nat) (G : List Gp) (k : Nat) (q : List Vl) (J : List Jp) (U : List Int) (b7 b8 bwO bjO : Nat) (rv fv : Value) (m : Nat) (W : World) : Prop :=
  (Ob W b4 83 [.map none] ∧ Ob W b5 28 [.int .i64 0]) ∧ ((Ob W b6 83 [.map (some mb)] ∧ Ob W b2 82 [.int .i64 s, .int .i64 hp, .int .i64 f, .int .i64 r]) ∧
  ((∃ n T, GrpH W B0 mb n T ∧ ((∀ t, rowsH T t = hrows s hp f r (G.take k) t ++ (if t ∈ U.take m then [(q, copN J t (hend s t))] else [])) ∧ T.length ≤ 1024 ∧ n ≤ k * 2048 + m)) ∧
  (((Ob W b7 54 [rv] ∧ Ob W b8 73 [fv]) ∧ ((Ob W bwO 82 [.int .i64 s, .int .i64 hp, .int .i64 f, .int .i64 r] ∧ Ob W bjO 73 [fv]) ∧ (OwnR W 0 rv q ∧ OwnJ W 0 fv J))) ∧
  (Thr Bo B0 [mb] Wo W ∧ (Ext w W ∧ B0 ≤ W.heap.size)))))
theorem IN.stab {w Wo : World} {s hp f r : Int} {b2 b4 b5 b6 mb B0 Bo : Nat} {G : List Gp} {k : Nat} {q : List Vl} {J : List Jp} {U : List Int} {b7 b8 bwO bjO : Nat} {rv fv : Value} {m B : Nat} (hB : w.heap.size ≤ B) (hm : mb < B) (hn : B0 ≤ Wo.heap.size) (hW : Wo.heap.size ≤ B) : Stab B (IN w Wo s hp f r b2 b4 b5 b6 mb B0 Bo G k q J U b7 b8 bwO bjO rv fv m) :=
  ((Stab.ob _ _ _).and (Stab.ob _ _ _)).and (((Stab.ob _ _ _).and (Stab.ob _ _ _)).and ((Stab.ex fun n => Stab.ex fun T => (GrpH.stab hm).and (Stab.pure _)).and ((((Stab.ob _ _ _).and (Stab.ob _ _ _)).and (((Stab.ob _ _ _).and (Stab.ob _ _ _)).and ((Stab.own _ _ _ _ _ _).and (Stab.own _ _ _ _ _ _)))).and ((Thr.stab hn hW).and ((Stab.of_ext hB).and (szStab _ _))))))
theorem IN.cls {w Wo : World} {s hp f r : Int} {b2 b4 b5 b6 mb B0 Bo : Nat} {G : List Gp} {k : Nat} {q : List Vl} {J : List Jp} {U : List Int} {b7 b8 bwO bjO : Nat} {rv fv : Value} {m B : Nat} (hB : w.heap.size ≤ B) (hn : B0 ≤ Wo.heap.size) (hW : Wo.heap.size ≤ B) (h2 : b2 < B) (h4 : b4 < B) (h5 : b5 < B) (h6 : b6 < B) (h7 : b7 < B) (h8 : b8 < B) (h9 : bwO < B) (h10 : bjO < B) : Cls B (IN w Wo s hp f r b2 b4 b5 b6 mb B0 Bo G k q J U b7 b8 bwO bjO rv fv m) := by
  rintro A b o u vs ⟨⟨k4, k5⟩, ⟨k6, k2⟩, ⟨n, T, hG, hT⟩, ⟨⟨k7, k8⟩, ⟨k9, k10⟩, k11, k12⟩, hTh, hX, hz⟩ hb ho
  have fr : ∀ {x : Nat} {E : TypeId} {us : List Value}, Ob A x E us → x < B → Ob (A.setCell ⟨b, o, none⟩ u) x E us := fun h hx => h.far ⟨b, o, none⟩ u (by show _ ≠ b; omega)
  have hF : Fr [b] A (A.setCell ⟨b, o, none⟩ u) := (Fr.refl _ A).setCell ⟨b, o, none⟩ u (.inl (by simp))
  have hk : ∀ y ∈ [b], ∀ cs c, A.heap[y]? ≠ some (.cells cs 64 c) ∧ A.heap[y]? ≠ some (.cells cs 125 c) := fun y hy cs c => by
    rw [List.mem_singleton] at hy
    subst hy
    exact ⟨no_kind ho (by decide) cs c, no_kind ho (by decide) cs c⟩
  have hrf := ok_away (x := (q, J)) ⟨k11, k12⟩ hF hk
  exact ⟨⟨fr k4 h4, fr k5 h5⟩, ⟨fr k6 h6, fr k2 h2⟩, ⟨n, T, hG.set ho (by decide) (by decide), hT⟩, ⟨⟨fr k7 h7, fr k8 h8⟩, ⟨fr k9 h9, fr k10 h10⟩, hrf.1, hrf.2⟩, hTh.cls hn hW hb ho, hX.setCell (p := ⟨b, o, none⟩) (by show w.heap.size ≤ b; omega) _, by simpa using hz⟩
/-- An operation that turns no object, with the rest shown. -/
theorem good5_done {P : Program} {ops : Array Oper} {Φ : Nat → Value → World → Prop} {Q : Exit → Act → World → Prop} {G : World → World → Prop} {d0 : Nat} {J : (Nat → Bool) → Value → World → Prop} {i : Nat} {o : Oper} {b : Act} {w : World} {Lf : Nat → Bool} (hGe : ∀ x y, Ext x y → G x y) (hJe : ∀ L u x y, J L u x → Ext x y → J L u y)
    (hd : o.dst ≠ some d0) (hJ : J (done Lf i) (b.tmps.getD d0 undef) w) (h : RGood P ops Φ Q i o b w) : RGood5 P ops Φ G d0 J Q i o Lf b w := by
  have key : ∀ x v, J (done Lf i) (b.tmps.getD d0 undef) x → J (done Lf i) ((b.put o.dst v).tmps.getD d0 undef) x := fun x v hx => by rw [put_other hd]; exact hx
  rcases h with ⟨hw, hwp⟩ | ⟨hw, hv⟩
  · exact .inl ⟨hw, Oper.wp_mono (fun b' w' ⟨v, e, h1, h2⟩ => ⟨v, e, h1, hGe _ _ h2, key _ _ (hJe _ _ _ _ hJ h2)⟩) hwp⟩
  · exact .inr ⟨hw, hv, key _ _ hJ⟩
/-- What is known while a row is told of in the map. -/
def hcJ (W4 : World) (B mb n : Nat) (T : List Eh) (t : Int) (v0 : Value) (C0 : List Vc) (c : Vc) (Lf : Nat → Bool) (u : Value) (W : World) : Prop :=
  (Lf 13 = false → Ext W4 W) ∧ ((Lf 13 = true → Lf 4 = true ∧ Lf 10 = true) ∧ ((Lf 14 = true → Lf 13 = true) ∧
  ((Lf 13 = true → Lf 14 = false → ∃ Wx, Ext W4 Wx ∧ (Fr (ob v0) Wx W ∧ (W.ownsRow B 56 2 u (C0.length + 1) (cc C0 ++ cc1 c) ∧ ((u.ownBlock = v0.ownBlock ∨ u.ownBlock = some Wx.heap.size) ∧ OwnR Wx 0 c.1 c.2.1)))) ∧
  (Lf 14 = true → GrpH W B mb (n + 1) (putM kentH T (t, u, C0 ++ [c]))))))
theorem hcJ_ext {W4 : World} {B mb n : Nat} {T : List Eh} {t : Int} {v0 : Value} {C0 : List Vc} {c : Vc} (L : Nat → Bool) (u : Value) (x y : World) (h : hcJ W4 B mb n T t v0 C0 c L u x) (e : Ext x y) : hcJ W4 B mb n T t v0 C0 c L u y := by
  obtain ⟨h1, h2, h3, h4, h5⟩ := h
  refine ⟨fun hL => (h1 hL).trans e, h2, h3, fun hL hL' => ?_, fun hL => (GrpH.stab (B := mb + 1) (Nat.lt_succ_self mb)).ext _ _ (h5 hL) e⟩
  obtain ⟨Wx, k1, k2, k3, k4, k5⟩ := h4 hL hL'
  exact ⟨Wx, k1, k2.trans (Fr.of_ext e), own_ext k3 e, k4, k5⟩
theorem hcJ_keys {W4 : World} {B mb n : Nat} {T : List Eh} {t : Int} {v0 : Value} {C0 : List Vc} {c : Vc} (L L' : Nat → Bool) (u : Value) (x : World) (hk : ∀ k, k ∈ [4, 10, 13, 14] → L k = L' k) (h : hcJ W4 B mb n T t v0 C0 c L u x) : hcJ W4 B mb n T t v0 C0 c L' u x := by
  have k1 := hk 4 (by simp)
  have k2 := hk 10 (by simp)
  have k3 := hk 13 (by simp)
  have k4 := hk 14 (by simp)
  unfold hcJ at h ⊢
  rw [← k1, ← k2, ← k3, ← k4]
  exact h
theorem hcJ_early {W4 : World} {B mb n : Nat} {T : List Eh} {t : Int} {v0 : Value} {C0 : List Vc} {c : Vc} {L : Nat → Bool} {u u' : Value} {x : World} (h1 : Ext W4 x) (h2 : L 13 = false) (h3 : L 14 = false) : hcJ W4 B mb n T t v0 C0 c L u x :=
  ⟨fun _ => h1, fun h => (by rw [h2] at h; cases h), fun h => (by rw [h3] at h; cases h), fun h => (by rw [h2] at h; cases h), fun h => (by rw [h3] at h; cases h)⟩
theorem kf_fr {B : Nat} {S : List Nat} {W W' : World} (hF : Fr S W W') (hS : ∀ y ∈ S, (∃ T vs, Ob W y T vs) ∨ y < B) : KeepsFrom B W W' :=
  ⟨hF.size, fun k o hk ho hc => (hF.block k (lt_of_block ho) (fun m => by
    rcases hS k m with ⟨T, vs, h1⟩ | h1
    · unfold Ob at h1
      rw [h1] at ho
      obtain rfl := Option.some.inj ho
      cases hc
    · omega)).trans ho⟩
theorem qk_fr {B : Nat} {S : List Nat} {W W' : World} (hF : Fr S W W') (hS : ∀ y ∈ S, B ≤ y → ∀ T us, T ≠ 56 → ¬ Ob W y T us) : Qk B W W' :=
  fun b T us hb hT ho => ho.fr hF (fun hm => hS b hm hb T us hT ho)
theorem GrpH.base {W : World} {B B' mb n : Nat} {T : List Eh} (h : GrpH W B mb n T) (hB : B' ≤ B) : GrpH W B' mb n T := ⟨h.1, fun p hp => (h.2.1 p hp).base hB, h.2.2⟩
set_option maxHeartbeats 16000000 in
set_option maxRecDepth 100000 in
theorem hcollect_c (s hp f r : Int) (hs : hlen s = true) (hh : hlen hp = true) (hf : htick f = true) (hr : htick r = true) (L : List Ve) (hm : mayE (eds L) = true) (v : Value) (w : World) (hC : Ew w [] v L) : Calls Tryz.prog 56 #[winV s hp f r, v] w fun e w' => ∃ mv, e = .returned (.tuple #[mv, .int .i64 (hcE s hp f r (grp (eds L)))]) ∧ Ext w w' ∧ ((hcE s hp f r (grp (eds L)) = 0 ∧ ∃ mb n T, mv = .map (some mb) ∧ GrpH w' w.heap.size mb n T ∧ w.heap.size ≤ mb ∧ (∀ t, rowsH T t = hrows s hp f r (grp (eds L)) t) ∧ T.length ≤ 1024) ∨ (hcE s hp f r (grp (eds L)) = 7 ∧ mv = .map none)) := by
  obtain ⟨s1, s2⟩ := hlen_iff.1 hs
  obtain ⟨k1, k2⟩ := hlen_iff.1 hh
  obtain ⟨f1, f2⟩ := htick_iff.1 hf
  obtain ⟨r1, r2⟩ := htick_iff.1 hr
  have hgr := hide (fun w' (hX : Ext w w') => groups_c L v w' (hC.ext hX))
  obtain ⟨A, cap, rfl, hlc, hlm, -⟩ := ew_form hC
  unfold maxLen at hlm
  clear hC
  have hGm : Hid (∀ g ∈ grp (eds L), mayJ g.2 = true ∧ g.1.length ≤ 8) := fun g hg => ⟨(mayE_iff.1 hm).2.2 g hg, grp_r8 hm g hg⟩
  have hLl : L.length ≤ 4096 := by have := mayE_len hm; simpa [eds] using this
  have hgl : (grp (eds L)).length ≤ 4096 := by have := grp_len2 (eds L); rw [show (eds L).length = L.length from List.length_map _] at this; omega
  have hmk : ∀ w, (Instr.makeMap 83 none).run Tryz.prog w = .ok (.map (some w.heap.size)) (w.alloc (.map #[] 0)) := fun _ => by kernel_rfl
  refine calls_marks Tryz.func56 rfl ?_
  simp only [Tryz.ntmps56, List.size_toArray, List.length_cons, List.length_nil, Nat.reduceAdd, Nat.reduceSub, Array.replicate_succ, Array.replicate_zero, List.push_toArray, List.append_toArray, List.nil_append, List.cons_append]
  go_wp2_with (go_at_call 106; refine (hgr.out _ (((((Ext.refl w).alloc _).alloc _).alloc _).alloc _ |>.alloc _)).mono ?_; rintro ee w1 ⟨b, rfl, v1, M, hb, hM, hMe, hX1⟩)
  rw [if_pos hm] at hM
  have p2 : Ob w1 w.heap.size 82 [.int .i64 s, .int .i64 hp, .int .i64 f, .int .i64 r] := ((((((Ob.new w 82 [.int .i64 s, .int .i64 hp, .int .i64 f, .int .i64 r]).alloc _).alloc _).alloc _).alloc _)).ext hX1
  have p4 : Ob w1 (w.heap.size + 1) 83 [.map none] := by
    have h := Ob.new (w.alloc (.cells #[.int .i64 s, .int .i64 hp, .int .i64 f, .int .i64 r] 82)) 83 [.map none]
    rw [World.size_alloc] at h
    exact (((h.alloc _).alloc _).alloc _).ext hX1
  have p5 : Ob w1 (w.heap.size + 1 + 1) 28 [.int .i64 0] := by
    have h := Ob.new ((w.alloc (.cells #[.int .i64 s, .int .i64 hp, .int .i64 f, .int .i64 r] 82)).alloc (.cells #[.map none] 83)) 28 [.int .i64 0]
    rw [World.size_alloc, World.size_alloc] at h
    exact ((h.alloc _).alloc _).ext hX1
  have pm : Mv w1 Tryz.prog 3 kentH (w.heap.size + 1 + 1 + 1) 0 [] := by
    have h := Mv.made kentH (((w.alloc (.cells #[.int .i64 s, .int .i64 hp, .int .i64 f, .int .i64 r] 82)).alloc (.cells #[.map none] 83)).alloc (.cells #[.int .i64 0] 28)) Tryz.prog 3
    rw [World.size_alloc, World.size_alloc, World.size_alloc] at h
    exact mv_ext (h.alloc _) hX1
  have p6 : Ob w1 (w.heap.size + 1 + 1 + 1 + 1) 83 [.map (some (w.heap.size + 1 + 1 + 1))] := by
    have h := Ob.new ((((w.alloc (.cells #[.int .i64 s, .int .i64 hp, .int .i64 f, .int .i64 r] 82)).alloc (.cells #[.map none] 83)).alloc (.cells #[.int .i64 0] 28)).alloc (.map #[] 0)) 83 [.map (some (w.heap.size + 1 + 1 + 1))]
    rw [World.size_alloc, World.size_alloc, World.size_alloc, World.size_alloc] at h
    exact h.ext hX1
  have hXw : Ext w w1 := (((((Ext.refl w).alloc _).alloc _).alloc _).alloc _ |>.alloc _).trans hX1
  have hzW1 := hXw.size
  obtain ⟨b2, hb2⟩ : ∃ b2, b2 = w.heap.size := ⟨_, rfl⟩
  rw [← hb2] at p2 p4 p5 pm p6
  obtain ⟨b4, hb4⟩ : ∃ b4, b4 = b2 + 1 := ⟨_, rfl⟩
  rw [← hb4] at p4 p5 pm p6
  obtain ⟨b5, hb5⟩ : ∃ b5, b5 = b4 + 1 := ⟨_, rfl⟩
  rw [← hb5] at p5 pm p6
  obtain ⟨mb, hmb⟩ : ∃ mb, mb = b5 + 1 := ⟨_, rfl⟩
  rw [← hmb] at pm p6
  obtain ⟨b6, hb6⟩ : ∃ b6, b6 = mb + 1 := ⟨_, rfl⟩
  rw [← hb6] at p6
  have l6 := p6.lt
  have hMx : Ew w1 [mb] v1 M := by obtain ⟨es, c, hm2⟩ := pm.isMap; exact ew_map hMe hm2
  rw [← hM] at hGm hgl
  have hML : M.length ≤ 4096 := by have := congrArg List.length hM; simp only [eds, List.length_map] at this; omega
  replace hM := hide hM
  replace hMx := hide hMx
  rw [← hb2, ← hb4, ← hb5, ← hmb, ← hb6]
  obtain ⟨i2, i4, i5, im, i6⟩ : w.heap.size ≤ b2 ∧ b2 < b4 ∧ b4 < b5 ∧ b5 < mb ∧ mb < b6 := by omega
  clear hgr hX1 hMe hb2 hb4 hb5 hmb hb6
  refine wp_rangeQ (X := [mb]) (xs := grp (eds M)) rfl (enters_of Tryz.func146 (by kernel_rfl) rfl) (groups_seqq [mb] M v1 w1 w1 b hMx.out (by omega) (fun g hg => Nat.le_trans (hGm.out g hg).2 (by omega)) (Ext.refl _) hb) (Ext.refl _) (Nat.le_refl _) (fun x vs W h => h.size) (fun x vs => Hgg.stab x vs)
    (IC w s hp f r b2 b4 b5 b6 mb w1.heap.size (grp (eds M)))
    (IxC w s hp f r b4 b5 (grp (eds M)))
    (fun k => IC.stab w s hp f r b2 b4 b5 b6 mb _ _ k _ hzW1 (by omega))
    (fun c k => IxC.stab w s hp f r b4 b5 _ c k _ hzW1)
    ⟨⟨p4, p5⟩, ⟨p6, p2⟩, ⟨0, [], ⟨pm, (by intro p hp; cases hp), (by intro p hp; cases hp), List.Pairwise.nil⟩, (by intro t; rfl), by simp, by omega⟩, hXw, Nat.le_refl _⟩
    (fun k x vs a' W => ∃ r' f' b7 b8, vs = #[r', f'] ∧ a' = { tmps := #[winV s hp f r, .slice A L.length cap, .pointer (some ⟨b2, 0, none⟩), undef, .pointer (some ⟨b4, 0, none⟩), .pointer (some ⟨b5, 0, none⟩), .pointer (some ⟨b6, 0, none⟩), .pointer (some ⟨b7, 0, none⟩), .pointer (some ⟨b8, 0, none⟩), undef, .map (some mb), .slice A L.length cap, .func (.func 146) #[] #[.pointer (some ⟨b, 0, none⟩)], r', f', undef, undef, undef, undef, undef, undef, undef, undef, undef, undef, undef, undef, undef, undef, undef, undef, undef, undef, undef, undef, undef, undef], defers := [] } ∧ w1.heap.size ≤ b7 ∧ w1.heap.size ≤ b8 ∧ Ob W b7 54 [r'] ∧ Ob W b8 73 [f'])
    (fun k x vs a' => Stab.ex fun _ => Stab.ex fun _ => Stab.ex fun _ => Stab.ex fun _ => (Stab.pure _).and ((Stab.pure _).and ((Stab.pure _).and ((Stab.pure _).and ((Stab.ob _ _ _).and (Stab.ob _ _ _)))))) ?assign ?body ?done ?stop
  case assign =>
    rintro LL k x vs W K hI ⟨r', f', rfl, hr', hf'⟩ hK
    obtain ⟨RA, rcap, rfl⟩ := own_form hr'
    obtain ⟨JA, jcap, rfl⟩ := own_form hf'
    gi_wp2
    have hzB : w1.heap.size ≤ W.heap.size := hI.2.2.2.2
    exact hK _ _ (((Ext.refl W).alloc _).alloc _) ⟨_, _, W.heap.size, W.heap.size + 1, rfl, rfl, hzB, by omega, (Ob.new W _ [_]).alloc _, by have h := Ob.new (W.alloc (.cells #[.slice RA x.1.length rcap] 54)) 73 [.slice JA x.2.length jcap]; rw [World.size_alloc] at h; exact h⟩
  case body =>
    rintro LL k ⟨q, J⟩ vs a' Wo hL hrec hx ⟨⟨k4, k5⟩, ⟨k6, k2⟩, hGx, hXo, hzo⟩ ⟨rv, fv, e', hr', hf'⟩ ⟨rv', fv', b7, b8, rfl, rfl, h7, h8, o7, o8⟩
    obtain ⟨rfl, rfl⟩ : rv' = rv ∧ fv' = fv := by simpa using e'
    obtain ⟨hJm, hq8⟩ := hGm.out (q, J) (List.mem_of_getElem? hx)
    have hJl : J.length ≤ 1024 := mayJ_len hJm
    have hkl : k < (grp (eds M)).length := (List.getElem?_eq_some_iff.1 hx).1
    obtain ⟨RA, rcap, rfl⟩ := own_form hr'
    obtain ⟨JA, jcap, rfl⟩ := own_form hf'
    have c0 := k2.cell 0 rfl
    have c1 := k2.cell 1 rfl
    have c2 := k2.cell 2 rfl
    have c3 := k2.cell 3 rfl
    have c8 := o8.cell 0 rfl
    have lb2 := k2.lt
    have lb8 := o8.lt
    haveI : In b2 Wo := ⟨lb2⟩
    haveI : In b8 Wo := ⟨lb8⟩
    have hof := hide (hof_c s hp f r (.slice JA J.length jcap) J.length jcap JA rfl)
    have hx' := hide hx
    have k4' := hide k4
    have k5' := hide k5
    have k6' := hide k6
    have k2' := hide k2
    have o7' := hide o7
    have o8' := hide o8
    have hGx' := hide hGx
    have hXo' := hide hXo
    have hr2 := hide hr'
    have hf2 := hide hf'
    have hrec' := hide hrec
    have hJm' := hide hJm
    clear hx k4 k5 k6 k2 o7 o8 hGx hXo hr' hf' hrec hJm
    gi_wp2_with (gi_at_call 107; refine (in_round (hof.out Wo)).mono ?_; rintro ee wI ⟨bwO, bjO, rfl, pw, pj, hzw2, hzj2, hXI⟩)
    have hz2 := hXI.size
    have lw2 := pw.lt
    have lj2 := pj.lt
    have hrc2 : ∃ r, wI.heap[LL]? = some (.loop r) := by obtain ⟨r, hr⟩ := hrec'.out; exact ⟨r, (hXI.block _ (lt_of_block hr)).trans hr⟩
    obtain ⟨G, hG⟩ : ∃ G, G = grp (eds M) := ⟨_, rfl⟩
    rw [← hG] at hx' hGx' hkl hgl ⊢
    replace hG := hide hG
    obtain ⟨U, hU⟩ : ∃ U, U = ofL s hp r J f := ⟨_, rfl⟩
    have hasc := ofL_asc (s := s) (hp := hp) (r := r) (f := f) s1 k1 r2 ⟨f1, f2⟩ hJm'.out
    have hsq := hof_seqk s hp f r J hJm'.out (.slice JA J.length jcap) wI bwO bjO hs hh hf hr
    rw [← hU] at hasc hsq
    obtain ⟨hUa, hUi⟩ := hasc
    have hlo7 := o7'.out.lt
    have hlo8 := o8'.out.lt
    refine wp_rangeKN (xs := U) (Kp := KpO s hp f r bwO bjO (.slice JA J.length jcap) J) hrc2 rfl (enters_of Tryz.func147 (by kernel_rfl) rfl) hsq (Ext.refl _) (fun x vs W h => by rw [h]; rfl) (fun x vs => Stab.pure _)
      (IN w Wo s hp f r b2 b4 b5 b6 mb w1.heap.size w1.heap.size G k q J U b7 b8 bwO bjO (.slice RA q.length rcap) (.slice JA J.length jcap))
      (fun m A h => ⟨h.2.2.2.1.2.1.1, h.2.2.2.1.2.1.2, own_jw h.2.2.2.1.2.2.2 (by simp)⟩)
      (fun m => IN.cls (by omega) hzo (by omega) (by omega) (by omega) (by omega) (by omega) (by omega) (by omega) lw2 lj2)
      (fun c m W => IxC w s hp f r b4 b5 G c m W ∧ KeepsFrom w1.heap.size Wo W)
      (fun m => IN.stab (by omega) (by omega) hzo (by omega))
      (fun c m => (IxC.stab w s hp f r b4 b5 G c m _ (by omega)).and (keepsF_stab (by omega)))
      ?start
      (fun m t vs a' _ => a' = { tmps := #[winV s hp f r, .slice A L.length cap, .pointer (some ⟨b2, 0, none⟩), undef, .pointer (some ⟨b4, 0, none⟩), .pointer (some ⟨b5, 0, none⟩), .pointer (some ⟨b6, 0, none⟩), .pointer (some ⟨b7, 0, none⟩), .pointer (some ⟨b8, 0, none⟩), .int .i64 t, .map (some mb), .slice A L.length cap, .func (.func 146) #[] #[.pointer (some ⟨b, 0, none⟩)], .slice RA q.length rcap, .slice JA J.length jcap, winV s hp f r, .slice JA J.length jcap, .func (.func 147) #[] #[.pointer (some ⟨bwO, 0, none⟩), .pointer (some ⟨bjO, 0, none⟩)], .int .i64 t, undef, undef, undef, undef, undef, undef, undef, undef, undef, undef, undef, undef, undef, undef, undef, undef, undef, undef], defers := [] })
      (fun m x vs a' => Stab.pure _) ?assign2 ?body2 ?done2 ?stop2
    case start =>
      obtain ⟨n, T, hGg, hro, hTl, hn⟩ := hGx'.out
      exact ⟨⟨k4'.out.ext hXI, k5'.out.ext hXI⟩, ⟨k6'.out.ext hXI, k2'.out.ext hXI⟩, ⟨n, T, (GrpH.stab (B := mb + 1) (Nat.lt_succ_self mb)).ext _ _ hGg hXI, fun t => by rw [hro]; simp, hTl, by omega⟩, ⟨⟨o7'.out.ext hXI, o8'.out.ext hXI⟩, ⟨pw, pj⟩, own_ext hr2.out hXI, own_ext hf2.out hXI⟩, (Thr.refl _ _ _ _).ext hzo hXI, hXo'.out.trans hXI, by omega⟩
    case assign2 =>
      rintro L2 m t vs W3 K _ rfl hK3
      gi_wp2
      exact hK3 _ _ (Ext.refl _) rfl
    case body2 =>
      rintro L2 m t vs a' W4 hx2 ⟨⟨z4, z5⟩, ⟨z6, z9⟩, ⟨n, T, hGg, hro, hTl, hn⟩, ⟨⟨z7, z8⟩, ⟨zw, zj⟩, hr4, hf4⟩, hTh, hX4, hz4⟩ rfl rfl
      have hmU : m < U.length := (List.getElem?_eq_some_iff.1 hx2).1
      obtain ⟨ht1, ht2, ht3⟩ := hUi t (List.mem_of_getElem? hx2)
      have hfr : t ∉ U.take m := asc_fresh hUa hx2
      have hmT : m ≤ T.length := by
        have h1 := nodup_len (U.take m) (T.map Prod.fst) ((asc_nodup hUa).sublist (List.take_sublist _ _)) (fun x hx3 => (keys_of hGg.nodup (fun p hp => (hGg.2.2.1 p hp).1) x).2 (by rw [hro, if_pos hx3]; simp))
        rw [List.length_take, List.length_map] at h1
        omega
      obtain ⟨v0, C0, h0, hv0⟩ : ∃ v0 C0, ((getH T t = none ∧ v0 = .slice none 0 0 ∧ C0 = []) ∨ getH T t = some (t, v0, C0)) ∧ OwnC W4 w1.heap.size v0 C0 := by
        cases hg : getH T t with
        | none => exact ⟨_, [], .inl ⟨rfl, rfl, rfl⟩, OwnC.nil _ _⟩
        | some p =>
          obtain ⟨hp1, hp2⟩ := getH_mem hg
          obtain ⟨t0, v0, C0⟩ := p
          obtain rfl : t0 = t := hp2
          exact ⟨v0, C0, .inr rfl, hGg.2.1 _ hp1⟩
      obtain ⟨VA, vcap, rfl⟩ := hv0.form
      have hC0 : C0.length ≤ k + 1 := by
        have h1 := hrows_len s hp f r G t k
        rcases h0 with ⟨-, -, rfl⟩ | h0
        · simp
        · have h2 : (rowsH T t).length = C0.length := by unfold rowsH; rw [h0]; simp
          rw [hro, if_neg hfr, List.append_nil] at h2
          omega
      have hlook := hide (show ∀ w', Ext W4 w' → (Instr.lookup 83 (.map (some mb)) (.int .i64 t) false).run Tryz.prog w' = .ok (.slice VA C0.length vcap) w' from fun w' hX' => by
        rw [(mv_ext hGg.1 hX').lookup hKey Tryz.underlying83 (z := .slice none 0 0) (by kernel_rfl) (hkey_of (by omega)), getM_h]
        rcases h0 with ⟨h0, e2, rfl⟩ | h0
        · rw [h0, e2]; rfl
        · rw [h0]; rfl)
      have hat := hide (hat_c s hp f r t hs (by omega))
      have hcp := hide (show ∀ w', Ext W4 w' → Calls Tryz.prog 108 #[.slice JA J.length jcap, .agg #[.int .i64 t, .int .i64 (hend s t)]] w' fun e w'' => e = .returned (.int .i64 (copN J t (hend s t))) ∧ Ext w' w'' from fun w' hX' => hcopies_c J hJm'.out t (hend s t) (.slice JA J.length jcap) w' (own_jw (own_ext hf4 hX') (by simp)))
      obtain ⟨nn, hnn⟩ : ∃ nn, nn = copN J t (hend s t) := ⟨_, rfl⟩
      rw [← hnn] at hcp
      have y6 := hide z6
      have y7 := hide z7
      have y8 := hide z8
      have y9 := hide z9
      have hnob : ∀ {x : Nat} {E : TypeId} {us : List Value}, Ob W4 x E us → E ≠ 56 → x ∉ ob (.slice VA C0.length vcap) ++ [mb] := fun ho hE hm => by
        rcases List.mem_append.1 hm with hm | hm
        · obtain ⟨ds, d, hd⟩ := own_kind hv0.1 hm
          exact no_kind ho hE ds d hd
        · rw [List.mem_singleton] at hm
          subst hm
          obtain ⟨es, c, hm2⟩ := hGg.1.isMap
          exact map_no_kind ⟨es, c, hm2⟩ _ _ _ ho
      have hn6 := hnob z6 (by decide)
      have hn7 := hnob z7 (by decide)
      have hn8 := hnob z8 (by decide)
      have hn9 := hnob z9 (by decide)
      have hn4 := hnob z4 (by decide)
      have hn5 := hnob z5 (by decide)
      have hnw := hnob zw (by decide)
      have hnj := hnob zj (by decide)
      have hSob : ∀ k, (Value.slice VA C0.length vcap).ownBlock = some k → k ∈ ob (.slice VA C0.length vcap) ++ [mb] := fun k hk => List.mem_append_left _ (Option.mem_toList.2 hk)
      have hSlt : ∀ y ∈ ob (.slice VA C0.length vcap) ++ [mb], y < W4.heap.size := fun y hy => by
        rcases List.mem_append.1 hy with hy | hy
        · exact (ob_ge hv0.1 y hy).2
        · rw [List.mem_singleton] at hy; subst hy; exact hGg.1.lt
      have hmb0 : some mb ≠ (Value.slice VA C0.length vcap).ownBlock := fun e => by
        obtain ⟨ds, d, hd⟩ := own_kind hv0.1 (Option.mem_toList.2 e.symm)
        obtain ⟨es, c, hm2⟩ := hGg.1.isMap
        exact map_no_kind ⟨es, c, hm2⟩ _ _ _ hd
      have hst31 : ∀ (v : Value) (A A' : World), (∃ p, v = .slice (some ⟨p, 0, none⟩) 1 1 ∧ (W4.heap.size ≤ p ∧ Ob A p 56 [.slice RA q.length rcap, .int .i64 nn])) → Fr (ob (.slice VA C0.length vcap) ++ [mb]) A A' → (∃ p, v = .slice (some ⟨p, 0, none⟩) 1 1 ∧ (W4.heap.size ≤ p ∧ Ob A' p 56 [.slice RA q.length rcap, .int .i64 nn])) := by
        rintro v A A' ⟨p, h1, h2, h3⟩ hF
        exact ⟨p, h1, h2, h3.fr hF (fun hm => by have := hSlt p hm; omega)⟩
      have l4 := z4.lt
      have l5 := z5.lt
      have l6' := z6.lt
      have lmb := hGg.1.lt
      replace z4 := hide z4
      replace z5 := hide z5
      replace z6 := hide z6
      replace z7 := hide z7
      replace z8 := hide z8
      replace z9 := hide z9
      replace zw := hide zw
      replace zj := hide zj
      replace hr4 := hide hr4
      replace hf4 := hide hf4
      replace hGg := hide hGg
      replace hro := hide hro
      replace hTh := hide hTh
      replace hX4 := hide hX4
      replace h0 := hide h0
      replace hv0 := hide hv0
      replace hx2 := hide hx2
      replace hnn := hide hnn
      replace hfr := hide hfr
      replace hU := hide hU
      replace hUi := hide hUi
      replace hUa := hide hUa
      try gi_wp2_with fail
      refine wpIn_region_objs (S := ob (.slice VA C0.length vcap) ++ [mb]) 32 [(.is (.map (some mb))), (.is (.int .i64 t)), (.is (.map (some mb))), (.is (.int .i64 t)), (.is (.slice VA C0.length vcap)), (.is (.slice RA q.length rcap)), (.is (.slice JA J.length jcap)), (.is (.agg #[.int .i64 s, .int .i64 hp, .int .i64 f, .int .i64 r])), (.is (.int .i64 t)), (.is (.agg #[.int .i64 t, .int .i64 (hend s t)])), (.is (.int .i64 nn)), (.is (.agg #[.slice RA q.length rcap, .int .i64 nn])), (.st (fun v w5 => ∃ p, v = .slice (some ⟨p, 0, none⟩) 1 1 ∧ (W4.heap.size ≤ p ∧ Ob w5 p 56 [.slice RA q.length rcap, .int .i64 nn])) hst31), .any, .any] (hcJ W4 w1.heap.size mb n T t (.slice VA C0.length vcap) C0 (.slice RA q.length rcap, (q, nn))) [4, 10, 13, 14] (by kernel_rfl) (by kernel_rfl) (by kernel_rfl) (by kernel_rfl) hcJ_ext hcJ_keys (hcJ_early (u' := undef) (Ext.refl W4) rfl rfl) ?_ ?_
      · refine ⟨?_, ?_, ?_, ?_, ?_, ?_, ?_, ?_, ?_, ?_, ?_, ?_, ?_, ?_, ?_, trivial⟩
        · intro b w' Lf h
          have f6 : b.tmps.getD 6 undef = (.pointer (some ⟨b6, 0, none⟩)) := h.else_ 6 (of_decide_eq_true (by kernel_rfl))
          have g6 : b.tmps[6]?.getD undef = (.pointer (some ⟨b6, 0, none⟩)) := by rw [← Array.getD_eq_getD_getElem?]; exact f6
          have c0 := (y6.out.fr h.ext hn6).cell 0 rfl
          exact .inl ⟨by decide, by decide, good_load (wanted_none rfl) rfl f6 (by simp [go_sem, c0]) rfl⟩
        · intro b w' Lf h
          have f9 : b.tmps.getD 9 undef = (.int .i64 t) := h.else_ 9 (of_decide_eq_true (by kernel_rfl))
          have g9 : b.tmps[9]?.getD undef = (.int .i64 t) := by rw [← Array.getD_eq_getD_getElem?]; exact f9
          exact .inl ⟨by decide, by decide, good_move (wanted_none rfl) rfl f9⟩
        · intro b w' Lf h
          have f6 : b.tmps.getD 6 undef = (.pointer (some ⟨b6, 0, none⟩)) := h.else_ 6 (of_decide_eq_true (by kernel_rfl))
          have g6 : b.tmps[6]?.getD undef = (.pointer (some ⟨b6, 0, none⟩)) := by rw [← Array.getD_eq_getD_getElem?]; exact f6
          have c0 := (y6.out.fr h.ext hn6).cell 0 rfl
          exact .inl ⟨by decide, by decide, good_load (wanted_none rfl) rfl f6 (by simp [go_sem, c0]) rfl⟩
        · intro b w' Lf h
          have f9 : b.tmps.getD 9 undef = (.int .i64 t) := h.else_ 9 (of_decide_eq_true (by kernel_rfl))
          have g9 : b.tmps[9]?.getD undef = (.int .i64 t) := by rw [← Array.getD_eq_getD_getElem?]; exact f9
          exact .inl ⟨by decide, by decide, good_move (wanted_none rfl) rfl f9⟩
        · intro b w' Lf h
          have f21 : b.tmps.getD 21 undef = (.map (some mb)) := h.dep 2 _ 21 (by kernel_rfl) rfl rfl
          have g21 : b.tmps[21]?.getD undef = (.map (some mb)) := by rw [← Array.getD_eq_getD_getElem?]; exact f21
          have f22 : b.tmps.getD 22 undef = (.int .i64 t) := h.dep 3 _ 22 (by kernel_rfl) rfl rfl
          have g22 : b.tmps[22]?.getD undef = (.int .i64 t) := by rw [← Array.getD_eq_getD_getElem?]; exact f22
          have hL13 : Lf 13 = false := by cases hL : Lf 13 with | false => rfl | true => exact absurd (h.obj.2.1 hL).1 (by rw [h.fresh]; decide)
          have hL14 : Lf 14 = false := by cases hL : Lf 14 with | false => rfl | true => exact absurd (h.obj.2.2.1 hL) (by rw [hL13]; decide)
          have hXe := h.obj.1 hL13
          exact .inr (good5_done (fun _ _ h => Fr.of_ext h) hcJ_ext (by decide) (hcJ_early (u' := undef) hXe (by simp [done, hL13]) (by simp [done, hL14])) (good_run (wanted_none rfl) (by simp [execOp, Act.eval, g21, g22, hlook.out w' hXe, Sem.run_bind, Sem.run_pure, Result.andThen_ok]) rfl))
        · intro b w' Lf h
          have f7 : b.tmps.getD 7 undef = (.pointer (some ⟨b7, 0, none⟩)) := h.else_ 7 (of_decide_eq_true (by kernel_rfl))
          have g7 : b.tmps[7]?.getD undef = (.pointer (some ⟨b7, 0, none⟩)) := by rw [← Array.getD_eq_getD_getElem?]; exact f7
          have c0 := (y7.out.fr h.ext hn7).cell 0 rfl
          exact .inl ⟨by decide, by decide, good_load (wanted_none rfl) rfl f7 (by simp [go_sem, c0]) rfl⟩
        · intro b w' Lf h
          have f8 : b.tmps.getD 8 undef = (.pointer (some ⟨b8, 0, none⟩)) := h.else_ 8 (of_decide_eq_true (by kernel_rfl))
          have g8 : b.tmps[8]?.getD undef = (.pointer (some ⟨b8, 0, none⟩)) := by rw [← Array.getD_eq_getD_getElem?]; exact f8
          have c0 := (y8.out.fr h.ext hn8).cell 0 rfl
          exact .inl ⟨by decide, by decide, good_load (wanted_none rfl) rfl f8 (by simp [go_sem, c0]) rfl⟩
        · intro b w' Lf h
          have f2 : b.tmps.getD 2 undef = (.pointer (some ⟨b2, 0, none⟩)) := h.else_ 2 (of_decide_eq_true (by kernel_rfl))
          have g2 : b.tmps[2]?.getD undef = (.pointer (some ⟨b2, 0, none⟩)) := by rw [← Array.getD_eq_getD_getElem?]; exact f2
          have c0 := (y9.out.fr h.ext hn9).cell 0 rfl
          have c1 := (y9.out.fr h.ext hn9).cell 1 rfl
          have c2 := (y9.out.fr h.ext hn9).cell 2 rfl
          have c3 := (y9.out.fr h.ext hn9).cell 3 rfl
          exact .inl ⟨by decide, by decide, good_load (wanted_none rfl) rfl f2 (by simp [go_sem, c0, c1, c2, c3]) rfl⟩
        · intro b w' Lf h
          have f9 : b.tmps.getD 9 undef = (.int .i64 t) := h.else_ 9 (of_decide_eq_true (by kernel_rfl))
          have g9 : b.tmps[9]?.getD undef = (.int .i64 t) := by rw [← Array.getD_eq_getD_getElem?]; exact f9
          exact .inl ⟨by decide, by decide, good_move (wanted_none rfl) rfl f9⟩
        · intro b w' Lf h
          have f26 : b.tmps.getD 26 undef = (.agg #[.int .i64 s, .int .i64 hp, .int .i64 f, .int .i64 r]) := h.dep 7 _ 26 (by kernel_rfl) rfl rfl
          have g26 : b.tmps[26]?.getD undef = (.agg #[.int .i64 s, .int .i64 hp, .int .i64 f, .int .i64 r]) := by rw [← Array.getD_eq_getD_getElem?]; exact f26
          have f27 : b.tmps.getD 27 undef = (.int .i64 t) := h.dep 8 _ 27 (by kernel_rfl) rfl rfl
          have g27 : b.tmps[27]?.getD undef = (.int .i64 t) := by rw [← Array.getD_eq_getD_getElem?]; exact f27
          refine .inl ⟨by decide, by decide, ?_⟩
          refine good_call (wanted_none rfl) rfl (enters Tryz.func59 (by kernel_rfl) rfl) ?_
          rw [show (#[.tmp 26, .tmp 27] : Array Operand).map b.eval = #[winV s hp f r, .int .i64 t] by simp [Act.eval, g26, g27]]
          exact (hat.out w').mono fun e w1 ⟨he, hx⟩ => ⟨_, he, rfl, hx⟩
        · intro b w' Lf h
          have f25 : b.tmps.getD 25 undef = (.slice JA J.length jcap) := h.dep 6 _ 25 (by kernel_rfl) rfl rfl
          have g25 : b.tmps[25]?.getD undef = (.slice JA J.length jcap) := by rw [← Array.getD_eq_getD_getElem?]; exact f25
          have f28 : b.tmps.getD 28 undef = (.agg #[.int .i64 t, .int .i64 (hend s t)]) := h.dep 9 _ 28 (by kernel_rfl) rfl rfl
          have g28 : b.tmps[28]?.getD undef = (.agg #[.int .i64 t, .int .i64 (hend s t)]) := by rw [← Array.getD_eq_getD_getElem?]; exact f28
          have hL13 : Lf 13 = false := by cases hL : Lf 13 with | false => rfl | true => exact absurd (h.obj.2.1 hL).2 (by rw [h.fresh]; decide)
          have hL14 : Lf 14 = false := by cases hL : Lf 14 with | false => rfl | true => exact absurd (h.obj.2.2.1 hL) (by rw [hL13]; decide)
          have hXe := h.obj.1 hL13
          refine .inr (good5_done (fun _ _ h => Fr.of_ext h) hcJ_ext (by decide) (hcJ_early (u' := undef) hXe (by simp [done, hL13]) (by simp [done, hL14])) ?_)
          refine good_call (wanted_none rfl) rfl (enters Tryz.func108 (by kernel_rfl) rfl) ?_
          rw [show (#[.tmp 25, .tmp 28] : Array Operand).map b.eval = #[.slice JA J.length jcap, .agg #[.int .i64 t, .int .i64 (hend s t)]] by simp [Act.eval, g25, g28]]
          exact (hcp.out w' hXe).mono fun e w1 ⟨he, hx⟩ => ⟨_, he, rfl, hx⟩
        · intro b w' Lf h
          have f24 : b.tmps.getD 24 undef = (.slice RA q.length rcap) := h.dep 5 _ 24 (by kernel_rfl) rfl rfl
          have g24 : b.tmps[24]?.getD undef = (.slice RA q.length rcap) := by rw [← Array.getD_eq_getD_getElem?]; exact f24
          have f29 : b.tmps.getD 29 undef = (.int .i64 nn) := h.dep 10 _ 29 (by kernel_rfl) rfl rfl
          have g29 : b.tmps[29]?.getD undef = (.int .i64 nn) := by rw [← Array.getD_eq_getD_getElem?]; exact f29
          exact .inl ⟨by decide, by decide, good_run (wanted_none rfl) (by simp [execOp, Act.eval, go_sem, g24, g29, Sem.run_bind, Sem.run_pure, Result.andThen_ok]) rfl⟩
        · intro b w' Lf h
          have f30 : b.tmps.getD 30 undef = (.agg #[.slice RA q.length rcap, .int .i64 nn]) := h.dep 11 _ 30 (by kernel_rfl) rfl rfl
          have g30 : b.tmps[30]?.getD undef = (.agg #[.slice RA q.length rcap, .int .i64 nn]) := by rw [← Array.getD_eq_getD_getElem?]; exact f30
          exact .inl ⟨by decide, by decide, good_grow (w' := w'.alloc (.cells #[.slice RA q.length rcap, .int .i64 nn] 56)) (v := .slice (some ⟨w'.heap.size, 0, none⟩) 1 1) (wanted_none rfl) (by simp [execOp, Act.eval, go_sem, g30, Sem.run_bind, Sem.run_pure, Result.andThen_ok]) ⟨_, rfl, h.ext.size, Ob.new w' _ [_, _]⟩ ((Ext.refl _).alloc _)⟩
        · intro b w' Lf h
          have f23 : b.tmps.getD 23 undef = (.slice VA C0.length vcap) := h.dep 4 _ 23 (by kernel_rfl) rfl rfl
          have g23 : b.tmps[23]?.getD undef = (.slice VA C0.length vcap) := by rw [← Array.getD_eq_getD_getElem?]; exact f23
          have f31 : (fun v w5 => ∃ p, v = .slice (some ⟨p, 0, none⟩) 1 1 ∧ (W4.heap.size ≤ p ∧ Ob w5 p 56 [.slice RA q.length rcap, .int .i64 nn])) (b.tmps.getD 31 undef) w' := h.dep 12 _ 31 (by kernel_rfl) rfl rfl
          have hL14 : Lf 14 = false := by cases hL : Lf 14 with | false => rfl | true => exact absurd (h.obj.2.2.1 hL) (by rw [h.fresh]; decide)
          have hXe := h.obj.1 h.fresh
          have d4 := h.deps 4 (by kernel_rfl)
          have d10 := h.deps 10 (by kernel_rfl)
          obtain ⟨p, e31, hpg, hpo⟩ := f31
          have g31 : b.tmps[31]?.getD undef = .slice (some ⟨p, 0, none⟩) 1 1 := by rw [← Array.getD_eq_getD_getElem?]; exact e31
          have hzx := hXe.size
          obtain ⟨v8, w8, hrun, ho8, hg8, hb8⟩ := run_app (ty := 50) tCp (own_ext hv0.out.1 hXe) (src_sl Tryz.underlying50 (S := []) (size := 2) (n := 1) (v := .slice (some ⟨p, 0, none⟩) 1 1) (xs := [.slice RA q.length rcap, .int .i64 nn]) ⟨_, 1, rfl, Nat.le_refl _, by unfold maxLen; omega, by simp, .inr ⟨p, 0, rfl, by simp, fun j u hu => by rw [Nat.zero_add]; exact hpo.cell j hu⟩⟩ (by intro u hu; simp only [List.mem_cons, List.not_mem_nil, or_false] at hu; rcases hu with rfl | rfl <;> rfl) (by omega)) (by unfold maxLen; omega) (by omega) (by omega)
          refine .inr (.inl ⟨wanted_none rfl, ?_⟩)
          unfold Oper.wp execOp
          simp only [resolve, invoke, builtin, Sem.run_bind, Sem.run_pure, Result.andThen_ok, List.map_toArray, List.map_cons, List.map_nil, Act.eval, f23, e31, hrun]
          skip
          refine ⟨v8, rfl, trivial, ((Fr.refl _ _).grown hg8 (fun j hj => .inl (hSob j hj))), ?_⟩
          rw [put_same (by rw [h.size]; exact of_decide_eq_true (by kernel_rfl))]
          exact ⟨fun hh => by simp [done] at hh, fun _ => ⟨by simp [done, d4], by simp [done, d10]⟩, fun hh => by simp [done] at hh ⊢, fun _ _ => ⟨w', hXe, fr_grown hg8, ho8, hb8, own_ext hr4.out hXe⟩, fun hh => by simp [done, hL14] at hh⟩
        · intro b w' Lf h
          have f19 : b.tmps.getD 19 undef = (.map (some mb)) := h.dep 0 _ 19 (by kernel_rfl) rfl rfl
          have g19 : b.tmps[19]?.getD undef = (.map (some mb)) := by rw [← Array.getD_eq_getD_getElem?]; exact f19
          have f20 : b.tmps.getD 20 undef = (.int .i64 t) := h.dep 1 _ 20 (by kernel_rfl) rfl rfl
          have g20 : b.tmps[20]?.getD undef = (.int .i64 t) := by rw [← Array.getD_eq_getD_getElem?]; exact f20
          have d13 := h.deps 13 (by kernel_rfl)
          obtain ⟨Wx, hXx, hFx, hox, hbx, hrx⟩ := h.obj.2.2.2.1 d13 h.fresh
          obtain ⟨u, hu⟩ : ∃ u, b.tmps.getD 32 undef = u := ⟨_, rfl⟩
          have g32 : b.tmps[32]?.getD undef = u := by rw [← Array.getD_eq_getD_getElem?]; exact hu
          rw [hu] at hox hbx
          have hMw : Mv w' Tryz.prog 3 kentH mb n T := (mv_ext hGg.out.1 hXx).kept (row := (Value.slice VA C0.length vcap).ownBlock) (World.grownBy.mk hFx.os hFx.tape hFx.output hFx.size fun i hi hn => hFx.block i hi (fun hm => hn (Option.mem_toList.1 hm).symm)) hmb0
          obtain ⟨w9, hrun, hM9, hg9⟩ := hMw.store hKey Tryz.underlying83 (by unfold maxLen; omega) (t, u, C0 ++ [(.slice RA q.length rcap, (q, nn))]) (key := .int .i64 t) (hkey_of (by omega))
          refine .inr (.inl ⟨wanted_none rfl, ?_⟩)
          unfold Oper.wp
          have hrun2 : (Instr.mapUpdate 83 (.map (some mb)) (.int .i64 t) u).run Tryz.prog w' = .ok () w9 := hrun
          simp [execOp, Act.eval, g19, g20, g32, hrun2, Sem.run_bind, Sem.run_pure, Result.andThen]
          refine ⟨undef, rfl, trivial, ((Fr.refl _ _).grown hg9 (fun j hj => .inl (List.mem_append_right _ (by simpa using hj.symm)))), ?_⟩
          exact ⟨fun hh => by simp [done, d13] at hh, fun _ => by simpa [done] using h.obj.2.1 d13, fun _ => by simp [done, d13], fun _ hh => by simp [done] at hh, fun _ => by rw [show (b.put none undef).tmps[32]?.getD undef = u from g32]; exact GrpH.put hGg.out (by omega) h0.out hXx hFx hox hbx hrx hM9 hg9⟩
      · intro b w5 hF5 hd hz he' hf hJ5
        obtain ⟨u, hu⟩ : ∃ u, b.tmps.getD 32 undef = u := ⟨_, rfl⟩
        have hG5 : GrpH w5 w1.heap.size mb (n + 1) (putM kentH T (t, u, C0 ++ [(.slice RA q.length rcap, (q, nn))])) := by
          have h1 := (hJ5 (fun j => decide (j < 15)) (fun j hj => by simpa using hj) (fun j hj => by simpa using hj)).2.2.2.2 rfl
          rw [hu] at h1
          exact h1
        have e := frame_puts hd hz he'
        obtain ⟨X, hXx⟩ : ∃ X : Nat → Value, ∀ d, b.tmps.getD d undef = X d := ⟨_, fun _ => rfl⟩
        rw [show dstsOf _ = [19, 20, 21, 22, 23, 24, 25, 26, 27, 28, 29, 30, 31, 32] from rfl] at e
        simp only [List.foldl_cons, List.foldl_nil, hXx, Act.put, List.setIfInBounds_toArray, List.set_cons_succ, List.set_cons_zero] at e
        clear hf he' hz hd hJ5 hu hXx
        subst e
        obtain ⟨T', hT'⟩ : ∃ T', T' = putM kentH T (t, u, C0 ++ [(Value.slice RA q.length rcap, (q, nn))]) := ⟨_, rfl⟩
        rw [← hT'] at hG5
        have hln := hG5.1.len Tryz.underlying83 3
        have x6 := z6.out.fr hF5 hn6
        have x4 := z4.out.fr hF5 hn4
        have x5 := z5.out.fr hF5 hn5
        have w6 := x6.cell 0 rfl
        have m4 := x4.lt
        have m5 := x5.lt
        have m6 := x6.lt
        have i6 : In b6 w5 := ⟨m6⟩
        have hz5 := hF5.size
        have hrw : ∀ x, rowsH T' x = hrows s hp f r (G.take k) x ++ (if x ∈ U.take (m + 1) then [(q, copN J x (hend s x))] else []) := fun x => by
          rw [hT', rowsH_put, show U.take (m + 1) = U.take m ++ [t] by rw [List.take_add_one, hx2.out]; rfl]
          by_cases hxt : t = x
          · subst hxt
            rw [if_pos rfl, if_pos (by simp)]
            have h1 := hro.out t
            rw [if_neg hfr.out, List.append_nil] at h1
            rw [← h1, ← hnn.out]
            show cps (C0 ++ [_]) = _
            rw [show cps (C0 ++ [(Value.slice RA q.length rcap, (q, nn))]) = cps C0 ++ [(q, nn)] by simp [cps]]
            congr 1
            unfold rowsH
            rcases h0.out with ⟨h2, -, rfl⟩ | h2
            · rw [h2]; rfl
            · rw [h2]; rfl
          · rw [if_neg hxt, hro.out x]
            congr 1
            by_cases hxm : x ∈ U.take m
            · rw [if_pos hxm, if_pos (List.mem_append_left _ hxm)]
            · rw [if_neg hxm, if_neg (fun hm => (List.mem_append.1 hm).elim hxm (fun h => hxt (List.mem_singleton.1 h).symm))]
        have hrw' := hide hrw
        have hG5' := hide hG5
        have x4' := hide x4
        have x5' := hide x5
        have x6' := hide x6
        have hF5' := hide hF5
        have hS1 : ∀ y ∈ ob (Value.slice VA C0.length vcap) ++ [mb], (∃ T vs, Ob W4 y T vs) ∨ y < w1.heap.size := fun y hy => by
          rcases List.mem_append.1 hy with hy | hy
          · exact .inl (ob_objS hv0.out.1 y hy)
          · rw [List.mem_singleton] at hy; subst hy; exact .inr (by omega)
        have hS2 : ∀ y ∈ ob (Value.slice VA C0.length vcap) ++ [mb], w1.heap.size ≤ y → ∀ T us, T ≠ 56 → ¬ Ob W4 y T us := fun y hy hB T us hT ho => by
          rcases List.mem_append.1 hy with hy | hy
          · obtain ⟨ds, d, hd⟩ := own_kind hv0.out.1 hy
            exact no_kind ho hT ds d hd
          · rw [List.mem_singleton] at hy; subst hy; omega
        have hS3 : ∀ y ∈ ob (Value.slice VA C0.length vcap) ++ [mb], w1.heap.size ≤ y ∨ y = mb := fun y hy => by
          rcases List.mem_append.1 hy with hy | hy
          · exact .inl (ob_ge hv0.out.1 y hy).1
          · rw [List.mem_singleton] at hy; exact .inr hy
        have hS1' := hide hS1
        have hS2' := hide hS2
        have hS3' := hide hS3
        replace hT' := hide hT'
        clear hrw hG5 x4 x5 x6 hF5 hS1 hS2 hS3
        by_cases hov : 1024 < T'.length
        · have hovI : (1024 : Int) < (T'.length : Int) := by omega
          have i4' : In b4 w5 := ⟨m4⟩
          have i5' : In b5 w5 := ⟨m5⟩
          have e4 := x4'.out.cell 0 rfl
          have e5 := x5'.out.cell 0 rfl
          have g4 := x4'.out.free 0
          have g5 := x5'.out.free 0
          have hb45 : b4 ≠ b5 := by omega
          gi_wp2_with fail
          have hF7 : Fr [b4, b5] w5 ((w5.setCell ⟨b4, 0, none⟩ (.map none)).setCell ⟨b5, 0, none⟩ (.int .i64 7)) := ((Fr.refl [b4, b5] w5).setCell ⟨b4, 0, none⟩ _ (.inl (by simp))).setCell ⟨b5, 0, none⟩ _ (.inl (by simp))
          have hmem : ∀ y ∈ [b4, b5], ∃ T vs, Ob w5 y T vs := by
            intro y hy
            simp only [List.mem_cons, List.not_mem_nil, or_false] at hy
            rcases hy with rfl | rfl
            · exact ⟨_, _, x4'.out⟩
            · exact ⟨_, _, x5'.out⟩
          have hkb : T'.length ≤ (hkeys s hp f r G).length := by
            have h1 := nodup_len (T'.map Prod.fst) (hkeys s hp f r G) hG5'.out.nodup (fun x hx3 => by
              have h2 := (keys_of hG5'.out.nodup (fun p hp1 => (hG5'.out.2.2.1 p hp1).1) x).1 hx3
              rw [hrw'.out] at h2
              rw [hkeys_mem]
              by_cases hxm : x ∈ U.take (m + 1)
              · exact ⟨(q, J), List.mem_of_getElem? hx'.out, by rw [← hU.out]; exact List.mem_of_mem_take hxm⟩
              · rw [if_neg hxm, List.append_nil, hrows_none, hkeys_mem] at h2
                obtain ⟨g, hg, hgm⟩ := h2
                exact ⟨g, List.mem_of_mem_take hg, hgm⟩)
            rwa [List.length_map] at h1
          exact ⟨keepsF_trans (kf_fr hF5'.out (fun y hy => (hS1'.out y hy).imp id (fun h => by omega))) (keeps_fr hF7 hmem), ⟨⟨rfl, by omega⟩, ⟨(x4'.out.set 0 _).far _ _ hb45, (x5'.out.far ⟨b4, 0, none⟩ _ (Ne.symm hb45)).set 0 _⟩, ((ext_fr hX4.out hF5'.out (fun y hy => by have := hS3'.out y hy; omega)).setCell (p := ⟨b4, 0, none⟩) (by show w.heap.size ≤ b4; omega) _).setCell (p := ⟨b5, 0, none⟩) (by show w.heap.size ≤ b5; omega) _⟩, keepsF_trans hTh.out.1 (keepsF_trans (kf_fr hF5'.out hS1'.out) (keeps_fr hF7 hmem))⟩
        · have hovI : ¬ (1024 : Int) < (T'.length : Int) := by omega
          gi_wp2_with fail
          have hrf := ok_away (x := (q, J)) ⟨hr4.out, hf4.out⟩ hF5'.out (fun y hy cs c => by
            rcases List.mem_append.1 hy with hy | hy
            · obtain ⟨ds, d, hd⟩ := own_kind hv0.out.1 hy
              exact ⟨no_kind hd (by decide) cs c, no_kind hd (by decide) cs c⟩
            · rw [List.mem_singleton] at hy
              subst hy
              obtain ⟨es, ec, hm2⟩ := hGg.out.1.isMap
              exact ⟨map_no_kind ⟨es, ec, hm2⟩ _ cs c, map_no_kind ⟨es, ec, hm2⟩ _ cs c⟩)
          refine ⟨kf_fr hF5'.out (fun y hy => (hS1'.out y hy).imp id (fun h => by omega)), ⟨⟨x4'.out, x5'.out⟩, ⟨x6'.out, z9.out.fr hF5'.out hn9⟩, ⟨n + 1, T', hG5'.out, hrw'.out, by omega, by omega⟩, ⟨⟨z7.out.fr hF5'.out hn7, z8.out.fr hF5'.out hn8⟩, ⟨zw.out.fr hF5'.out hnw, zj.out.fr hF5'.out hnj⟩, hrf.1, hrf.2⟩, hTh.out.fr hF5'.out (by omega) (fun y hy => ⟨(hS3'.out y hy).imp id (fun h => by simp [h]), hS1'.out y hy, hS2'.out y hy⟩), ext_fr hX4.out hF5'.out (fun y hy => by have := hS3'.out y hy; omega), by omega⟩, qk_fr hF5'.out (fun y hy hB => hS2'.out y hy (by omega))⟩
    case done2 =>
      rintro W ⟨⟨z4, z5⟩, ⟨z6, z9⟩, ⟨n, T, hGg, hro, hTl, hn⟩, -, hTh, hX4, hz4⟩
      have hmT : U.length ≤ T.length := by
        have h1 := nodup_len U (T.map Prod.fst) (asc_nodup hUa) (fun x hx3 => (keys_of hGg.nodup (fun p hp1 => (hGg.2.2.1 p hp1).1) x).2 (by rw [hro, List.take_length, if_pos hx3]; simp))
        rwa [List.length_map] at h1
      exact ⟨hTh.1, hTh.2.1, ⟨⟨z4, z5⟩, ⟨z6, z9⟩, ⟨n, T, hGg, fun x => by rw [hro, List.take_length, hrows_next hx'.out, hU], hTl, by omega⟩, hX4, hz4⟩, hTh.2.2⟩
    case stop2 =>
      rintro c m W hm2 ⟨⟨⟨rfl, hk2⟩, ho2, hX6⟩, hKF⟩
      gi_wp2
      exact ⟨hKF, ⟨rfl, hk2⟩, ho2, hX6⟩
  case done =>
    rintro D W hD ⟨⟨o4, o5⟩, ⟨o6, o2⟩, ⟨n, T, hGg, hro, hTl, hn⟩, hXk, hzk⟩ hK
    rw [List.take_of_length_le (Nat.le_refl _), hM.out] at hro
    have hkT : (hkeys s hp f r (grp (eds L))).length ≤ T.length := by
      have h1 := nodup_len (hkeys s hp f r (grp (eds L))) (T.map Prod.fst) (asc_nodup (hkeys_asc _ _ _ _ _)) (fun x hx3 => (keys_of hGg.nodup (fun p hp1 => (hGg.2.2.1 p hp1).1) x).2 (by rw [hro]; exact hrows_none.2 hx3))
      rwa [List.length_map] at h1
    have hE0 : hcE s hp f r (grp (eds L)) = 0 := by unfold hcE; rw [if_neg (by omega)]
    have hb45 : b4 ≠ b5 := by omega
    have q6 := o6.cell 0 rfl
    have q4 := o4.cell 0 rfl
    have q5 := o5.cell 0 rfl
    have f4 := o4.free 0
    have f5 := o5.free 0
    have l4 := o4.lt
    have l5 := o5.lt
    have l6 := o6.lt
    haveI : In b4 W := ⟨l4⟩
    haveI : In b5 W := ⟨l5⟩
    haveI : In b6 W := ⟨l6⟩
    have o4' := hide o4
    have o5' := hide o5
    have hGg' := hide hGg
    have hro' := hide hro
    have hXk' := hide hXk
    have hK' := hide hK
    have hE0' := hide hE0
    clear o4 o5 o2 o6 hGg hro hXk hK hE0
    go_wp2_with fail
    have y4 : Ob ((W.setCell ⟨b4, 0, none⟩ (.map (some mb))).setCell ⟨b5, 0, none⟩ (.int .i64 0)) b4 83 [.map (some mb)] := (o4'.out.set 0 _).far _ _ hb45
    have y5 : Ob ((W.setCell ⟨b4, 0, none⟩ (.map (some mb))).setCell ⟨b5, 0, none⟩ (.int .i64 0)) b5 28 [.int .i64 0] := (o5'.out.far ⟨b4, 0, none⟩ _ (Ne.symm hb45)).set 0 _
    have hK2 := (KeepsOthers.setCell (W.setCell ⟨b4, 0, none⟩ (.map (some mb))) ⟨b5, 0, none⟩ (.int .i64 0)).same D _ ((KeepsOthers.setCell W ⟨b4, 0, none⟩ (.map (some mb))).same D _ hK'.out rfl) rfl
    have z4 := (ob_put (o' := .deferred none) hK2 rfl y4).cell 0 rfl
    have z5 := (ob_put (o' := .deferred none) hK2 rfl y5).cell 0 rfl
    have hG2 : GrpH ((W.setCell ⟨b4, 0, none⟩ (.map (some mb))).setCell ⟨b5, 0, none⟩ (.int .i64 0)) w1.heap.size mb n T := (hGg'.out.set (o := 0) (u := .map (some mb)) o4'.out (by decide) (by decide)).set (o := 0) (u := .int .i64 0) (o5'.out.far ⟨b4, 0, none⟩ _ (Ne.symm hb45)) (by decide) (by decide)
    have hG3 := ((GrpH.stab (B := mb + 1) (Nat.lt_succ_self mb)).put _ D _ (.deferred none) hG2 (by omega) hK2 rfl).base hzW1
    rw [hE0'.out]
    refine ret_mark hK2 (v := .tuple #[.map (some mb), .int .i64 0]) ?_ ⟨_, rfl, put_ext ((hXk'.out.setCell (p := ⟨b4, 0, none⟩) (by show w.heap.size ≤ b4; omega) _).setCell (p := ⟨b5, 0, none⟩) (by show w.heap.size ≤ b5; omega) _) (by omega) _, .inl ⟨rfl, mb, n, T, rfl, hG3, by omega, hro'.out, hTl⟩⟩
    simp [results, Tryz.f56, go_sem, z4, z5]
  case stop =>
    rintro D c k W hD hk ⟨⟨rfl, h7⟩, ⟨o4, o5⟩, hXk⟩ hK
    have hK' := hide hK
    go_wp2
    have z4 := (ob_put (o' := .deferred none) hK'.out rfl o4).cell 0 rfl
    have z5 := (ob_put (o' := .deferred none) hK'.out rfl o5).cell 0 rfl
    rw [hM.out] at h7
    have e7 : hcE s hp f r (grp (eds L)) = 7 := by unfold hcE; rw [if_pos h7]
    rw [e7]
    refine ret_mark hK'.out (v := .tuple #[.map none, .int .i64 7]) ?_ ⟨_, rfl, put_ext hXk (by omega) _, .inr ⟨rfl, rfl⟩⟩
    simp [results, Tryz.f56, go_sem, z4, z5]
end Go.Proofs.YtljkneajdndgjaaGreat
