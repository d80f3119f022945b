/-
  A helper of ours: no claim of its own. Layer 4 (frame): lists of frames that grow, beside a cutter that goes on.
-/
import Derived.Test.YtgjdgejljkhnlaaFrG
set_option linter.unusedVariables false
set_option linter.unusedSimpArgs false
namespace Go.Proofs.Ytgjdgejljkhnlaa
open Go.RowKit
theorem fr_of_grown {w w' : World} {row : Option Nat} (hg : w.grownBy w' row) : Fr row.toList w w' := (Fr.refl row.toList w).grown hg (fun k hk => .inl (by rw [hk]; simp))
/-- One list of frames behind another. -/
theorem app_frames {w w' : World} {B : Nat} {S : List Nat} {gv v' : Value} {F F' : List (List UInt8 × Int)} {xs ys : List Value} (k2 : FrC w (gv.ownBlock.toList ++ S) F xs) (k3 : FrC w (gv.ownBlock.toList ++ S) F' ys)
    (ho : w'.ownsRow B 41 2 v' (F.length + F'.length) (xs ++ ys)) (hg : w.grownBy w' gv.ownBlock) (hd : v'.ownBlock = gv.ownBlock ∨ v'.ownBlock = some w.heap.size) : OwnF w' B S v' (F ++ F') := by
  have hF := fr_of_grown hg
  have hS : ∀ t, t ∈ v'.ownBlock.toList ++ S → t ∈ gv.ownBlock.toList ++ S ∨ w.heap.size ≤ t := by
    intro t ht
    rcases List.mem_append.1 ht with h | h
    · rcases hd with hd | hd
      · rw [hd] at h; exact .inl (List.mem_append.2 (.inl h))
      · rw [hd] at h; simp at h; exact .inr (by omega)
    · exact .inl (List.mem_append.2 (.inr h))
  refine ⟨xs ++ ys, by rw [List.length_append]; exact ho, FrC.app (k2.map fun A n c l hB => ?_) (k3.map fun A n c l hB => ?_)⟩
  · exact By.turn hB hF (fun t ht => List.mem_append.2 (.inl ht)) hS
  · exact By.turn hB hF (fun t ht => List.mem_append.2 (.inl ht)) hS
/-- A slice of bytes that is own stays where a list of frames grows. -/
theorem own_grown_ne {w w' : World} {B B' e e' z z' n n' : Nat} {v v' : Value} {xs xs' : List Value} (h : w.ownsRow B e z v n xs) (h' : w.ownsRow B' e' z' v' n' xs') (hne : e ≠ e') (hg : w.grownBy w' v'.ownBlock) : w'.ownsRow B e z v n xs := by
  refine h.kept hg ?_
  cases hv : v.ownBlock with
  | none => exact .inl rfl
  | some t => exact .inr (fun e => own_ne h h' hne t hv e.symm)
theorem own_keep {w w' : World} {B e z n : Nat} {v : Value} {xs : List Value} {T : List Nat} (h : w.ownsRow B e z v n xs) (k : Fr T w w') (hT : ∀ t, v.ownBlock = some t → t ∉ T) : w'.ownsRow B e z v n xs :=
  ⟨h.1, h.2.imp id fun ⟨g, cap, cur, e, hb, hg, r⟩ => ⟨g, cap, cur, e, hb, (k.block g (lt_of_block hg) (hT g (by rw [e]; rfl))).trans hg, r⟩⟩
/-- What was put together, c, beside the cutter and the frames that came of it. -/
def CI (w : World) (b : Nat) (wr : World) (av gv : Value) (c : List UInt8) : Prop :=
  ∃ G, w.heap.size ≤ b ∧ (∀ t, t ∈ G → w.heap.size ≤ t) ∧ StG wr b (cutAll c).2 G ∧ OwnB wr w.heap.size av c ∧ (∀ t, av.ownBlock = some t → t ∉ b :: G) ∧ OwnF wr w.heap.size (b :: (G ++ av.ownBlock.toList)) gv (cutAll c).1 ∧ Ext w wr
/-- The same, where the frames of c ++ l are to be: gv has those of c, L3 the others. -/
def CF (w : World) (b : Nat) (wr : World) (av gv L3 : Value) (c l : List UInt8) : Prop :=
  ∃ G F3 xs ys, w.heap.size ≤ b ∧ (∀ t, t ∈ G → w.heap.size ≤ t) ∧ StG wr b (cutAll (c ++ l)).2 G ∧ OwnB wr w.heap.size av c ∧ (∀ t, av.ownBlock = some t → t ∉ b :: G) ∧
    wr.ownsRow w.heap.size 41 2 gv (cutAll c).1.length xs ∧ wr.ownsRow w.heap.size 41 2 L3 F3.length ys ∧
    FrC wr (gv.ownBlock.toList ++ b :: (G ++ av.ownBlock.toList)) (cutAll c).1 xs ∧ FrC wr (gv.ownBlock.toList ++ b :: (G ++ av.ownBlock.toList)) F3 ys ∧ (cutAll (c ++ l)).1 = (cutAll c).1 ++ F3 ∧ Ext w wr
section
variable {w wr : World} {b : Nat} {av gv : Value} {c l : List UInt8}
theorem CI.feed {w2 : World} {v1 : Value} (h : CI w b wr av gv c) (hx : Ext wr w2) (hv1 : OwnB w2 wr.heap.size v1 l) (hl : c.length + l.length ≤ 1048576) :
    Calls Try.prog 11 #[.pointer (some ⟨b, 0, none⟩), v1] w2 fun e w' => ∃ L3, e = .returned L3 ∧ CF w b w' av gv L3 c l := by
  obtain ⟨G, h1, h2, h3, h4, h5, h6, h7⟩ := h
  have hz := hx.size
  have hz7 := h7.size
  have hlen := cut_count _ c (Nat.le_refl _)
  have h3' := h3.ext hx
  have hbl := h3.below
  obtain ⟨xs, q1, q2⟩ := id h6
  have hT : ∀ t, t ∈ av.ownBlock.toList ++ gv.ownBlock.toList → t < w2.heap.size ∧ t ∉ G := by
    intro t ht
    rcases List.mem_append.1 ht with ht | ht
    · have e : av.ownBlock = some t := by simpa using ht
      exact ⟨by have := (h4.lt t e).2; omega, fun m => h5 t e (by simp [m])⟩
    · have e : gv.ownBlock = some t := by simpa using ht
      exact ⟨by have := (q1.lt t e).2; omega, fun m => h6.off h3 t e (by simp [m])⟩
  refine (feed_c w2 b (cutAll c).2 G (av.ownBlock.toList ++ gv.ownBlock.toList) hT h3' (cut_waits c) v1 l (Sl.own hv1 hbl) (by omega)).mono fun e w' ⟨L3, G3, he, k1, k2, k3, k4⟩ => ?_
  obtain ⟨ys, p1, p2⟩ := k1
  have ha := cut_append c l
  have hG3 : ∀ t, av.ownBlock = some t → t ∉ b :: G3 := by
    intro t e hm
    rcases List.mem_cons.1 hm with rfl | hm
    · exact h5 t e (by simp)
    · rcases k3 t hm with h | h
      · exact h5 t e (by simp [h])
      · have := (h4.lt t e).2; omega
  refine ⟨L3, he, G3, (cutAll ((cutAll c).2 ++ l)).1, xs, ys, h1, ?_, ?_, ?_, hG3, ?_, own_base p1 (by omega), ?_, ?_, ?_, ?_⟩
  · intro t ht
    rcases k3 t ht with h | h
    · exact h2 t h
    · omega
  · rw [ha]; exact k2
  · exact own_keep (own_ext h4 hx) k4 h5
  · exact own_keep (own_ext q1 hx) k4 (h6.off h3)
  · have hn : ∀ t, t ∈ gv.ownBlock.toList ++ b :: (G3 ++ av.ownBlock.toList) → t ∈ gv.ownBlock.toList ++ b :: (G ++ av.ownBlock.toList) ∨ w2.heap.size ≤ t := by
      intro t ht
      rcases List.mem_append.1 ht with h | h
      · exact .inl (List.mem_append.2 (.inl h))
      · rcases newer_more av.ownBlock.toList k3 t h with h | h
        · exact .inl (List.mem_append.2 (.inr h))
        · exact .inr h
    exact q2.map fun A n c l hB => By.turn (Sl.ext hB hx) k4 (fun t ht => List.mem_append.2 (.inr (mem_more _ t ht))) hn
  · refine p2.map fun A n c l hB => Sl.less hB ?_
    intro t ht
    rcases List.mem_append.1 ht with h | h
    · exact List.mem_append.2 (.inr (List.mem_cons.2 (.inr (List.mem_append.2 (.inr (List.mem_append.2 (.inr h)))))))
    · rcases List.mem_cons.1 h with rfl | h
      · exact List.mem_append.2 (.inr (by simp))
      · rcases List.mem_append.1 h with h | h
        · exact List.mem_append.2 (.inr (List.mem_cons.2 (.inr (List.mem_append.2 (.inl h)))))
        · exact List.mem_append.2 (.inr (List.mem_cons.2 (.inr (List.mem_append.2 (.inr (List.mem_append.2 (.inl h)))))))
  · rw [ha]
  · refine ext_fr (h7.trans hx) k4 ?_
    intro t ht
    rcases List.mem_cons.1 ht with rfl | h
    · exact h1
    · exact h2 t h
theorem StG.off_frames {G : List Nat} {p : List UInt8} {B n z : Nat} {xs : List Value} (h : StG wr b p G) (k : wr.ownsRow B 41 z gv n xs) : ∀ t, gv.ownBlock = some t → t ∉ b :: G := by
  intro t ht hm
  rcases k.2 with ⟨rfl, _⟩ | ⟨g, cap, cur, rfl, _, hh, _⟩
  · simp [Value.ownBlock] at ht
  · obtain rfl : g = t := by simpa [Value.ownBlock] using ht
    rcases List.mem_cons.1 hm with rfl | hm
    · have hc : ∃ vs, Ob wr g 46 vs := by
        match p, h with
        | [], ⟨_, _, _, k, _⟩ => exact ⟨_, k⟩
        | [x], ⟨_, _, k, _⟩ => exact ⟨_, k⟩
        | x :: y :: r, ⟨_, _, k, _⟩ => exact ⟨_, k⟩
      obtain ⟨vs, hc⟩ := hc
      unfold Ob at hc
      rw [hh] at hc
      injection hc with hc; injection hc with _ e _
      exact absurd e (by decide)
    · obtain ⟨_, _, vs, T, h3⟩ := h.blocks g hm
      rw [hh] at h3
      injection h3 with h3; injection h3 with _ e _
      exact absurd e (by decide)
/-- The frames of the last piece are put behind the others: av has c still. -/
def CG (w : World) (b : Nat) (wr : World) (av gv : Value) (c l : List UInt8) : Prop :=
  ∃ G, w.heap.size ≤ b ∧ (∀ t, t ∈ G → w.heap.size ≤ t) ∧ StG wr b (cutAll (c ++ l)).2 G ∧ OwnB wr w.heap.size av c ∧ (∀ t, av.ownBlock = some t → t ∉ b :: G) ∧ OwnF wr w.heap.size (b :: (G ++ av.ownBlock.toList)) gv (cutAll (c ++ l)).1 ∧ Ext w wr
theorem CF.src {L3 : Value} (h : CF w b wr av gv L3 c l) : ∃ F3 xs ys, wr.ownsRow w.heap.size 41 2 gv (cutAll c).1.length xs ∧ Src Try.prog 2 32 L3 F3 ys wr ∧ 2 * ((cutAll c).1.length + F3) ≤ c.length + l.length ∧ Ext w wr ∧
    (∀ v4 w4, w4.ownsRow w.heap.size 41 2 v4 ((cutAll c).1.length + F3) (xs ++ ys) → wr.grownBy w4 gv.ownBlock → (v4.ownBlock = gv.ownBlock ∨ v4.ownBlock = some wr.heap.size) → CG w b w4 av v4 c l) := by
  obtain ⟨G, F3, xs, ys, h1, h2, h3, h4, h5, h6, h7, h8, h9, h10, h11⟩ := h
  refine ⟨F3.length, xs, ys, h6, src_sl Try.underlying32 (Sl.own (S := []) h7 (by simp)) h9.one (by omega), ?_, h11, fun v4 w4 ho hg hd => ?_⟩
  · have := cut_count _ (c ++ l) (Nat.le_refl _)
    rw [h10] at this
    simp at this
    omega
  · have hoff := StG.off_frames h3 h6
    refine ⟨G, h1, h2, ?_, own_grown_ne h4 h6 (by decide) hg, h5, ?_, ext_grown h11 hg (fun k hk => (h6.lt k hk).1)⟩
    · refine h3.keep (fr_of_grown hg) ?_ ?_
      · intro m; exact hoff b (by simpa using m) (by simp)
      · intro t ht m; exact hoff t (by simpa using m) (by simp [ht])
    · rw [h10]; exact app_frames h8 h9 ho hg hd
theorem CG.next {v5 : Value} {w5 : World} (h : CG w b wr av gv c l) (ho : OwnB w5 w.heap.size v5 (c ++ l)) (hg : wr.grownBy w5 av.ownBlock) (hd : v5.ownBlock = av.ownBlock ∨ v5.ownBlock = some wr.heap.size) : CI w b w5 v5 gv (c ++ l) := by
  obtain ⟨G, h1, h2, h3, h4, h5, h6, h7⟩ := h
  have hbl := h3.below
  have hF := fr_of_grown hg
  obtain ⟨xs, q1, q2⟩ := id h6
  refine ⟨G, h1, h2, ?_, ho, ?_, ?_, ext_grown h7 hg (fun k hk => (h4.lt k hk).1)⟩
  · refine h3.keep hF ?_ ?_
    · intro m; exact h5 b (by simpa using m) (by simp)
    · intro t ht m; exact h5 t (by simpa using m) (by simp [ht])
  · intro t ht hm
    rcases hd with hd | hd
    · exact h5 t (by rw [← hd]; exact ht) hm
    · rw [hd] at ht; have := hbl t hm; have := Option.some.inj ht; omega
  · refine h6.fr hF ?_ ?_ ?_
    · intro t ht; simp at ht; simp [ht]
    · intro t ht m; exact own_ne h4 q1 (by decide) t (by simpa using m) ht
    · intro t ht
      rcases List.mem_cons.1 ht with rfl | ht
      · exact .inl (by simp)
      · rcases List.mem_append.1 ht with h | h
        · exact .inl (by simp [h])
        · rcases hd with hd | hd
          · rw [hd] at h; exact .inl (List.mem_cons.2 (.inr (List.mem_append.2 (.inr h))))
          · rw [hd] at h; simp at h; exact .inr (by omega)
theorem CI.ext {w' : World} (h : CI w b wr av gv c) (k : Ext wr w') : CI w b w' av gv c := by
  obtain ⟨G, h1, h2, h3, h4, h5, h6, h7⟩ := h
  exact ⟨G, h1, h2, h3.ext k, own_ext h4 k, h5, h6.ext k, h7.trans k⟩
theorem CI.alike {w' : World} {B' e' : Nat} {M : Value} {ys : List Value} (h : CI w b wr av gv c) (hX : Ext wr w') (h3 : w'.ownsRow B' e' 2 M (cutAll c).1.length ys) (h4 : FrC w' [] (cutAll c).1 ys) (hl : c.length ≤ 1048576) :
    Calls Try.prog 13 #[gv, M] w' fun e w'' => e = .returned (.bool true) ∧ Ext w' w'' := by
  obtain ⟨G, _, _, _, _, _, ⟨xs, q1, q2⟩, _⟩ := h
  have := cut_count _ c (Nat.le_refl _)
  exact alike_c w' _ _ _ _ gv M _ xs ys (by omega) (own_ext q1 hX) (q2.map fun A n c l hB => (Sl.ext hB hX).less (by simp)) h3 h4
theorem CI.held (h : CI w b wr av gv c) : Calls Try.prog 14 #[.pointer (some ⟨b, 0, none⟩)] wr fun e w' => e = .returned (.int .i64 (cutAll c).2.length) ∧ w' = wr := by
  obtain ⟨G, _, _, h, _⟩ := h
  exact st_held h.st
theorem CG.parts (h : CG w b wr av gv c l) : OwnB wr w.heap.size av c ∧ Ext w wr := by
  obtain ⟨G, _, _, _, h1, _, _, h2⟩ := h
  exact ⟨h1, h2⟩
end
/-- Two cutters: the one in b got c, and gave the frames in gv; the one in d got nothing. -/
def SP (w : World) (b d : Nat) (wr : World) (gv : Value) (c : List UInt8) : Prop :=
  ∃ G, w.heap.size ≤ b ∧ w.heap.size ≤ d ∧ b ≠ d ∧ (∀ t, t ∈ G → w.heap.size ≤ t) ∧ d ∉ G ∧ StG wr b (cutAll c).2 G ∧ StG wr d [] [] ∧ OwnF wr w.heap.size (b :: (G ++ [d])) gv (cutAll c).1 ∧ Ext w wr
def SF (w : World) (b d : Nat) (wr : World) (gv L3 : Value) (c l : List UInt8) : Prop :=
  ∃ G F3 xs ys, w.heap.size ≤ b ∧ w.heap.size ≤ d ∧ b ≠ d ∧ (∀ t, t ∈ G → w.heap.size ≤ t) ∧ d ∉ G ∧ StG wr b (cutAll (c ++ l)).2 G ∧ StG wr d [] [] ∧
    wr.ownsRow w.heap.size 41 2 gv (cutAll c).1.length xs ∧ wr.ownsRow w.heap.size 41 2 L3 F3.length ys ∧
    FrC wr (gv.ownBlock.toList ++ b :: (G ++ [d])) (cutAll c).1 xs ∧ FrC wr (gv.ownBlock.toList ++ b :: (G ++ [d])) F3 ys ∧ (cutAll (c ++ l)).1 = (cutAll c).1 ++ F3 ∧ Ext w wr
section
variable {w wr : World} {b d : Nat} {gv : Value} {c l : List UInt8}
theorem SP.first {w1 : World} {v1 : Value} (hx : Ext w w1) (hb : w.heap.size ≤ b) (hd : w.heap.size ≤ d) (hne : b ≠ d) (hB : StG w1 b [] []) (hD : StG w1 d [] []) (hv : By w [] v1 l) (hl : l.length ≤ 1048576) :
    Calls Try.prog 11 #[.pointer (some ⟨b, 0, none⟩), v1] w1 fun e w' => ∃ L3, e = .returned L3 ∧ SP w b d w' L3 l := by
  have hz := hx.size
  have hv1 : By w1 (b :: []) v1 l := Sl.ext (Sl.new hv (fun t ht => .inr (by simp at ht; omega))) hx
  refine (feed_c w1 b [] [] [d] (by simp; exact hD.lt) hB (by decide) v1 l hv1 (by simp; omega)).mono fun e w' ⟨L3, G3, he, k1, k2, k3, k4⟩ => ?_
  rw [List.nil_append] at k1 k2
  have hG : ∀ t, t ∈ G3 → w1.heap.size ≤ t := fun t ht => (k3 t ht).elim (fun h => by simp at h) id
  obtain ⟨xs, q1, q2⟩ := k1
  exact ⟨L3, he, G3, hb, hd, hne, fun t ht => by have := hG t ht; omega, fun m => by have := hG d m; have := hD.lt; omega, k2, hD.keep k4 (by simp; omega) (by simp), ⟨xs, own_base q1 hz, q2⟩, ext_fr hx k4 (by simp; exact hb)⟩
theorem SP.ext (h : SP w b d wr gv c) : Ext w wr := by
  obtain ⟨G, _, _, _, _, _, _, _, _, h⟩ := h
  exact h
theorem SP.feed {v1 : Value} (h : SP w b d wr gv c) (hv : By w [] v1 l) (hl : c.length + l.length ≤ 2097152) :
    Calls Try.prog 11 #[.pointer (some ⟨b, 0, none⟩), v1] wr fun e w' => ∃ L3, e = .returned L3 ∧ SF w b d w' gv L3 c l := by
  obtain ⟨G, h1, h2, h3, h4, h5, h6, h7, h8, h9⟩ := h
  have hz := h9.size
  have hlen := cut_count _ c (Nat.le_refl _)
  have hbl := h6.below
  obtain ⟨xs, q1, q2⟩ := id h8
  have hT : ∀ t, t ∈ [d] ++ gv.ownBlock.toList → t < wr.heap.size ∧ t ∉ G := by
    intro t ht
    rcases List.mem_append.1 ht with ht | ht
    · simp at ht; subst ht; exact ⟨h7.lt, h5⟩
    · have e : gv.ownBlock = some t := by simpa using ht
      exact ⟨(q1.lt t e).2, fun m => h8.off h6 t e (by simp [m])⟩
  have hv1 : By wr (b :: G) v1 l := Sl.ext (Sl.new hv (fun t ht => .inr (by rcases List.mem_cons.1 ht with rfl | h; exact h1; exact h4 t h))) h9
  refine (feed_c wr b (cutAll c).2 G ([d] ++ gv.ownBlock.toList) hT h6 (cut_waits c) v1 l hv1 (by omega)).mono fun e w' ⟨L3, G3, he, k1, k2, k3, k4⟩ => ?_
  obtain ⟨ys, p1, p2⟩ := k1
  have ha := cut_append c l
  refine ⟨L3, he, G3, (cutAll ((cutAll c).2 ++ l)).1, xs, ys, h1, h2, h3, ?_, ?_, ?_, ?_, ?_, own_base p1 (by omega), ?_, ?_, ?_, ?_⟩
  · intro t ht
    rcases k3 t ht with h | h
    · exact h4 t h
    · omega
  · intro m
    rcases k3 d m with h | h
    · exact h5 h
    · have := h7.lt; omega
  · rw [ha]; exact k2
  · exact h7.keep k4 (by intro m; rcases List.mem_cons.1 m with e | m; exact h3 e.symm; exact h5 m) (by simp)
  · exact own_keep q1 k4 (h8.off h6)
  · have hn : ∀ t, t ∈ gv.ownBlock.toList ++ b :: (G3 ++ [d]) → t ∈ gv.ownBlock.toList ++ b :: (G ++ [d]) ∨ wr.heap.size ≤ t := by
      intro t ht
      rcases List.mem_append.1 ht with h | h
      · exact .inl (List.mem_append.2 (.inl h))
      · rcases newer_more [d] k3 t h with h | h
        · exact .inl (List.mem_append.2 (.inr h))
        · exact .inr h
    exact q2.map fun A n c l hB => By.turn hB k4 (fun t ht => List.mem_append.2 (.inr (mem_more _ t ht))) hn
  · refine p2.map fun A n c l hB => Sl.less hB ?_
    intro t ht
    simp only [List.mem_append, List.mem_cons] at ht ⊢
    rcases ht with h | h | h | h | h
    · exact .inr (.inr (.inr (.inr h)))
    · exact .inr (.inl h)
    · exact .inr (.inr (.inl h))
    · exact .inr (.inr (.inr (.inl (.inl h))))
    · exact absurd h (by simp)
  · rw [ha]
  · refine ext_fr h9 k4 ?_
    intro t ht
    rcases List.mem_cons.1 ht with rfl | h
    · exact h1
    · exact h4 t h
theorem SF.src {L3 : Value} (h : SF w b d wr gv L3 c l) : ∃ F3 xs ys, wr.ownsRow w.heap.size 41 2 gv (cutAll c).1.length xs ∧ Src Try.prog 2 32 L3 F3 ys wr ∧ 2 * ((cutAll c).1.length + F3) ≤ c.length + l.length ∧ Ext w wr ∧
    (∀ v4 w4, w4.ownsRow w.heap.size 41 2 v4 ((cutAll c).1.length + F3) (xs ++ ys) → wr.grownBy w4 gv.ownBlock → (v4.ownBlock = gv.ownBlock ∨ v4.ownBlock = some wr.heap.size) → SP w b d w4 v4 (c ++ l)) := by
  obtain ⟨G, F3, xs, ys, h1, h2, h3, h4, h5, h6, h7, h8, h9, h10, h11, h12, h13⟩ := h
  refine ⟨F3.length, xs, ys, h8, src_sl Try.underlying32 (Sl.own (S := []) h9 (by simp)) h11.one (by omega), ?_, h13, fun v4 w4 ho hg hd => ?_⟩
  · have := cut_count _ (c ++ l) (Nat.le_refl _)
    rw [h12] at this
    simp at this
    omega
  · have hoff := StG.off_frames h6 h8
    have hoffd := StG.off_frames h7 h8
    refine ⟨G, h1, h2, h3, h4, h5, ?_, ?_, ?_, ext_grown h13 hg (fun k hk => (h8.lt k hk).1)⟩
    · refine h6.keep (fr_of_grown hg) ?_ ?_
      · intro m; exact hoff b (by simpa using m) (by simp)
      · intro t ht m; exact hoff t (by simpa using m) (by simp [ht])
    · refine h7.keep (fr_of_grown hg) ?_ (by simp)
      intro m; exact hoffd d (by simpa using m) (by simp)
    · rw [h12]; exact app_frames h10 h11 ho hg hd
/-- Both cutters got the same bytes. -/
def SQ (w : World) (b d : Nat) (wr : World) (gv L7 : Value) (c : List UInt8) : Prop :=
  (∃ e xs, wr.ownsRow w.heap.size e 2 gv (cutAll c).1.length xs ∧ FrC wr [] (cutAll c).1 xs) ∧ (∃ e ys, wr.ownsRow w.heap.size e 2 L7 (cutAll c).1.length ys ∧ FrC wr [] (cutAll c).1 ys) ∧ St wr 0 b (cutAll c).2 ∧ St wr 0 d (cutAll c).2 ∧ Ext w wr
theorem SP.other {w6 : World} {v6 : Value} (h : SP w b d wr gv c) (hx : Ext wr w6) (hv : OwnB w6 wr.heap.size v6 c) (hl : c.length ≤ 2097152) :
    Calls Try.prog 11 #[.pointer (some ⟨d, 0, none⟩), v6] w6 fun e w' => ∃ L7, e = .returned L7 ∧ SQ w b d w' gv L7 c := by
  obtain ⟨G, h1, h2, h3, h4, h5, h6, h7, h8, h9⟩ := h
  have hz := h9.size
  have hz6 := hx.size
  have hdl := h7.lt
  obtain ⟨xs, q1, q2⟩ := id h8
  refine (feed_c w6 d [] [] [] (by simp) (h7.ext hx) (by decide) v6 c (Sl.own hv (by simp; exact hdl)) (by simp; omega)).mono fun e w' ⟨L7, G7, he, k1, k2, k3, k4⟩ => ?_
  rw [List.nil_append] at k1 k2
  obtain ⟨ys, p1, p2⟩ := k1
  have hoffd := StG.off_frames h7 q1
  refine ⟨L7, he, ⟨_, xs, own_keep (own_ext q1 hx) k4 hoffd, ?_⟩, ⟨_, ys, own_base p1 (by omega), p2.map fun A n c l hB => Sl.less hB (by simp)⟩, ?_, k2.st, ?_⟩
  · exact q2.map fun A n c l hB => ((Sl.ext hB hx).fr k4 (by intro t ht; simp at ht; subst ht; simp)).less (by simp)
  · exact ((h6.ext hx).keep k4 (by simp; exact h3) (by intro t ht m; simp at m; subst m; exact h5 ht)).st
  · exact ext_fr (h9.trans hx) k4 (by simp; exact h2)
end
/-- The bytes of the first k pieces. -/
def cat (L : List (Value × List UInt8)) (k : Nat) : List UInt8 := (L.take k).flatMap (·.2)
theorem cat_zero (L : List (Value × List UInt8)) : cat L 0 = [] := rfl
theorem cat_succ {L : List (Value × List UInt8)} {k : Nat} {p : Value × List UInt8} (h : L[k]? = some p) : cat L (k + 1) = cat L k ++ p.2 := by
  unfold cat; rw [List.take_add_one, h, List.flatMap_append]; simp
def total (L : List (Value × List UInt8)) : Nat := (L.map (·.2.length)).sum
theorem cat_le (L : List (Value × List UInt8)) (k : Nat) : (cat L k).length ≤ total L := by
  unfold cat total
  induction L generalizing k with
  | nil => simp
  | cons p r ih =>
    cases k with
    | zero => simp
    | succ k => have := ih k; simp at this ⊢; omega
end Go.Proofs.Ytgjdgejljkhnlaa
