/-
  A helper of ours: no claim of its own. Layer 4 (frame): what must be whatever is asked.
-/
import Derived.Test.YtgjdgejljkhnlaaFrF
import Derived.WalkSpells
set_option linter.unusedVariables false
set_option linter.unusedSimpArgs false
namespace Go.Proofs.Ytgjdgejljkhnlaa
open Go.RowKit
attribute [local go_sem] GW.cell GW.frozen In.eq_true In.le_true In.ne In.ne' In.ne_add In.ne_add' In.lt_add Upto.le_true Upto.le_add Upto.lt_add
attribute [-go_sem] sliced
attribute [local go_sem] sliced_eq
theorem by_lit (w : World) (l : List UInt8) (cs : Array Value) (n : Nat) (hn : n = l.length) (hc : cs.toList = bs l) (hm : l.length ≤ maxLen) (S : List Nat) (hS : ∀ b, b ∈ S → b < w.heap.size) : By (w.alloc (.cells cs 5)) S (.slice (some ⟨w.heap.size, 0, none⟩) n n) l := by
  subst hn
  have h := World.ownsRow_lit (base := w.heap.size) (e := 5) (size := 1) w cs l.length (Nat.le_refl _) hm (by rw [← Array.length_toList, hc, bs_length, Nat.mul_one])
  rw [hc] at h
  exact Sl.own h hS
theorem OwnF.form {w : World} {B : Nat} {S : List Nat} {v : Value} {F : List (List UInt8 × Int)} (h : OwnF w B S v F) : ∃ A cap, v = .slice A F.length cap := by
  obtain ⟨xs, h1, _⟩ := h
  exact own_form h1
theorem OwnF.at {w : World} {B : Nat} {S : List Nat} {v : Value} {F : List (List UInt8 × Int)} (h : OwnF w B S v F) {i : Nat} {f : List UInt8 × Int} (hf : F[i]? = some f) :
    ∃ g cap A n c, v = .slice (some ⟨g, 0, none⟩) F.length cap ∧ B ≤ g ∧ w.cell? ⟨g, i * 2, none⟩ = some (.slice A n c) ∧ w.cell? ⟨g, i * 2 + 1, none⟩ = some (.int .i64 f.2) ∧ By w (g :: S) (.slice A n c) f.1 := by
  obtain ⟨xs, h1, h2⟩ := h
  obtain ⟨A, n, c, e1, e2, hB⟩ := h2.get i f hf
  rcases id h1.2 with ⟨_, h0⟩ | ⟨g, cap, cur, rfl, hb, _⟩
  · have : F = [] := List.eq_nil_of_length_eq_zero h0
    subst this; simp at hf
  · have hc := h1.cells (g := g) rfl
    refine ⟨g, cap, A, n, c, rfl, hb, ?_, ?_, Sl.less hB (by simp [Value.ownBlock])⟩
    · have := hc _ _ e1; rw [add_plain] at this; simpa using this
    · have := hc _ _ e2; rw [add_plain] at this; simpa using this
theorem cut_live1 : cutAll ([] ++ [0, 2, 7]) = ([], [0, 2, 7]) := by
  show cutAll (0 :: 2 :: [7]) = _
  rw [cut_lt (by decide)]
theorem cut_live2 : cutAll ([0, 2, 7] ++ [8, 0]) = ([([7, 8], 0)], [0]) := by
  show cutAll (0 :: 2 :: [7, 8, 0]) = _
  rw [cut_ge (by decide)]
  rw [show held 0 2 ([7, 8, 0].take (flen 0 2)) = [7, 8] by decide, show ferr 0 2 = 0 by decide, show ([7, 8, 0] : List UInt8).drop (flen 0 2) = [0] by decide, cut_one']
theorem live_ext {w w1 w2 w3 w4 : World} {o2 o3 : Obj} {b : Nat} {G : List Nat} (h1 : Ext w w1) (hb : w1.heap.size ≤ b) (h2 : Ext w1 w2) (h3 : Fr [b] (w2.alloc o2) w3) (hn : Newer (w2.alloc o2) [] G) (h4 : Fr (b :: G) (w3.alloc o3) w4) : Ext w w4 := by
  have hz1 := h1.size
  have hz2 := h2.size
  refine ext_fr ((ext_fr ((h1.trans h2).alloc o2) h3 ?_).alloc o3) h4 ?_
  · intro t ht; simp at ht; subst ht; omega
  · intro t ht
    rcases List.mem_cons.1 ht with rfl | ht
    · omega
    · rcases hn t ht with h | h
      · simp at h
      · simp at h; omega
theorem live_by {w1 w2 w3 w4 : World} {o2 o3 : Obj} {b B : Nat} {G : List Nat} {v1 : Value} {l : List UInt8} (ho1 : OwnB w1 B v1 l) (hb : w1.heap.size ≤ b) (h2 : Ext w1 w2) (h3 : Fr [b] (w2.alloc o2) w3) (hn : Newer (w2.alloc o2) [] G) (h4 : Fr (b :: G) (w3.alloc o3) w4) : By w4 [] v1 l := by
  have hz2 := h2.size
  have k1 : By w1 (b :: G) v1 l := Sl.new (Sl.own (S := []) ho1 (by simp)) (fun t ht => .inr (by
    rcases List.mem_cons.1 ht with rfl | ht
    · exact hb
    · rcases hn t ht with h | h
      · simp at h
      · simp at h; omega))
  exact ((((Sl.ext k1 (h2.alloc o2)).fr h3 (by simp)).alloc o3).fr h4 (fun t h => h)).less (by simp)
theorem StG.below {w : World} {b : Nat} {p : List UInt8} {G : List Nat} (h : StG w b p G) : ∀ t, t ∈ b :: G → t < w.heap.size := by
  intro t ht
  rcases List.mem_cons.1 ht with rfl | ht
  · exact h.lt
  · exact (h.blocks t ht).1
set_option maxHeartbeats 1000000 in
set_option maxRecDepth 100000 in
theorem live_c (w : World) : Calls Try.prog 8 #[] w fun e w' => e = .returned (.bool true) ∧ Ext w w' := by
  have hB := hide (by_lit w [7, 8] #[.int .u8 7, .int .u8 8] 2 rfl rfl (by decide) [] (by simp))
  go_enter Try.func8, Try.ntmps8
  go_wp2_with (first | (go_at_call 7; refine (wrap_c [] [7, 8] (by decide) _ _ hB.out).mono ?_; rintro ee w1 ⟨v1, rfl, ho1, hX1⟩; have hX1' := hide (((Ext.refl w).alloc _).trans hX1)) | (go_at_call 10; refine (new_c _ 0).mono ?_; rintro ee w2 ⟨b, rfl, hb, hS0, hX2⟩; replace hS0 : Hid (StG w2 b [] []) := ⟨rfl, hS0⟩; have hB2 := hide (by_lit w2 [0, 2, 7] #[.int .u8 0, .int .u8 2, .int .u8 7] 3 rfl rfl (by decide) [b] (fun t h => hS0.out.below t h)); have hf1 := hide (feed_c _ b [] [] [] (by simp) (hS0.out.ext ((Ext.refl w2).alloc _)) (by decide) _ _ hB2.out (by decide))) | (go_at_call 11; first | (with_reducible refine hf2.out.mono ?_; rintro ee w4 ⟨L2, G2, rfl, hO2, hS2, hn2, hF2⟩; rw [cut_live2] at hO2 hS2; replace hS2 := hide hS2; obtain ⟨g2, cp2, A2, m2, c2, rfl, hg2, hd1, hd2, hbody⟩ := hO2.at (i := 0) rfl; have hcv1 := run_str (P := Try.prog) Try.underlying22 Try.underlying5 Try.underlying9 hbody; have hcv0 := run_str (P := Try.prog) Try.underlying22 Try.underlying5 Try.underlying9 (live_by ho1 hb hX2 hF1 hn1 hF2)) | (with_reducible refine hf1.out.mono ?_; rintro ee w3 ⟨L1, G1, rfl, hO1, hS1, hn1, hF1⟩; rw [cut_live1] at hO1 hS1; replace hS1 := hide hS1; have hB3 := hide (by_lit w3 [8, 0] #[.int .u8 8, .int .u8 0] 2 rfl rfl (by decide) (b :: G1) hS1.out.below); have hf2 := hide (feed_c _ b [0, 2, 7] G1 [] (by simp) (hS1.out.ext ((Ext.refl w3).alloc _)) (by decide) _ _ hB3.out (by decide)); obtain ⟨A1, cp1, rfl⟩ := hO1.form)) | (go_at_call 14; refine (st_held hS2.out.st).mono ?_; rintro ee w5 ⟨rfl, rfl⟩))
  go_returns
  exact ⟨rfl, live_ext hX1'.out hb hX2 hF1 hn1 hF2⟩
end Go.Proofs.Ytgjdgejljkhnlaa
