/-
  A helper of ours: no claim of its own. Layer 4 (frame): the frames of bytes, on lists; the cutter's state with the block that its body owns; lists of frames.
-/
import Derived.Test.YtgjdgejljkhnlaaFrD
set_option linter.unusedVariables false
set_option linter.unusedSimpArgs false
namespace Go.Proofs.Ytgjdgejljkhnlaa
open Go.RowKit
theorem miss_nil : miss [] = 2 := rfl
theorem miss_one (x : UInt8) : miss [x] = 1 := rfl
theorem miss_more (x y : UInt8) (r : List UInt8) : miss (x :: y :: r) = flen x y - r.length := rfl
/-- The frames of bytes, and what waits behind the last one. -/
def cutAll : List UInt8 → List (List UInt8 × Int) × List UInt8
  | x :: y :: r =>
    if flen x y ≤ r.length then
      let q := cutAll (r.drop (flen x y))
      ((held x y (r.take (flen x y)), ferr x y) :: q.1, q.2)
    else ([], x :: y :: r)
  | l => ([], l)
termination_by l => l.length
decreasing_by simp; omega
theorem cut_nil : cutAll [] = ([], []) := by rw [cutAll]; intros; simp_all
theorem cut_one' (x : UInt8) : cutAll [x] = ([], [x]) := by rw [cutAll]; intros; simp_all
theorem cut_lt {x y : UInt8} {r : List UInt8} (h : r.length < flen x y) : cutAll (x :: y :: r) = ([], x :: y :: r) := by rw [cutAll, if_neg (by omega)]
theorem cut_ge {x y : UInt8} {r : List UInt8} (h : flen x y ≤ r.length) : cutAll (x :: y :: r) = ((held x y (r.take (flen x y)), ferr x y) :: (cutAll (r.drop (flen x y))).1, (cutAll (r.drop (flen x y))).2) := by rw [cutAll, if_pos h]
/-- What waits: bytes that are no frame yet. -/
theorem cut_wait {p : List UInt8} (h : 0 < miss p) : cutAll p = ([], p) := by
  match p, h with
  | [], _ => exact cut_nil
  | [x], _ => exact cut_one' x
  | x :: y :: r, h => exact cut_lt (by rw [miss_more] at h; omega)
theorem cut_full {x y : UInt8} {r l : List UInt8} (h : r.length = flen x y) : cutAll (x :: y :: r ++ l) = ((held x y r, ferr x y) :: (cutAll l).1, (cutAll l).2) := by
  show cutAll (x :: y :: (r ++ l)) = _
  rw [cut_ge (by rw [List.length_append]; omega), ← h, List.take_left, List.drop_left]
theorem cut_rest_wait : ∀ (n : Nat) (l : List UInt8), l.length ≤ n → 0 < miss (cutAll l).2
  | _, [], _ => by rw [cut_nil]; decide
  | _, [x], _ => by rw [cut_one', miss_one]; omega
  | 0, x :: y :: r, h => by simp at h
  | n + 1, x :: y :: r, h => by
    by_cases hf : flen x y ≤ r.length
    · rw [cut_ge hf]; exact cut_rest_wait n _ (by simp at h ⊢; omega)
    · rw [cut_lt (by omega), miss_more]; omega
theorem cut_waits (l : List UInt8) : 0 < miss (cutAll l).2 := cut_rest_wait _ l (Nat.le_refl _)
/-- It does not matter in which pieces bytes come. -/
theorem cut_append_n : ∀ (n : Nat) (l m : List UInt8), l.length ≤ n → cutAll (l ++ m) = ((cutAll l).1 ++ (cutAll ((cutAll l).2 ++ m)).1, (cutAll ((cutAll l).2 ++ m)).2)
  | _, [], m, _ => by simp [cut_nil]
  | _, [x], m, _ => by simp [cut_one']
  | 0, x :: y :: r, m, h => by simp at h
  | n + 1, x :: y :: r, m, h => by
    by_cases hf : flen x y ≤ r.length
    · have e : x :: y :: r ++ m = x :: y :: (r ++ m) := rfl
      rw [e, cut_ge (r := r ++ m) (by rw [List.length_append]; omega), cut_ge hf, List.take_append_of_le_length hf, List.drop_append_of_le_length hf, cut_append_n n (r.drop (flen x y)) m (by simp at h ⊢; omega)]
      simp
    · rw [cut_lt (by omega)]; simp
theorem cut_append (l m : List UInt8) : cutAll (l ++ m) = ((cutAll l).1 ++ (cutAll ((cutAll l).2 ++ m)).1, (cutAll ((cutAll l).2 ++ m)).2) := cut_append_n _ l m (Nat.le_refl _)
theorem cut_count : ∀ (n : Nat) (l : List UInt8), l.length ≤ n → 2 * (cutAll l).1.length + (cutAll l).2.length ≤ l.length
  | _, [], _ => by rw [cut_nil]; simp
  | _, [x], _ => by rw [cut_one']; simp
  | 0, x :: y :: r, h => by simp at h
  | n + 1, x :: y :: r, h => by
    by_cases hf : flen x y ≤ r.length
    · have := cut_count n (r.drop (flen x y)) (by simp at h ⊢; omega)
      rw [cut_ge hf]; simp at this ⊢; omega
    · rw [cut_lt (by omega)]; simp
theorem miss_le (p : List UInt8) : miss p ≤ 65535 := by
  match p with
  | [] => rw [miss_nil]; omega
  | [x] => rw [miss_one]; omega
  | x :: y :: r => rw [miss_more]; unfold flen; have := x.toNat_lt; have := y.toNat_lt; omega
theorem miss_full {p : List UInt8} (h : miss p = 0) : ∃ x y r, p = x :: y :: r ∧ flen x y ≤ r.length := by
  match p, h with
  | [], h => simp [miss] at h
  | [x], h => simp [miss] at h
  | x :: y :: r, h => exact ⟨x, y, r, rfl, by rw [miss_more] at h; omega⟩

/-- Blocks that are among those of G, or new since w. -/
def Newer (w : World) (G G' : List Nat) : Prop := ∀ t, t ∈ G' → t ∈ G ∨ w.heap.size ≤ t
theorem Newer.refl (w : World) (G : List Nat) : Newer w G G := fun t h => .inl h
theorem Newer.trans {w w' : World} {G G' G'' : List Nat} (h : Newer w G G') (k : Newer w' G' G'') (hs : w.heap.size ≤ w'.heap.size) : Newer w G G'' :=
  fun t ht => (k t ht).elim (h t) (fun hl => .inr (by omega))
/-- The cutter in block b has the bytes p of a frame that has not ended; its body lies in the blocks G. -/
def StG (w : World) (b : Nat) : List UInt8 → List Nat → Prop
  | [], G => G = [] ∧ ∃ h0 h1, Cu w b 0 h0 h1 (.slice none 0 0) ∧ (0 ≤ h0 ∧ h0 ≤ 255) ∧ (0 ≤ h1 ∧ h1 ≤ 255)
  | [x], G => G = [] ∧ ∃ h1, Cu w b 1 x.toNat h1 (.slice none 0 0) ∧ (0 ≤ h1 ∧ h1 ≤ 255)
  | x :: y :: r, G => r.length ≤ flen x y ∧ ∃ body, Cu w b ((2 : Int) + r.length) x.toNat y.toNat body ∧ OwnB w 0 body (held x y r) ∧ G = body.ownBlock.toList
theorem StG.st {w : World} {b : Nat} {p : List UInt8} {G : List Nat} (h : StG w b p G) : St w 0 b p := by
  match p, h with
  | [], ⟨_, h⟩ => exact h
  | [x], ⟨_, h⟩ => exact h
  | x :: y :: r, ⟨hr, body, h1, h2, h3⟩ => exact ⟨hr, body, h1, h2⟩
theorem StG.lt {w : World} {b : Nat} {p : List UInt8} {G : List Nat} (h : StG w b p G) : b < w.heap.size := by
  match p, h with
  | [], ⟨_, h0, h1, h, _⟩ => exact Ob.lt h
  | [x], ⟨_, h1, h, _⟩ => exact Ob.lt h
  | x :: y :: r, ⟨hr, body, h, _⟩ => exact Ob.lt h
theorem StG.ext {w w' : World} {b : Nat} {p : List UInt8} {G : List Nat} (h : StG w b p G) (k : Ext w w') : StG w' b p G := by
  match p, h with
  | [], ⟨e, h0, h1, h, b0, b1⟩ => exact ⟨e, h0, h1, h.ext k, b0, b1⟩
  | [x], ⟨e, h1, h, b1⟩ => exact ⟨e, h1, h.ext k, b1⟩
  | x :: y :: r, ⟨hr, body, h, ho, e⟩ => exact ⟨hr, body, h.ext k, own_ext ho k, e⟩
theorem StG.keep {w w' : World} {b : Nat} {p : List UInt8} {G S : List Nat} (h : StG w b p G) (k : Fr S w w') (hb : b ∉ S) (hG : ∀ t, t ∈ G → t ∉ S) : StG w' b p G := by
  match p, h with
  | [], ⟨e, h0, h1, h, b0, b1⟩ => exact ⟨e, h0, h1, h.fr k hb, b0, b1⟩
  | [x], ⟨e, h1, h, b1⟩ => exact ⟨e, h1, h.fr k hb, b1⟩
  | x :: y :: r, ⟨hr, body, h, ho, e⟩ =>
    refine ⟨hr, body, h.fr k hb, ?_, e⟩
    refine ⟨ho.1, ho.2.imp id fun ⟨g, cap, cur, e1, h1, h2, h3⟩ => ⟨g, cap, cur, e1, h1, ?_, h3⟩⟩
    have hlt := lt_of_block h2
    exact (k.block g hlt (hG g (by rw [e, e1]; simp [Value.ownBlock]))).trans h2
theorem StG.blocks {w : World} {b : Nat} {p : List UInt8} {G : List Nat} (h : StG w b p G) : ∀ t, t ∈ G → t < w.heap.size ∧ t ≠ b ∧ ∃ vs T, w.heap[t]? = some (.cells vs 5 T) := by
  match p, h with
  | [], ⟨e, _⟩ => subst e; simp
  | [x], ⟨e, _⟩ => subst e; simp
  | x :: y :: r, ⟨hr, body, h, ho, e⟩ =>
    intro t ht
    rw [e] at ht
    have ht' : body.ownBlock = some t := by simpa using ht
    refine ⟨(ho.lt t ht').2, fun e' => h.not_own ho (by decide) (by rw [ht', e']), ?_⟩
    rcases ho.2 with ⟨rfl, _⟩ | ⟨g, cap, cur, rfl, _, hh, _⟩
    · simp [Value.ownBlock] at ht'
    · obtain rfl : g = t := by simpa [Value.ownBlock] using ht'
      exact ⟨_, _, hh⟩
theorem fr_nil {w w' : World} {b : Nat} (h : Fr [b] w w') (G : List Nat) : Fr (b :: G) w w' := h.more (by simp; intro k _ e; exact .inl e)
theorem stg_take {w : World} {b : Nat} {p : List UInt8} {G : List Nat} (hS : StG w b p G) {v : Value} {S : List Nat} {l : List UInt8} (hv : By w S v l) (hl : l ≠ []) (hm : l.length ≤ miss p) :
    Calls Try.prog 16 #[.pointer (some ⟨b, 0, none⟩), v] w fun e w' => e = .returned (.tuple #[]) ∧ ∃ G', StG w' b (p ++ l) G' ∧ Newer w G G' ∧ Fr (b :: G) w w' := by
  match p, hS with
  | [], ⟨eG, h0, h1, h, b0, b1⟩ =>
    subst eG
    match l, hv, hl, hm with
    | [x], hv, _, _ => exact (take_h1 w b h0 h1 _ _ _ h v S x hv).mono fun e w' ⟨he, hc, hF⟩ => ⟨he, [], ⟨rfl, h1, hc, b1⟩, Newer.refl _ _, hF⟩
    | [x, y], hv, _, _ => exact (take_h2 w b h0 h1 _ _ _ h v S x y hv).mono fun e w' ⟨he, hc, hF⟩ => ⟨he, [], ⟨Nat.zero_le _, _, hc, by rw [held_nil]; exact World.ownsRow_nil _ _ _ _, rfl⟩, Newer.refl _ _, hF⟩
    | _ :: _ :: _ :: _, _, _, hm => simp [miss] at hm
  | [x], ⟨eG, h1, h, b1⟩ =>
    subst eG
    match l, hv, hl, hm with
    | [y], hv, _, _ => exact (take_h3 w b _ h1 _ _ _ h v S y hv).mono fun e w' ⟨he, hc, hF⟩ => ⟨he, [], ⟨Nat.zero_le _, _, hc, by rw [held_nil]; exact World.ownsRow_nil _ _ _ _, rfl⟩, Newer.refl _ _, hF⟩
    | _ :: _ :: _, _, _, hm => simp [miss] at hm
  | x :: y :: r, ⟨hr, body, h, ho, eG⟩ =>
    subst eG
    have hf : (flen x y : Int) = (x.toNat : Int) * 256 + y.toNat := by unfold flen; omega
    have bx := byte_le x
    have by' := byte_le y
    replace hm : l.length ≤ flen x y - r.length := hm
    have hrl : (r ++ l).length ≤ flen x y := by rw [List.length_append]; omega
    have e2 : (2 : Int) + r.length + l.length = (2 : Int) + (r ++ l).length := by rw [List.length_append]; omega
    by_cases hn : flen x y ≤ 4096
    · have e1 : held x y r = r := by unfold held; rw [if_pos hn]
      have e3 : held x y (r ++ l) = r ++ l := by unfold held; rw [if_pos hn]
      rw [e1] at ho
      refine (take_more w b 0 _ _ _ body r h ho (Nat.zero_le _) bx by' (by omega) (by omega) v S l (by omega) (by omega) hv).mono fun e w' ⟨he, ⟨body', hc, ho', hd⟩, hF⟩ => ⟨he, body'.ownBlock.toList, ⟨hrl, body', ?_, ?_, rfl⟩, fun t ht => ?_, hF⟩
      · rw [e2] at hc; exact hc
      · rw [← e3] at ho'; exact ho'
      · rcases hd with hd | ⟨g, hd, hg⟩
        · rw [hd] at ht; exact .inl ht
        · rw [hd] at ht; simp at ht; subst ht; exact .inr hg
    · have e1 : held x y r = [] := by unfold held; rw [if_neg hn]
      have e3 : held x y (r ++ l) = [] := by unfold held; rw [if_neg hn]
      rw [e1] at ho
      have hnob : body.ownBlock ≠ some b := h.not_own ho (by decide)
      obtain ⟨A, c, rfl⟩ := own_form ho
      refine (take_skip w b _ _ _ _ _ _ h bx by' (by omega) (by omega) v S l (by omega) hv).mono fun e w' ⟨he, hc, hF⟩ => ⟨he, _, ⟨hrl, .slice A 0 c, ?_, ?_, rfl⟩, Newer.refl _ _, fr_nil hF _⟩
      · rw [e2] at hc; exact hc
      · have ho' : OwnB w' 0 (.slice A 0 c) [] := own_fr ho hF hnob
        have e4 : ∀ q : List UInt8, q = [] → OwnB w' 0 (.slice A 0 c) q := fun q e => by rw [e]; exact ho'
        exact e4 _ e3
theorem Sl.own' {w : World} {S : List Nat} {base e sz n : Nat} {v : Value} {xs : List Value} (h : w.ownsRow base e sz v n xs) (hs : ∀ b, v.ownBlock = some b → b ∉ S) : Sl w S sz v n xs := by
  rcases h.2 with ⟨rfl, rfl⟩ | ⟨g, cap, cur, rfl, hb, hg, hn, hc, hcs, ht⟩
  · obtain rfl : xs = [] := List.eq_nil_of_length_eq_zero (by simpa using h.1)
    exact Sl.nil w S sz
  · refine ⟨_, cap, rfl, hn, hc, h.1, .inr ⟨g, 0, rfl, hs g rfl, fun j u hu => ?_⟩⟩
    have := h.cells (g := g) rfl j u hu
    rwa [add_plain] at this
theorem stg_cut {w : World} {b : Nat} {x y : UInt8} {r : List UInt8} {G : List Nat} (h : StG w b (x :: y :: r) G) :
    Calls Try.prog 17 #[.pointer (some ⟨b, 0, none⟩)] w fun e w' => ∃ A n c, e = .returned (.agg #[.slice A n c, .int .i64 (ferr x y)]) ∧ OwnB w' 0 (.slice A n c) (held x y r) ∧ (∀ t, (Value.slice A n c).ownBlock = some t → t ≠ b ∧ t ∈ G) ∧ StG w' b [] [] ∧ Fr (b :: G) w w' := by
  obtain ⟨hr, body, h, ho, eG⟩ := h
  have hnob : body.ownBlock ≠ some b := h.not_own ho (by decide)
  have hf : (flen x y : Int) = (x.toNat : Int) * 256 + y.toNat := by unfold flen; omega
  have e1 : (if (4096 : Int) < (x.toNat : Int) * 256 + y.toNat then (6 : Int) else 0) = ferr x y := by
    unfold ferr
    by_cases h : 4096 < flen x y
    · rw [if_pos h, if_pos (by omega)]
    · rw [if_neg h, if_neg (by omega)]
  obtain ⟨A, c, eb⟩ := own_form ho
  rw [eb] at h
  refine (cut_c w b _ _ _ A _ c h (byte_le x) (byte_le y)).mono fun e w' ⟨he, hc, hF⟩ => ⟨A, (held x y r).length, c, by rw [he, e1], by rw [← eb]; exact own_fr ho hF hnob, ?_, ⟨rfl, 0, 0, hc, by omega, by omega⟩, fr_nil hF _⟩
  intro t ht
  rw [← eb] at ht
  exact ⟨fun e => hnob (by rw [ht, e]), by rw [eG, ht]; simp⟩
theorem own_ne {w : World} {B B' e e' z z' n n' : Nat} {v v' : Value} {xs xs' : List Value} (h : w.ownsRow B e z v n xs) (h' : w.ownsRow B' e' z' v' n' xs') (hne : e ≠ e') : ∀ t, v.ownBlock = some t → v'.ownBlock ≠ some t := by
  intro t ht ht'
  rcases h.2 with ⟨rfl, _⟩ | ⟨g, cap, cur, rfl, _, hh, _⟩
  · simp [Value.ownBlock] at ht
  · obtain rfl : g = t := by simpa [Value.ownBlock] using ht
    rcases h'.2 with ⟨rfl, _⟩ | ⟨g', cap', cur', rfl, _, hh', _⟩
    · simp [Value.ownBlock] at ht'
    · obtain rfl : g' = g := by simpa [Value.ownBlock] using ht'
      rw [hh] at hh'
      injection hh' with hh'; injection hh' with _ e _
      exact hne e

/-- The cells of frames, whose bodies lie in no block of S. -/
def FrC (w : World) (S : List Nat) : List (List UInt8 × Int) → List Value → Prop
  | [], xs => xs = []
  | f :: F, xs => ∃ A n c ys, xs = .slice A n c :: .int .i64 f.2 :: ys ∧ By w S (.slice A n c) f.1 ∧ FrC w S F ys
theorem FrC.map {w w' : World} {S S' : List Nat} (k : ∀ A n c l, By w S (.slice A n c) l → By w' S' (.slice A n c) l) : ∀ {F xs}, FrC w S F xs → FrC w' S' F xs
  | [], _, h => h
  | f :: F, _, ⟨A, n, c, ys, e, h1, h2⟩ => ⟨A, n, c, ys, e, k A n c _ h1, FrC.map k h2⟩
theorem FrC.app {w : World} {S : List Nat} : ∀ {F F' xs ys}, FrC w S F xs → FrC w S F' ys → FrC w S (F ++ F') (xs ++ ys)
  | [], _, _, _, h, h' => by cases h; exact h'
  | f :: F, _, _, _, ⟨A, n, c, ys, e, h1, h2⟩, h' => ⟨A, n, c, _, by rw [e]; rfl, h1, FrC.app h2 h'⟩
theorem FrC.len {w : World} {S : List Nat} : ∀ {F xs}, FrC w S F xs → xs.length = F.length * 2
  | [], _, h => by cases h; rfl
  | f :: F, _, ⟨A, n, c, ys, e, h1, h2⟩ => by rw [e]; simp [FrC.len h2]; omega
theorem FrC.one {w : World} {S : List Nat} : ∀ {F xs}, FrC w S F xs → ∀ u ∈ xs, u.oneCell' = true
  | [], _, h => by cases h; simp
  | f :: F, _, ⟨A, n, c, ys, e, h1, h2⟩ => by
    rw [e]; intro u hu
    simp only [List.mem_cons] at hu
    rcases hu with rfl | rfl | hu
    · rfl
    · rfl
    · exact FrC.one h2 u hu
theorem FrC.get {w : World} {S : List Nat} : ∀ {F xs} (i : Nat) (f : List UInt8 × Int), FrC w S F xs → F[i]? = some f → ∃ A n c, xs[i * 2]? = some (.slice A n c) ∧ xs[i * 2 + 1]? = some (.int .i64 f.2) ∧ By w S (.slice A n c) f.1
  | [], _, _, _, _, hf => by simp at hf
  | f :: F, _, 0, g, ⟨A, n, c, ys, e, h1, h2⟩, hf => by
    obtain rfl : f = g := by simpa using hf
    exact ⟨A, n, c, by rw [e]; rfl, by rw [e]; rfl, h1⟩
  | f :: F, _, i + 1, g, ⟨A, n, c, ys, e, h1, h2⟩, hf => by
    obtain ⟨A', n', c', e1, e2, h3⟩ := FrC.get i g h2 (by simpa using hf)
    refine ⟨A', n', c', ?_, ?_, h3⟩
    · rw [e, show (i + 1) * 2 = i * 2 + 1 + 1 by omega]; simpa using e1
    · rw [e, show (i + 1) * 2 + 1 = i * 2 + 1 + 1 + 1 by omega]; simpa using e2
/-- An own list of frames, whose bodies lie neither in S nor in the list's own block. -/
def OwnF (w : World) (B : Nat) (S : List Nat) (v : Value) (F : List (List UInt8 × Int)) : Prop := ∃ xs, w.ownsRow B 41 2 v F.length xs ∧ FrC w (v.ownBlock.toList ++ S) F xs
end Go.Proofs.Ytgjdgejljkhnlaa
