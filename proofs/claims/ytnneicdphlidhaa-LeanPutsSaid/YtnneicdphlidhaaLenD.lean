/-
  A helper of ours: no claim of its own. Layer 25 (lean): leans beside each other, and what many puts come to.
-/
import Derived.Test.YtnneicdphlidhaaLenC
import Derived.Test.YtnneicdphlidhaaArg
set_option linter.unusedVariables false
set_option linter.unusedSimpArgs false
namespace Go.Proofs.Ytnneicdphlidhaa
open Go.RowKit Floats
theorem lcell_later {W w : World} (h : Ext W w) {a : Addr} {v : Value} (hc : W.cell? a = some v) : w.cell? a = some v := (World.cell?_of_block (a := a) (h.block a.block (block_lt_of_cell hc))).trans hc
theorem lcell_fr {w w' : World} {S : List Nat} {b o : Nat} {u : Value} (k : Fr S w w') (hc : w.cell? ⟨b, o, none⟩ = some u) (hn : b ∉ S) : w'.cell? ⟨b, o, none⟩ = some u :=
  (World.cell?_of_block (a := ⟨b, o, none⟩) (k.block b (block_lt_of_cell hc) hn)).trans hc
/-- Pairs of numbers, where they lie. -/
theorem pr_form {w : World} {S : List Nat} {v : Value} {l : List (Int × Int)} (h : Sl w S 2 v l.length (ps l)) : ∃ A cap, v = .slice A l.length cap ∧ l.length ≤ cap ∧ cap ≤ maxLen ∧
    ∀ (i : Nat) (x : Int × Int), l[i]? = some x → ∃ b o, A = some ⟨b, o, none⟩ ∧ b ∉ S ∧ b < w.heap.size ∧ w.cell? ⟨b, o + i * 2, none⟩ = some (.int .i64 x.1) ∧ w.cell? ⟨b, o + i * 2 + 1, none⟩ = some (.int .i64 x.2) := by
  obtain ⟨A, cap, rfl, h1, h2, h3, h4⟩ := h
  refine ⟨A, cap, rfl, h1, h2, fun i x hx => ?_⟩
  obtain ⟨g0, g1⟩ := ps_get l i x hx
  rcases h4 with h4 | ⟨b, o, rfl, hb, hc⟩
  · rw [h4] at g0; cases g0
  · have c0 := hc _ _ g0
    have c1 := hc _ _ g1
    exact ⟨b, o, rfl, hb, block_lt_of_cell c0, c0, c1⟩
/-- Two leans that were made behind W0. -/
structure L2 (W0 w : World) (b c : Nat) (x y u v : Int) : Prop where
  fa : Ln w b x y
  fb : Ln w c u v
  ne : b ≠ c
  la : W0.heap.size ≤ b
  lb : W0.heap.size ≤ c
  fe : Ext W0 w
section
variable {W0 w w' : World} {b c d : Nat} {x y u v p q : Int}
theorem L2.later (h : L2 W0 w b c x y u v) (k : Ext w w') : L2 W0 w' b c x y u v := ⟨h.fa.ext k, h.fb.ext k, h.ne, h.la, h.lb, h.fe.trans k⟩
theorem L2.put1 (h : L2 W0 w b c x y u v) (t n : Int) : Calls Try.prog 23 #[.pointer (some ⟨b, 0, none⟩), .int .i64 t, .int .i64 n] w fun e w' => e = .returned (.int .i64 (lpE t n x y)) ∧ L2 W0 w' b c (lpX t n x y) (lpY t n x y) u v := by
  refine (lput_c t n b x y w h.fa).mono ?_
  rintro e w' ⟨rfl, h1, h2⟩
  exact ⟨rfl, h1, h.fb.fr h2 (by simp; exact fun e => h.ne e.symm), h.ne, h.la, h.lb, ext_fr h.fe h2 (by simp; exact h.la)⟩
theorem L2.put2 (h : L2 W0 w b c x y u v) (t n : Int) : Calls Try.prog 23 #[.pointer (some ⟨c, 0, none⟩), .int .i64 t, .int .i64 n] w fun e w' => e = .returned (.int .i64 (lpE t n u v)) ∧ L2 W0 w' b c x y (lpX t n u v) (lpY t n u v) := by
  refine (lput_c t n c u v w h.fb).mono ?_
  rintro e w' ⟨rfl, h1, h2⟩
  exact ⟨rfl, h.fa.fr h2 (by simp; exact h.ne), h1, h.ne, h.la, h.lb, ext_fr h.fe h2 (by simp; exact h.lb)⟩
end
/-- Three of them. -/
structure L3 (W0 w : World) (b c d : Nat) (x y u v p q : Int) : Prop where
  fa : Ln w b x y
  fb : Ln w c u v
  fc : Ln w d p q
  n1 : b ≠ c
  n2 : b ≠ d
  n3 : c ≠ d
  la : W0.heap.size ≤ b
  lb : W0.heap.size ≤ c
  lc : W0.heap.size ≤ d
  fe : Ext W0 w
section
variable {W0 w w' : World} {b c d : Nat} {x y u v p q : Int}
theorem L3.later (h : L3 W0 w b c d x y u v p q) (k : Ext w w') : L3 W0 w' b c d x y u v p q := ⟨h.fa.ext k, h.fb.ext k, h.fc.ext k, h.n1, h.n2, h.n3, h.la, h.lb, h.lc, h.fe.trans k⟩
theorem L3.put1 (h : L3 W0 w b c d x y u v p q) (t n : Int) : Calls Try.prog 23 #[.pointer (some ⟨b, 0, none⟩), .int .i64 t, .int .i64 n] w fun e w' => e = .returned (.int .i64 (lpE t n x y)) ∧ L3 W0 w' b c d (lpX t n x y) (lpY t n x y) u v p q := by
  refine (lput_c t n b x y w h.fa).mono ?_
  rintro e w' ⟨rfl, h1, h2⟩
  exact ⟨rfl, h1, h.fb.fr h2 (by simp; exact fun e => h.n1 e.symm), h.fc.fr h2 (by simp; exact fun e => h.n2 e.symm), h.n1, h.n2, h.n3, h.la, h.lb, h.lc, ext_fr h.fe h2 (by simp; exact h.la)⟩
theorem L3.put2 (h : L3 W0 w b c d x y u v p q) (t n : Int) : Calls Try.prog 23 #[.pointer (some ⟨c, 0, none⟩), .int .i64 t, .int .i64 n] w fun e w' => e = .returned (.int .i64 (lpE t n u v)) ∧ L3 W0 w' b c d x y (lpX t n u v) (lpY t n u v) p q := by
  refine (lput_c t n c u v w h.fb).mono ?_
  rintro e w' ⟨rfl, h1, h2⟩
  exact ⟨rfl, h.fa.fr h2 (by simp; exact h.n1), h1, h.fc.fr h2 (by simp; exact fun e => h.n3 e.symm), h.n1, h.n2, h.n3, h.la, h.lb, h.lc, ext_fr h.fe h2 (by simp; exact h.lb)⟩
theorem L3.put3 (h : L3 W0 w b c d x y u v p q) (t n : Int) : Calls Try.prog 23 #[.pointer (some ⟨d, 0, none⟩), .int .i64 t, .int .i64 n] w fun e w' => e = .returned (.int .i64 (lpE t n p q)) ∧ L3 W0 w' b c d x y u v (lpX t n p q) (lpY t n p q) := by
  refine (lput_c t n d p q w h.fc).mono ?_
  rintro e w' ⟨rfl, h1, h2⟩
  exact ⟨rfl, h.fa.fr h2 (by simp; exact h.n2), h.fb.fr h2 (by simp; exact h.n3), h1, h.n1, h.n2, h.n3, h.la, h.lb, h.lc, ext_fr h.fe h2 (by simp; exact h.lc)⟩
theorem L3.join (h : L3 W0 w b c d x y u v p q) : Calls Try.prog 31 #[.pointer (some ⟨b, 0, none⟩), .pointer (some ⟨c, 0, none⟩)] w fun e w' => e = .returned (.int .i64 (adE x y u v)) ∧ L3 W0 w' b c d (adX x y u v) (adY x y u v) u v p q := by
  refine (ljoin_c b c x y u v w h.fa h.fb).mono ?_
  rintro e w' ⟨rfl, h1, h2⟩
  exact ⟨rfl, h1, h.fb.fr h2 (by simp; exact fun e => h.n1 e.symm), h.fc.fr h2 (by simp; exact fun e => h.n2 e.symm), h.n1, h.n2, h.n3, h.la, h.lb, h.lc, ext_fr h.fe h2 (by simp; exact h.la)⟩
end
/-- What a put adds where nothing is too far. -/
def dE (p : Int × Int) : Int := if okN p.2 then p.2 * tE p.1 else 0
def dN (p : Int × Int) : Int := if okN p.2 then p.2 * tN p.1 else 0
def pE (l : List (Int × Int)) : Int := (l.map dE).sum
def pN (l : List (Int × Int)) : Int := (l.map dN).sum
theorem d_le (p : Int × Int) : -1048576 ≤ dE p ∧ dE p ≤ 1048576 ∧ -1048576 ≤ dN p ∧ dN p ≤ 1048576 := by
  unfold dE dN
  by_cases h : okN p.2
  · rw [if_pos h, if_pos h]; exact times_le _ _ h
  · rw [if_neg h, if_neg h]; omega
theorem p_le : ∀ l : List (Int × Int), -1048576 * (l.length : Int) ≤ pE l ∧ pE l ≤ 1048576 * (l.length : Int) ∧ -1048576 * (l.length : Int) ≤ pN l ∧ pN l ≤ 1048576 * (l.length : Int)
  | [] => by simp [pE, pN]
  | p :: r => by
    have h := p_le r
    have k := d_le p
    have e1 : pE (p :: r) = dE p + pE r := by simp [pE]
    have e2 : pN (p :: r) = dN p + pN r := by simp [pN]
    rw [e1, e2, List.length_cons]
    push_cast
    omega
theorem p_snoc {l : List (Int × Int)} {k : Nat} {p : Int × Int} (h : l[k]? = some p) : pE (l.take (k + 1)) = pE (l.take k) + dE p ∧ pN (l.take (k + 1)) = pN (l.take k) + dN p := by
  rw [List.take_add_one, h]
  simp [pE, pN]
theorem p_take (l : List (Int × Int)) (k : Nat) (hl : l.length ≤ 1000) : -1048576000 ≤ pE (l.take k) ∧ pE (l.take k) ≤ 1048576000 ∧ -1048576000 ≤ pN (l.take k) ∧ pN (l.take k) ≤ 1048576000 := by
  have h := p_le (l.take k)
  have : (l.take k).length ≤ 1000 := Nat.le_trans (by rw [List.length_take]; exact Nat.min_le_right _ _) hl
  omega
/-- A put near the middle. -/
theorem lp_near (p : Int × Int) {x y : Int} (hx : -9000000000 ≤ x ∧ x ≤ 9000000000) (hy : -9000000000 ≤ y ∧ y ≤ 9000000000) : lpX p.1 p.2 x y = x + dE p ∧ lpY p.1 p.2 x y = y + dN p ∧ (okN p.2 → lpE p.1 p.2 x y = 0) := by
  have k := d_le p
  unfold lpX lpY lpE
  by_cases h : okN p.2
  · have e1 : dE p = p.2 * tE p.1 := if_pos h
    have e2 : dN p = p.2 * tN p.1 := if_pos h
    have hf : farL (x + p.2 * tE p.1) (y + p.2 * tN p.1) = false := far_no.2 (by rw [← e1, ← e2]; omega)
    rw [hf, if_pos ⟨h, rfl⟩, if_pos ⟨h, rfl⟩, if_pos h, e1, e2]
    exact ⟨rfl, rfl, fun _ => by simp⟩
  · have e1 : dE p = 0 := if_neg h
    have e2 : dN p = 0 := if_neg h
    rw [if_neg (fun c => h c.1), if_neg (fun c => h c.1), e1, e2]
    exact ⟨by omega, by omega, fun c => absurd c h⟩
theorem d_neg (p : Int × Int) : dE (p.1, -p.2) = -dE p ∧ dN (p.1, -p.2) = -dN p := by
  unfold dE dN
  by_cases h : okN p.2
  · have h' : okN (-p.2) := by unfold okN at *; omega
    rw [if_pos h, if_pos h, if_pos h', if_pos h']
    exact ⟨Int.neg_mul _ _, Int.neg_mul _ _⟩
  · have h' : ¬ okN (-p.2) := by unfold okN at *; omega
    rw [if_neg h, if_neg h, if_neg h', if_neg h']
    exact ⟨rfl, rfl⟩
theorem sp_add (q : Int) (x y d e : Int) : spE q (x + d) (y + e) = spE q x y + (d * tE q - e * tN q) ∧ spN q (x + d) (y + e) = spN q x y + (d * tN q + e * tE q) := by
  unfold spE spN
  rcases turn_cases q with ⟨_, a, b⟩ | ⟨_, a, b⟩ | ⟨_, a, b⟩ | ⟨_, a, b⟩ <;> rw [a, b] <;> constructor <;> omega
theorem d_spun (q v n : Int) : dE (v + q, n) = dE (v, n) * tE q - dN (v, n) * tN q ∧ dN (v + q, n) = dE (v, n) * tN q + dN (v, n) * tE q := by
  obtain ⟨e1, e2⟩ := turn_add v q
  unfold dE dN
  simp only
  by_cases h : okN n
  · simp only [if_pos h, e1, e2]
    rcases turn_cases v with ⟨_, a, b⟩ | ⟨_, a, b⟩ | ⟨_, a, b⟩ | ⟨_, a, b⟩ <;> rcases turn_cases q with ⟨_, c, d⟩ | ⟨_, c, d⟩ | ⟨_, c, d⟩ | ⟨_, c, d⟩ <;> rw [a, b, c, d] <;> constructor <;> omega
  · simp only [if_neg h]
    constructor <;> omega
theorem sp_le (q : Int) {x y : Int} (hx : -1048576000 ≤ x ∧ x ≤ 1048576000) (hy : -1048576000 ≤ y ∧ y ≤ 1048576000) : (-1048576000 ≤ spE q x y ∧ spE q x y ≤ 1048576000) ∧ (-1048576000 ≤ spN q x y ∧ spN q x y ≤ 1048576000) := by
  unfold spE spN
  rcases turn_cases q with ⟨_, a, b⟩ | ⟨_, a, b⟩ | ⟨_, a, b⟩ | ⟨_, a, b⟩ <;> rw [a, b] <;> omega
theorem sp_four (x y : Int) : spE 4 x y = x ∧ spN 4 x y = y := by
  unfold spE spN
  rw [show tE 4 = 1 by decide, show tN 4 = 0 by decide]
  omega
theorem sp_zero (q : Int) : spE q 0 0 = 0 ∧ spN q 0 0 = 0 := by unfold spE spN; omega
/-- A lean by the code and one by the document, in a region in which both are put into. -/
def relQ (b r i j : Nat) (x y x' y' : Int) (Lf : Nat → Bool) (w : World) : Prop :=
  Ln w b (if Lf i = true then x' else x) (if Lf i = true then y' else y) ∧ Ld w r (if Lf j = true then x' else x) (if Lf j = true then y' else y)
section
variable {b r i j : Nat} {x y x' y' : Int}
theorem relQ_ext {L : Nat → Bool} {a c : World} (h : relQ b r i j x y x' y' L a) (k : Ext a c) : relQ b r i j x y x' y' L c := ⟨h.1.ext k, h.2.ext k⟩
theorem relQ_keys (L L' : Nat → Bool) (a : World) (hk : ∀ k, k ∈ [i, j] → L k = L' k) (h : relQ b r i j x y x' y' L a) : relQ b r i j x y x' y' L' a := by
  unfold relQ at *
  rw [← hk i (by simp), ← hk j (by simp)]; exact h
theorem relQ_all {L : Nat → Bool} {a : World} (h : relQ b r i j x y x' y' L a) (hi : L i = true) (hj : L j = true) : Ln a b x' y' ∧ Ld a r x' y' := by
  unfold relQ at h
  simp only [hi, hj, if_true] at h; exact h
theorem relQ_one {L : Nat → Bool} {a c : World} (hne : j ≠ i) (hbr : r ≠ b) (h : relQ b r i j x y x' y' L a) (hA : Ln c b x' y') (k : Fr [b] a c) : relQ b r i j x y x' y' (done L i) c := by
  refine ⟨?_, ?_⟩
  · simp only [show done L i i = true by simp [done], if_true]; exact hA
  · simp only [show done L i j = L j by simp [done, hne]]; exact h.2.fr k (by simp; exact hbr)
theorem relQ_two {L : Nat → Bool} {a c : World} (hne : i ≠ j) (hbr : b ≠ r) (h : relQ b r i j x y x' y' L a) (hR : Ld c r x' y') (k : Fr [r] a c) : relQ b r i j x y x' y' (done L j) c := by
  refine ⟨?_, ?_⟩
  · simp only [show done L j i = L i by simp [done, hne]]; exact h.1.fr k (by simp; exact hbr)
  · simp only [show done L j j = true by simp [done], if_true]; exact hR
theorem relQ_fst {L : Nat → Bool} {a : World} (h : relQ b r i j x y x' y' L a) (hi : L i = false) : Ln a b x y := by
  have := h.1; simpa only [hi, Bool.false_eq_true, if_false] using this
theorem relQ_snd {L : Nat → Bool} {a : World} (h : relQ b r i j x y x' y' L a) (hj : L j = false) : Ld a r x y := by
  have := h.2; simpa only [hj, Bool.false_eq_true, if_false] using this
end
end Go.Proofs.Ytnneicdphlidhaa
