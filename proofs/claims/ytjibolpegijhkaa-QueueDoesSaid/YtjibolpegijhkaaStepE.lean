/-
  A helper of ours: no claim of its own. Layer 9 (step): the other sign, and parts, by the code.
-/
import Derived.Test.YtjibolpegijhkaaStepC
set_option linter.unusedVariables false
set_option linter.unusedSimpArgs false
namespace Go.Proofs.Ytjibolpegijhkaa
open Go.RowKit
attribute [local go_sem] GW.cell GW.frozen In.eq_true In.le_true In.ne In.ne' In.ne_add In.ne_add' In.lt_add Upto.le_true Upto.le_add Upto.lt_add
attribute [-go_sem] sliced
attribute [local go_sem] sliced_eq
theorem ps_take (l : List Jp) : ∀ n, (ps l).take (n * 2) = ps (l.take n) := by
  induction l with
  | nil => intro n; simp [ps]
  | cons p r ih =>
    intro n
    rcases n with _ | n
    · simp [ps]
    · rw [show (n + 1) * 2 = n * 2 + 1 + 1 by omega]
      simpa [ps] using ih n
theorem jw_drop {w : World} {S : List Nat} {A : Option Addr} {cap : Nat} {l : List Jp} (h : Jw w S (.slice A l.length cap) l) (k : Nat) (hk : k ≤ l.length) : Jw w S (.slice (cutA A k cap 2) (l.length - k) (cap - k)) (l.drop k) := by
  obtain ⟨_, c, e, h1, h2, h3, h4⟩ := id h
  simp only [Value.slice.injEq] at e
  obtain ⟨rfl, -, rfl⟩ := e
  have hc := h.cut k l.length cap hk (Nat.le_refl _) h1 (Nat.le_refl _)
  rw [sliced_eq, List.take_of_length_le (by rw [ps_length]; omega), ps_drop] at hc
  unfold Jw
  rw [List.length_drop]
  exact hc
theorem jw_take {w : World} {S : List Nat} {A : Option Addr} {cap : Nat} {l : List Jp} (h : Jw w S (.slice A l.length cap) l) (k : Nat) (hk : k ≤ l.length) : Jw w S (.slice (cutA A 0 cap 2) k cap) (l.take k) := by
  obtain ⟨_, c, e, h1, h2, h3, h4⟩ := id h
  simp only [Value.slice.injEq] at e
  obtain ⟨rfl, -, rfl⟩ := e
  have hl : (l.take k).length = k := by rw [List.length_take]; omega
  have hc := h.cut 0 k k (Nat.zero_le _) hk (Nat.le_refl _) (by omega)
  have hc := h.cut 0 k cap (Nat.zero_le _) hk (by omega) (Nat.le_refl _)
  rw [sliced_eq, Nat.zero_mul, List.drop_zero, ps_take] at hc
  unfold Jw
  rw [hl]
  exact hc
theorem src_jmpAt {P : Program} {tx e' : TypeId} (hk : P.underlying tx = some (.slice e')) (w : World) (B : Nat) (hB : B = w.heap.size) (x : Jp) (E : TypeId) : Src P 2 tx (.slice (some ⟨B, 0, none⟩) 1 1) 1 (ps [x]) (w.alloc (.cells #[.int .i64 x.1, .int .i64 x.2] E)) := by
  subst hB; exact src_jmp hk w x E
theorem cut_at {l : List Jp} {k : Nat} {t : Int} (hl : ∀ j ∈ l.take k, j.1 < t) (hx : ∀ x, l[k]? = some x → t ≤ x.1) : cutL l t = l.take k ∧ cutR l t = l.drop k := by
  unfold cutL cutR
  induction l generalizing k with
  | nil => simp
  | cons a r ih =>
    rcases k with _ | k
    · have h := hx a rfl
      rw [List.takeWhile_cons, List.dropWhile_cons, if_neg (by simp; omega), if_neg (by simp; omega)]
      exact ⟨rfl, rfl⟩
    · have h := hl a (by simp)
      obtain ⟨i1, i2⟩ := ih (k := k) (fun j hj => hl j (by simp [hj])) (fun x hx' => hx x (by simpa using hx'))
      rw [List.takeWhile_cons, List.dropWhile_cons, if_pos (by simpa using h), if_pos (by simpa using h), i1, i2]
      exact ⟨rfl, rfl⟩
theorem ng_next {l : List Jp} {k : Nat} {x : Jp} (hx : l[k]? = some x) : ngL (l.take (k + 1)) = ngL (l.take k) ++ [(x.1, -x.2)] := by
  rw [take_snoc hx]; simp [ngL]
end Go.Proofs.Ytjibolpegijhkaa
