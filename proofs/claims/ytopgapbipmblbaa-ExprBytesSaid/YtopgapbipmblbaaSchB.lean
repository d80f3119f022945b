/-
  A helper of ours: no claim of its own. Layer 7 (schema): columns in memory; the first column of a name, on both sides.
-/
import Derived.Test.YtopgapbipmblbaaSchA
import Derived.Test.YtopgapbipmblbaaRowA
import Derived.Test.YtopgapbipmblbaaValQ
import Derived.Test.YtopgapbipmblbaaRfw
set_option linter.unusedVariables false
set_option linter.unusedSimpArgs false
namespace Go.Proofs.Ytopgapbipmblbaa
open Go.RowKit
attribute [local go_sem] GW.cell GW.frozen In.eq_true In.le_true In.ne In.ne' In.ne_add In.ne_add' In.lt_add Upto.le_true Upto.le_add Upto.lt_add Oper.semAt_some wide_depth wide_fn
/-- A column's two cells. -/
def cc (a : Cl) : List Value := [.string a.1, .int .i64 a.2]
def cl (l : List Cl) : List Value := l.flatMap cc
theorem cl_length (l : List Cl) : (cl l).length = l.length * 2 := by
  induction l with
  | nil => rfl
  | cons p r ih => simp only [cl, cc, List.flatMap_cons, List.length_append, List.length_cons, List.length_nil] at ih ⊢; omega
theorem cl_append (l m : List Cl) : cl (l ++ m) = cl l ++ cl m := by simp [cl]
theorem cl_one (l : List Cl) : ∀ u ∈ cl l, u.oneCell' = true := by
  intro u hu
  simp only [cl, List.mem_flatMap, cc] at hu
  obtain ⟨a, _, hu⟩ := hu
  simp at hu
  rcases hu with rfl | rfl <;> rfl
theorem cl_get : ∀ (l : List Cl) (i : Nat) (a : Cl), l[i]? = some a → ∀ j v, (cc a)[j]? = some v → (cl l)[i * 2 + j]? = some v
  | q :: r, 0, a, h, j, v, hv => by
    simp at h; subst h
    have hj : j < (cc q).length := (List.getElem?_eq_some_iff.1 hv).1
    simp only [cl, List.flatMap_cons]
    rw [List.getElem?_append_left (by omega), show 0 * 2 + j = j by omega]; exact hv
  | q :: r, i + 1, a, h, j, v, hv => by
    have := cl_get r i a (by simpa using h) j v hv
    rw [show (i + 1) * 2 + j = i * 2 + j + 1 + 1 by omega]
    simpa [cl, cc] using this
/-- A schema, where it lies. -/
abbrev Cw (w : World) (S : List Nat) (v : Value) (l : List Cl) : Prop := Sl w S 2 v l.length (cl l)
abbrev OwnC (w : World) (base : Nat) (v : Value) (l : List Cl) : Prop := w.ownsRow base 63 2 v l.length (cl l)
theorem cw_form {w : World} {S : List Nat} {v : Value} {l : List Cl} (h : Cw w S v l) : ∃ A cap, v = .slice A l.length cap ∧ l.length ≤ cap ∧ cap ≤ maxLen ∧
    ∀ (i : Nat) (x : Cl), l[i]? = some x → ∃ b o, A = some ⟨b, o, none⟩ ∧ b ∉ S ∧ b < w.heap.size ∧ w.cell? ⟨b, o + i * 2, none⟩ = some (.string x.1) ∧ w.cell? ⟨b, o + i * 2 + 1, none⟩ = some (.int .i64 x.2) := by
  obtain ⟨A, cap, rfl, h1, h2, h3, h4⟩ := h
  refine ⟨A, cap, rfl, h1, h2, fun i x hx => ?_⟩
  have hg := cl_get l i x hx
  rcases h4 with h4 | ⟨b, o, rfl, hb, hc⟩
  · have := hg 0 _ rfl; rw [h4] at this; cases this
  · have c0 := hc _ _ (hg 0 _ rfl)
    have c1 := hc _ _ (hg 1 _ rfl)
    exact ⟨b, o, rfl, hb, block_lt_of_cell c0, c0, c1⟩
set_option maxHeartbeats 1000000 in
theorem names_c (A : Option Addr) (n cap : Nat) (w : World) : Calls Try.prog 94 #[.slice A n cap] w fun e w' => ∃ b, e = .returned (.func (.func 109) #[] #[.pointer (some ⟨b, 0, none⟩)]) ∧ Ob w' b 47 [.slice A n cap] ∧ w.heap.size ≤ b ∧ Ext w w' := by
  go_enter Try.func94, Try.ntmps94
  go_wp2_with fail
  go_returns
  exact ⟨_, rfl, Ob.new w _ [.slice A n cap], Nat.le_refl _, (Ext.refl w).alloc _⟩
set_option maxHeartbeats 4000000 in
set_option maxRecDepth 100000 in
theorem names_seq (l : List Cl) (v : Value) (w0 w : World) (b : Nat) (hC : Cw w0 [] v l) (hX : Ext w0 w) (hb : Ob w b 47 [v]) :
    Seqs Try.prog w0.heap.size 109 #[.pointer (some ⟨b, 0, none⟩)] (fun (x : Cl × Nat) vs _ => vs = #[.int .i64 x.2, .string x.1.1]) l.zipIdx w := by
  intro L J Jx W hW hJ hJx hY h0
  obtain ⟨A, cap, rfl, hlc, hlm, hat⟩ := cw_form hC
  unfold maxLen at hlm
  replace hat := hide hat
  have q0 := (hb.ext hW).cell 0 rfl
  have hz0 := hX.size
  have hz1 := hW.size
  replace hW := hide (hX.trans hW)
  have hJ' := hide hJ
  have hY' := hide hY
  clear hJ hY hb hC hX
  refine (callsIn_wide (n := 1)).1 ?_
  refine callsIn_of_wp Try.func109 rfl trivial ?_ rfl
  simp only [Try.ntmps109, List.size_toArray, List.length_cons, List.length_nil, Nat.reduceAdd, Nat.reduceSub, Array.replicate_succ, Array.replicate_zero, List.push_toArray, List.append_toArray, List.nil_append, List.cons_append]
  gi_wp2
  gi_loopw [7] (fun i wr => ∃ k : Nat, i = .int .i64 k ∧ k ≤ l.length ∧ Hid (J k wr) ∧ Below w0.heap.size W wr) (fun i _ => l.length - (intOf i).toNat)
  case atStart => exact ⟨0, rfl, Nat.zero_le _, h0, Below.refl _ _⟩
  case round =>
    obtain ⟨k, rfl, hk, hJk, hB⟩ := hrel
    by_cases hlt : k < l.length
    · obtain ⟨x, hx⟩ : ∃ x, l[k]? = some x := ⟨_, List.getElem?_eq_getElem hlt⟩
      obtain ⟨b', o', rfl, -, hb', c0, c1⟩ := hat.out k x hx
      have k0 := (hB.cell (p := ⟨b', o' + k * 2, none⟩) hb').trans (cell_later hW.out c0)
      have k1 := (hB.cell (p := ⟨b', o' + k * 2 + 1, none⟩) hb').trans (cell_later hW.out c1)
      have hbr : b' < wr.heap.size := block_lt_of_cell k0
      obtain ⟨xn, xk⟩ := x
      obtain ⟨fn, tmps, assign, body, hy, hR⟩ := hY'.out k ((xn, xk), k) #[.int .i64 k, .string xn] (wr.alloc (.cells #[.string xn, .int .i64 xk] 63)) (by rw [List.getElem?_zipIdx, hx]; simp) (hJ'.out _ _ _ hJk.out ((Ext.refl wr).alloc _)) rfl
      have hzB := hB.size
      replace hR := hide hR
      clear c0 c1 hat hx q0
      gi_wp2
      refine hR.out.mono ?_
      rintro e W3 (⟨rfl, hJ3, hk3⟩ | ⟨rfl, hJx3⟩)
      · replace hJ3 := hide hJ3
        replace hk3 := hide hk3
        gi_wp2
        go_roundw
        case rel => exact ⟨k + 1, by go_num, by omega, hJ3, hB.trans ((Below.alloc (Below.refl _ _) (by omega) _).trans hk3.out)⟩
        case measure => simp [intOf]; omega
      · replace hJx3 := hide hJx3
        gi_wp2
        refine bodyPost_ret (results_none rfl _ _ _) rfl ?_
        exact ⟨⟨_, rfl⟩, .inr ⟨k + 1, by rw [List.length_zipIdx]; omega, hJx3.out⟩⟩
    · have hk' : k = l.length := by omega
      have hge : (l.length : Int) ≤ k := by omega
      have hJe : Hid (J l.zipIdx.length wr) := by show J _ wr; rw [List.length_zipIdx, ← hk']; exact hJk.out
      replace hk' := hide hk'
      clear q0
      gi_wp2
      go_end0
      exact ⟨⟨_, rfl⟩, .inl hJe.out⟩
theorem str_ne {s t : ByteArray} (h : ¬ s = t) : (s.toList == t.toList) = false := by rw [beq_eq_false_iff_ne]; exact fun e => h (toList_iff.1 e)
set_option maxHeartbeats 1000000 in
theorem index1_c (s n : ByteArray) (b : Nat) (w : World) (hb : Ob w b 9 [.string n]) : Calls Try.prog 111 #[.string s, .pointer (some ⟨b, 0, none⟩)] w fun e w' => e = .returned (.bool (decide (s = n))) ∧ Ext w w' := by
  have q0 := hb.cell 0 rfl
  clear hb
  by_cases h : s = n
  · subst h
    rw [decide_eq_true rfl]
    go_enter Try.func111, Try.ntmps111
    go_wp2_with fail
    go_returns
    exact ⟨by first | rfl | simp, Ext.refl w⟩
  · rw [decide_eq_false h]
    have h2 := str_ne h
    clear h
    go_enter Try.func111, Try.ntmps111
    go_wp2_with fail
    go_returns
    exact ⟨by first | rfl | simp [h2], Ext.refl w⟩
end Go.Proofs.Ytopgapbipmblbaa
