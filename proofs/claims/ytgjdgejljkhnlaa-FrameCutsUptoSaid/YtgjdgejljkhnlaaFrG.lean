/-
  A helper of ours: no claim of its own. Layer 4 (frame): the document's frames of bytes; lists of frames held against one another.
-/
import Derived.Test.YtgjdgejljkhnlaaFrL
import Derived.Deep.Quiet
import Derived.BigQuiet
set_option linter.unusedVariables false
set_option linter.unusedSimpArgs false
namespace Go.Proofs.Ytgjdgejljkhnlaa
open Go.RowKit
attribute [local go_sem] GW.cell GW.frozen In.eq_true In.le_true In.ne In.ne' In.ne_add In.ne_add' In.lt_add Upto.le_true Upto.le_add Upto.lt_add
attribute [-go_sem] sliced
attribute [local go_sem] sliced_eq
theorem tGFrames : ElemT Try.prog 34 49 (.agg #[.slice none 0 0, .int .i64 0]) 2 32 := ElemT.mk' Try.underlying34 (by kernel_rfl) rfl (by omega)
/-- While All runs. -/
def AI (w : World) (Z : List (List UInt8 × Int) × List UInt8) (wr : World) (v L : Value) (l : List UInt8) (F : List (List UInt8 × Int)) : Prop :=
  By w [] v l ∧ (∃ xs, wr.ownsRow w.heap.size 49 2 L F.length xs ∧ FrC w [] F xs) ∧ Ext w wr ∧ Z = (F ++ (cutAll l).1, (cutAll l).2)
theorem AI.put {w w2 w3 : World} {Z : List (List UInt8 × Int) × List UInt8} {v' L v3 : Value} {l l' m : List UInt8} {e : Int} {F : List (List UInt8 × Int)} {xs : List Value} {A : Option Addr} {n c : Nat} {o : Obj} (k0 : By w [] v' l') (kb : By w [] (.slice A n c) m) (kc : FrC w [] F xs) (kx : Ext w w2)
    (k3 : w2.ownsRow w.heap.size 49 2 L F.length xs) (kz : Z = (F ++ (cutAll l).1, (cutAll l).2)) (hl : cutAll l = ((m, e) :: (cutAll l').1, (cutAll l').2))
    (ho3 : w3.ownsRow w.heap.size 49 2 v3 (F.length + 1) (xs ++ [.slice A n c, .int .i64 e])) (hg3 : (w2.alloc o).grownBy w3 L.ownBlock) : AI w Z w3 v' v3 l' (F ++ [(m, e)]) := by
  refine ⟨k0, ⟨_, by rw [List.length_append]; exact ho3, kc.app ⟨A, n, c, [], rfl, kb, rfl⟩⟩, ext_grown (kx.alloc o) hg3 (fun k hk => (k3.lt k hk).1), ?_⟩
  rw [kz, hl]; simp
theorem by_part {w : World} {A : Option Addr} {cap N : Nat} {x y : UInt8} {r : List UInt8} (h : By w [] (.slice A (r.length + 2) cap) (x :: y :: r)) (hN : N ≤ r.length) :
    By w [] (.slice (cutA A 2 cap 1) N (cap - 2)) (r.take N) ∧ By w [] (.slice (cutA A (2 + N) cap 1) (r.length + 2 - (2 + N)) (cap - (2 + N))) (r.drop N) := by
  have h' : Sl w [] 1 (.slice A (r.length + 2) cap) (r.length + 2) (bs (x :: y :: r)) := h
  obtain ⟨_, _, e, hc, hm, _⟩ := id h'
  simp only [Value.slice.injEq, true_and] at e
  obtain ⟨rfl, rfl⟩ := e
  constructor
  · have p1 := h'.cut 2 (2 + N) cap (by omega) (by omega) (by omega) (Nat.le_refl _)
    rw [sliced_eq, Nat.mul_one, Nat.mul_one, bs_take, bs_drop, show 2 + N - 2 = N by omega] at p1
    have e1 : ((x :: y :: r).take (2 + N)).drop 2 = r.take N := by rw [show 2 + N = N + 2 by omega]; simp
    rw [e1] at p1
    unfold By; rw [List.length_take, Nat.min_eq_left hN]; exact p1
  · have p1 := h'.cut (2 + N) (r.length + 2) cap (by omega) (Nat.le_refl _) hc (Nat.le_refl _)
    rw [sliced_eq, Nat.mul_one, Nat.mul_one, List.take_of_length_le (by rw [bs_length]; exact Nat.le_refl _), bs_drop] at p1
    have e1 : (x :: y :: r).drop (2 + N) = r.drop N := by rw [show 2 + N = N + 2 by omega]; rfl
    rw [e1] at p1
    unfold By; rw [List.length_drop, show r.length - N = r.length + 2 - (2 + N) by omega]; exact p1
set_option maxHeartbeats 2000000 in
set_option maxRecDepth 100000 in
theorem all_c (w : World) (v : Value) (l : List UInt8) (hv : By w [] v l) (hl : l.length ≤ 4398046511104) :
    Calls Try.prog 12 #[v] w fun e w' => ∃ L xs, e = .returned (.tuple #[L, .int .i64 (cutAll l).2.length]) ∧ w'.ownsRow w.heap.size 49 2 L (cutAll l).1.length xs ∧ FrC w' [] (cutAll l).1 xs ∧ Ext w w' := by
  have hq : 2 * (cutAll l).1.length ≤ 4398046511104 := by have := cut_count _ l (Nat.le_refl _); omega
  have hown0 : (w.alloc (Obj.cells #[] 49)).ownsRow w.heap.size 49 2 (.slice (some ⟨w.heap.size, 0, none⟩) 0 0) 0 [] := World.ownsRow_made w #[] 0 (Nat.le_refl _) (Nat.zero_le _) rfl
  have hA : AI w (cutAll l) (w.alloc (Obj.cells #[] 49)) v (.slice (some ⟨w.heap.size, 0, none⟩) 0 0) l [] := ⟨hv, ⟨[], hown0, rfl⟩, (Ext.refl w).alloc _, by simp⟩
  replace hA := hide hA
  replace hq := hide hq
  clear hown0 hv hl
  generalize cutAll l = Z at hA hq ⊢
  go_enter Try.func12, Try.ntmps12
  go_wp2_with fail
  go_loopg [0, 4, 5] l.length (fun g vb L n wr => ∃ (l' : List UInt8) (F : List (List UInt8 × Int)), l'.length = g ∧ Hid (AI w Z wr vb L l' F))
  case atStart => exact ⟨l, [], rfl, hA⟩
  case round =>
    obtain ⟨l1, F, hg, hA1⟩ := hrel
    subst hg
    clear hA
    obtain ⟨k0, ⟨xs, k1, k2⟩, k3, k4⟩ := hA1.out
    obtain ⟨A, cap, rfl, hlc, hcm, -, hcell⟩ := id k0
    unfold maxLen at hcm
    have hF : 2 * F.length ≤ 4398046511104 := by have := hq.out; rw [k4] at this; simp at this; omega
    obtain ⟨A4, c4, rfl⟩ := own_form k1
    have k1w := hide k1
    replace k4 := hide k4
    replace k0 := hide k0
    replace k2 := hide k2
    match l1, k0, k4, hlc, hcell, hA1 with
    | [], k0, k4, hlc, hcell, hA1 =>
      clear hcell hA1
      have h4 := k4.out
      rw [cut_nil, List.append_nil] at h4
      replace h4 := hide h4
      rw [show ([] : List UInt8).length = 0 from rfl] at hlc ⊢
      go_wp2_with fail
      go_returns
      rw [h4.out]
      exact ⟨_, rfl, xs, k1, k2.out.map (fun A n c l h => Sl.ext h k3), k3⟩
    | [x], k0, k4, hlc, hcell, hA1 =>
      clear hcell hA1
      have h4 := k4.out
      rw [cut_one', List.append_nil] at h4
      replace h4 := hide h4
      rw [show ([x] : List UInt8).length = 1 from rfl] at hlc ⊢
      go_wp2_with fail
      go_returns
      rw [h4.out]
      exact ⟨_, rfl, xs, k1, k2.out.map (fun A n c l h => Sl.ext h k3), k3⟩
    | x :: y :: r, k0, k4, hlc, hcell, hA1 =>
      obtain ⟨b0, o0, rfl, hc0, hc1⟩ : ∃ b o, A = some ⟨b, o, none⟩ ∧ w.cell? ⟨b, o, none⟩ = some (.int .u8 x.toNat) ∧ w.cell? ⟨b, o + 1, none⟩ = some (.int .u8 y.toNat) := by
        rcases hcell with h | ⟨b, o, rfl, _, hc⟩
        · simp [bs] at h
        · exact ⟨b, o, rfl, hc 0 _ rfl, hc 1 _ rfl⟩
      replace hc0 := (World.cell?_of_block (a := ⟨b0, o0, none⟩) (k3.block b0 (block_lt_of_cell hc0))).trans hc0
      replace hc1 := (World.cell?_of_block (a := ⟨b0, o0 + 1, none⟩) (k3.block b0 (block_lt_of_cell hc1))).trans hc1
      clear hcell
      obtain ⟨N, hN⟩ : ∃ N, N = flen x y := ⟨_, rfl⟩
      have hN1 : (x.toNat : Int) * 256 + y.toNat = N := by rw [hN]; unfold flen; omega
      have hN2 : N ≤ 65535 := by rw [hN]; unfold flen; have := x.toNat_lt; have := y.toNat_lt; omega
      have hb0 := byte_le x
      have hb1 := byte_le y
      have hlen : (x :: y :: r).length = r.length + 2 := rfl
      rw [hlen] at hlc ⊢
      by_cases hr : r.length < N
      · have hrI : (r.length : Int) + 2 < 2 + N := by omega
        have h4 := k4.out
        rw [cut_lt (by omega), List.append_nil] at h4
        replace h4 := hide h4
        go_wp2_with fail
        go_quiet (fail)
        go_wp2_with fail
        go_returns
        rw [h4.out]
        exact ⟨_, xs, rfl, k1w.out, k2.out.map (fun A n c l h => Sl.ext h (k3.drewN _)), k3.drewN _⟩
      · have hrI : ¬ ((r.length : Int) + 2 < 2 + N) := by omega
        by_cases hb : 4096 < N
        · have hbI : (4096 : Int) < N := by omega
          go_wp2_with fail
          go_quiet (fail)
          go_wp2_with (at_builtin; refine wpl_app tGFrames rfl (.tmp 30) (.tmp 32) rfl rfl (hown_alloc (own_ext k1w.out ((Ext.refl wr).drewN _)) _) rfl (src_two Try.underlying34 (wr.drewN nq) _ _ _ rfl rfl) (by unfold maxLen; omega) (by omega) (by simp only [World.size_alloc]; exact Nat.le_succ_of_le k3.size) ?_; intro v3 w3 ho3 hg3 hd3)
          go_roundg (r.length - flen x y)
          case measure => simp only [List.length_cons]; omega
          case rel =>
            subst hN
            obtain ⟨kb, kr⟩ := by_part (N := flen x y) k0.out (by omega)
            refine ⟨r.drop (flen x y), F ++ [([], 6)], by rw [List.length_drop], hide (AI.put kr (Sl.nil _ _ _) k2.out (k3.drewN _) (own_ext k1w.out ((Ext.refl wr).drewN _)) k4.out ?_ ho3 hg3)⟩
            rw [cut_ge (by omega)]
            unfold held ferr
            rw [if_neg (by omega), if_pos hb]
        · have hbI : (N : Int) ≤ 4096 := by omega
          go_wp2_with fail
          go_quiet (fail)
          go_wp2_with (at_builtin; refine wpl_app tGFrames rfl (.tmp 34) (.tmp 40) rfl rfl (hown_alloc (own_ext k1w.out ((Ext.refl wr).drewN _)) _) rfl (src_two Try.underlying34 (wr.drewN nq) _ _ _ rfl rfl) (by unfold maxLen; omega) (by omega) (by simp only [World.size_alloc]; exact Nat.le_succ_of_le k3.size) ?_; intro v3 w3 ho3 hg3 hd3)
          go_roundg (r.length - flen x y)
          case measure => simp only [List.length_cons]; omega
          case rel =>
            subst hN
            obtain ⟨kb, kr⟩ := by_part (N := flen x y) k0.out (by omega)
            refine ⟨r.drop (flen x y), F ++ [(r.take (flen x y), 0)], by rw [List.length_drop], hide (AI.put kr kb k2.out (k3.drewN _) (own_ext k1w.out ((Ext.refl wr).drewN _)) k4.out ?_ ho3 hg3)⟩
            rw [cut_ge (by omega)]
            unfold held ferr
            rw [if_pos (by omega), if_neg hb]
theorem own_cells {w : World} {B e : Nat} {L : Value} {F : List (List UInt8 × Int)} {xs : List Value} {S : List Nat} (h1 : w.ownsRow B e 2 L F.length xs) (h2 : FrC w S F xs) {i : Nat} {f : List UInt8 × Int} (hf : F[i]? = some f) :
    ∃ g cap A n c, L = .slice (some ⟨g, 0, none⟩) F.length cap ∧ w.cell? ⟨g, i * 2, none⟩ = some (.slice A n c) ∧ w.cell? ⟨g, i * 2 + 1, none⟩ = some (.int .i64 f.2) ∧ By w S (.slice A n c) f.1 := by
  obtain ⟨A, n, c, e1, e2, hB⟩ := h2.get i f hf
  rcases id h1.2 with ⟨_, h0⟩ | ⟨g, cap, cur, rfl, hb, _⟩
  · have : F = [] := List.eq_nil_of_length_eq_zero h0
    subst this; simp at hf
  · have hc := h1.cells (g := g) rfl
    refine ⟨g, cap, A, n, c, rfl, ?_, ?_, hB⟩
    · have := hc _ _ e1; rw [add_plain] at this; simpa using this
    · have := hc _ _ e2; rw [add_plain] at this; simpa using this
set_option maxHeartbeats 2000000 in
set_option maxRecDepth 100000 in
theorem alike_c (w : World) (B B' e e' : Nat) (L M : Value) (F : List (List UInt8 × Int)) (xs ys : List Value) (hF : F.length ≤ 4398046511104) (h1 : w.ownsRow B e 2 L F.length xs) (h2 : FrC w [] F xs) (h3 : w.ownsRow B' e' 2 M F.length ys) (h4 : FrC w [] F ys) :
    Calls Try.prog 13 #[L, M] w fun e w' => e = .returned (.bool true) ∧ Ext w w' := by
  obtain ⟨A, cap, eL⟩ := own_form h1
  obtain ⟨A', cap', eM⟩ := own_form h3
  have hat := hide (fun i f (hf : F[i]? = some f) => own_cells h1 h2 hf)
  have hbt := hide (fun i f (hf : F[i]? = some f) => own_cells h3 h4 hf)
  subst eL
  subst eM
  clear h1 h2 h3 h4
  go_enter Try.func13, Try.ntmps13
  go_wp2_with fail
  go_loopg [5] F.length (fun g i wr => ∃ k : Nat, i = .int .i64 k ∧ k + g = F.length ∧ Ext w wr)
  case atStart => exact ⟨0, rfl, by omega, Ext.refl w⟩
  case round =>
    obtain ⟨k, rfl, hk, hX⟩ := hrel
    by_cases hlt : k < F.length
    · obtain ⟨f, hf⟩ : ∃ f, F[k]? = some f := ⟨_, List.getElem?_eq_getElem hlt⟩
      obtain ⟨g1, cp1, A1, n1, c1, e1, q1, q2, q3⟩ := hat.out k f hf
      obtain ⟨g2, cp2, A2, n2, c2, e2, r1, r2, r3⟩ := hbt.out k f hf
      simp only [Value.slice.injEq, true_and] at e1 e2
      obtain ⟨rfl, rfl⟩ := e1
      obtain ⟨rfl, rfl⟩ := e2
      have hcell : ∀ {b o v}, w.cell? ⟨b, o, none⟩ = some v → wr.cell? ⟨b, o, none⟩ = some v := fun {b o v} h => (World.cell?_of_block (a := ⟨b, o, none⟩) (hX.block b (block_lt_of_cell h))).trans h
      replace q1 := hcell q1
      replace q2 := hcell q2
      replace r1 := hcell r1
      replace r2 := hcell r2
      have hc1 : ∀ n, (convert 22 9 (.slice A1 n1 c1)).run Try.prog (wr.drewN n) = .ok (.string ⟨f.1.toArray⟩) (wr.drewN n) := fun n => run_str Try.underlying22 Try.underlying5 Try.underlying9 (Sl.ext (S := []) q3 (hX.drewN n))
      have hc2 : ∀ n, (convert 22 9 (.slice A2 n2 c2)).run Try.prog (wr.drewN n) = .ok (.string ⟨f.1.toArray⟩) (wr.drewN n) := fun n => run_str Try.underlying22 Try.underlying5 Try.underlying9 (Sl.ext (S := []) r3 (hX.drewN n))
      clear q3 r3 hcell
      replace hf := hide hf
      go_wp2_with fail
      go_quiet (fail)
      go_wp2_with fail
      go_roundg (F.length - (k + 1))
      case measure => omega
      case rel => exact ⟨k + 1, by go_num, by omega, hX.drewN _⟩
    · have hge : (F.length : Int) ≤ k := by omega
      go_wp2_with fail
      go_returns
      exact ⟨rfl, hX⟩
end Go.Proofs.Ytgjdgejljkhnlaa
