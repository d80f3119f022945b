/-
  A helper of ours: no claim of its own. Layer 4 (frame): the cutter takes bytes of a body.
-/
import Derived.Test.YtgjdgejljkhnlaaFrB
import Derived.Laws.IdiomCopy
set_option linter.unusedVariables false
set_option linter.unusedSimpArgs false
namespace Go.Proofs.Ytgjdgejljkhnlaa
open Go.RowKit
attribute [local go_sem] GW.cell GW.frozen In.eq_true In.le_true In.ne In.ne' In.ne_add In.ne_add' In.lt_add Upto.le_true Upto.le_add Upto.lt_add
set_option maxHeartbeats 1000000 in
theorem take_skip (w : World) (b : Nat) (k h0 h1 : Int) (A : Option Addr) (n c : Nat) (h : Cu w b k h0 h1 (.slice A n c)) (b0 : 0 ≤ h0 ∧ h0 ≤ 255) (b1 : 0 ≤ h1 ∧ h1 ≤ 255) (hk : 2 ≤ k ∧ k ≤ 1000000) (hn : 4096 < h0 * 256 + h1) (v : Value) (S : List Nat) (l : List UInt8) (hl : l.length ≤ 1000000) (hv : By w S v l) : Calls Try.prog 16 #[.pointer (some ⟨b, 0, none⟩), v] w fun e w' => e = .returned (.tuple #[]) ∧ Cu w' b (k + l.length) h0 h1 (.slice A n c) ∧ Fr [b] w w' := by
  obtain ⟨A', c', rfl, -⟩ := hv
  have c0 := h.cell 0 rfl
  have z0 := h.free 0
  have hlt := h.lt
  haveI : In b w := ⟨hlt⟩
  have hL := hide (length_c w b k h0 h1 (.slice A n c) h b0 b1)
  obtain ⟨N, hn'⟩ : ∃ N, N = h0 * 256 + h1 := ⟨_, rfl⟩
  rw [← hn'] at hL hn
  clear hn' b0 b1
  go_enter Try.func16, Try.ntmps16
  go_wp2_with (go_at_call 18; refine seq_gw hL.out ?_; intro g)
  go_end0
  refine ⟨rfl, ?_, ?_⟩
  · have h2 := (h.ext g.grown).set 0 (.int .i64 (k + l.length))
    unfold Cu
    exact h2
  · have hF : Fr [b] w g.val := Fr.of_ext g.grown
    have m : b ∈ [b] := by simp
    exact Fr.setCell hF _ _ (.inl m)
theorem own_set {w : World} {B e size n : Nat} {v : Value} {xs : List Value} {b : Nat} (h : w.ownsRow B e size v n xs) (o : Nat) (u : Value) (hne : v.ownBlock ≠ some b) : (w.setCell ⟨b, o, none⟩ u).ownsRow B e size v n xs :=
  h.kept (World.grownBy.mk (row := some b) rfl rfl rfl (by simp) fun i hi hn => Below.heap_setCell w ⟨b, o, none⟩ u i (fun e => hn (by rw [e]))) (.inr hne)
set_option maxHeartbeats 1000000 in
theorem take_more (w : World) (b B : Nat) (k h0 h1 : Int) (body : Value) (p : List UInt8) (h : Cu w b k h0 h1 body) (ho : OwnB w B body p) (hB : B ≤ w.heap.size) (b0 : 0 ≤ h0 ∧ h0 ≤ 255) (b1 : 0 ≤ h1 ∧ h1 ≤ 255) (hk : 2 ≤ k ∧ k ≤ 1000000) (hn : h0 * 256 + h1 ≤ 4096) (v : Value) (S : List Nat) (l : List UInt8) (hl : l.length ≤ 1000000) (hp : p.length ≤ 1000000) (hv : By w S v l) :
    Calls Try.prog 16 #[.pointer (some ⟨b, 0, none⟩), v] w fun e w' => e = .returned (.tuple #[]) ∧ (∃ body', Cu w' b (k + l.length) h0 h1 body' ∧ OwnB w' B body' (p ++ l) ∧ (body'.ownBlock = body.ownBlock ∨ ∃ g, body'.ownBlock = some g ∧ w.heap.size ≤ g)) ∧ Fr (b :: body.ownBlock.toList) w w' := by
  have hv0 := hide hv
  obtain ⟨A', c', rfl, -⟩ := hv
  have hnob : body.ownBlock ≠ some b := h.not_own ho (by decide)
  have c0 := h.cell 0 rfl
  have c3 := h.cell 3 rfl
  have z0 := h.free 0
  have hlt := h.lt
  haveI : In b w := ⟨hlt⟩
  have hL := hide (length_c w b k h0 h1 body h b0 b1)
  obtain ⟨N, hn'⟩ : ∃ N, N = h0 * 256 + h1 := ⟨_, rfl⟩
  rw [← hn'] at hL hn
  obtain ⟨A, n, c, eb⟩ : ∃ A n c, body = .slice A n c := by
    obtain ⟨A, c, e⟩ := own_form ho
    exact ⟨_, _, _, e⟩
  have ho0 := hide ho
  subst eb
  clear hn' b0 b1 ho
  go_enter Try.func16, Try.ntmps16
  go_wp2_with (first | (go_at_call 18; refine seq_gw hL.out ?_; intro g) | (at_builtin; refine wpl_app tBytes rfl (.tmp 28) (.tmp 29) rfl rfl (own_ext ho0.out g.grown) rfl (src_sl Try.underlying22 (Sl.ext hv0.out g.grown) (bs_one _) (by omega)) (by unfold maxLen; omega) (by omega) (Nat.le_trans hB (GW.size g)) ?_; intro v' w1 ho1 hg hd; have o1 := ((h.ext g.grown).grown hg (fun e => hnob e.symm)); obtain ⟨A1, cc1, rfl⟩ := own_form ho1; have d0 := o1.cell 0 rfl; have d3 := o1.cell 3 rfl; have y0 := o1.free 0; have y3 := o1.free 3))
  go_end0
  replace hg : g.val.grownBy w1 (Value.slice A n c).ownBlock := hg
  replace hd : (Value.slice A1 (p.length + l.length) cc1).ownBlock = (Value.slice A n c).ownBlock ∨ (Value.slice A1 (p.length + l.length) cc1).ownBlock = some g.val.heap.size := hd
  have hne : (Value.slice A1 (p.length + l.length) cc1).ownBlock ≠ some b := by
    rcases hd with e | e
    · rw [e]; exact hnob
    · rw [e]; intro e'; have := GW.size g; have := Option.some.inj e'; omega
  refine ⟨rfl, ⟨.slice A1 (p.length + l.length) cc1, ?_, ?_, ?_⟩, ?_⟩
  · have h2 := (o1.set 3 (.slice A1 (p.length + l.length) cc1)).set 0 (.int .i64 (k + l.length))
    unfold Cu
    exact h2
  · exact own_set (own_set (own_app ho1) _ _ hne) _ _ hne
  · rcases hd with e | e
    · exact .inl e
    · exact .inr ⟨_, e, GW.size g⟩
  · have hF : Fr (b :: (Value.slice A n c).ownBlock.toList) w g.val := Fr.of_ext g.grown
    have hF1 := hF.grown hg (fun k hk => .inl (by rw [hk]; simp))
    exact (hF1.setCell _ _ (.inl (by simp))).setCell _ _ (.inl (by simp))
theorem first_byte {w : World} {S : List Nat} {v : Value} {l : List UInt8} (h : By w S v l) (hl : l ≠ []) : ∃ b o c, v = .slice (some ⟨b, o, none⟩) l.length c ∧ ∀ j x, l[j]? = some x → w.cell? ⟨b, o + j, none⟩ = some (.int .u8 x.toNat) := by
  obtain ⟨A, c, rfl, h1, h2, h3, h4⟩ := h
  rcases h4 with h4 | ⟨b, o, rfl, _, hc⟩
  · exact absurd (List.eq_nil_of_length_eq_zero (by have := congrArg List.length h4; simpa [bs] using this)) hl
  · exact ⟨b, o, c, rfl, fun j x hx => hc j _ (by simp [bs, hx])⟩
set_option maxHeartbeats 1000000 in
theorem take_h1 (w : World) (b : Nat) (h0 h1 : Int) (A : Option Addr) (n c : Nat) (h : Cu w b 0 h0 h1 (.slice A n c)) (v : Value) (S : List Nat) (x : UInt8) (hv : By w S v [x]) : Calls Try.prog 16 #[.pointer (some ⟨b, 0, none⟩), v] w fun e w' => e = .returned (.tuple #[]) ∧ Cu w' b 1 x.toNat h1 (.slice A n c) ∧ Fr [b] w w' := by
  obtain ⟨b', o', c', rfl, hc⟩ := first_byte hv (by simp)
  have c0 := h.cell 0 rfl
  have z0 := h.free 0
  have hlt := h.lt
  haveI : In b w := ⟨hlt⟩
  have hcp : ∀ g : GW w, (Builtin.copy_ #[22, 22] 3 #[.slice (some ⟨b, 1, none⟩) 2 2, .slice (some ⟨b', o', none⟩) 1 c']).run Try.prog g.val = .ok (.int .i64 1) (g.val.setCell ⟨b, 1, none⟩ (.int .u8 x.toNat)) := by
    intro g
    have := run_copy_cells (P := Try.prog) g.val 22 22 3 5 b 1 2 2 ⟨b', o', none⟩ 1 c' [.int .u8 x.toNat] Try.underlying22 (by kernel_rfl) rfl (fun j u hu => ?_) (fun j hj => ?_) (fun j hj => ?_) (bs_one [x])
    · simpa [World.setCells, goInt] using this
    · match j, hu with
      | 0, hu => obtain rfl := Option.some.inj hu; exact ((World.cell?_of_block (a := ⟨b', o' + 0, none⟩) (g.grown.block b' (block_lt_of_cell (hc 0 x rfl)))).trans (hc 0 x rfl))
    · match j, hj with
      | 0, _ => rw [(h.ext g.grown).cell 1 rfl]; rfl
    · match j, hj with
      | 0, _ => exact (h.ext g.grown).free 1
  clear hc hv
  go_enter Try.func16, Try.ntmps16
  go_wp2_with fail
  refine wp_region_gw_tail 9 (by kernel_rfl) (by kernel_rfl) ?_
  simp only [List.take_succ_cons, List.take_zero, List.drop_succ_cons, List.drop_zero]
  repeat (go_big_quiet_step (fail))
  refine wpQuiet_nil ?_
  intro g
  go_wp2_with (rw [hcp g]; simp only [Result.andThen, Oper.upon_value])
  go_end0
  refine ⟨rfl, ?_, ?_⟩
  · have h2 := ((h.ext g.grown).set 1 (.int .u8 x.toNat)).set 0 (.int .i64 1)
    unfold Cu
    exact h2
  · have hF : Fr [b] w g.val := Fr.of_ext g.grown
    have m : b ∈ [b] := by simp
    exact (hF.setCell _ _ (.inl m)).setCell _ _ (.inl m)
set_option maxHeartbeats 1000000 in
theorem take_h2 (w : World) (b : Nat) (h0 h1 : Int) (A : Option Addr) (n c : Nat) (h : Cu w b 0 h0 h1 (.slice A n c)) (v : Value) (S : List Nat) (x y : UInt8) (hv : By w S v [x, y]) : Calls Try.prog 16 #[.pointer (some ⟨b, 0, none⟩), v] w fun e w' => e = .returned (.tuple #[]) ∧ Cu w' b 2 x.toNat y.toNat (.slice A n c) ∧ Fr [b] w w' := by
  obtain ⟨b', o', c', rfl, hc⟩ := first_byte hv (by simp)
  have c0 := h.cell 0 rfl
  have z0 := h.free 0
  have hlt := h.lt
  haveI : In b w := ⟨hlt⟩
  have hcp : ∀ g : GW w, (Builtin.copy_ #[22, 22] 3 #[.slice (some ⟨b, 1, none⟩) 2 2, .slice (some ⟨b', o', none⟩) 2 c']).run Try.prog g.val = .ok (.int .i64 2) ((g.val.setCell ⟨b, 1, none⟩ (.int .u8 x.toNat)).setCell ⟨b, 2, none⟩ (.int .u8 y.toNat)) := by
    intro g
    have := run_copy_cells (P := Try.prog) g.val 22 22 3 5 b 1 2 2 ⟨b', o', none⟩ 2 c' [.int .u8 x.toNat, .int .u8 y.toNat] Try.underlying22 (by kernel_rfl) rfl (fun j u hu => ?_) (fun j hj => ?_) (fun j hj => ?_) (bs_one [x, y])
    · simpa [World.setCells, goInt] using this
    · match j, hu with
      | 0, hu => obtain rfl := Option.some.inj hu; exact ((World.cell?_of_block (a := ⟨b', o' + 0, none⟩) (g.grown.block b' (block_lt_of_cell (hc 0 x rfl)))).trans (hc 0 x rfl))
      | 1, hu => obtain rfl := Option.some.inj hu; exact ((World.cell?_of_block (a := ⟨b', o' + 1, none⟩) (g.grown.block b' (block_lt_of_cell (hc 1 y rfl)))).trans (hc 1 y rfl))
    · match j, hj with
      | 0, _ => rw [(h.ext g.grown).cell 1 rfl]; rfl
      | 1, _ => rw [(h.ext g.grown).cell 2 rfl]; rfl
    · match j, hj with
      | 0, _ => exact (h.ext g.grown).free 1
      | 1, _ => exact (h.ext g.grown).free 2
  clear hc hv
  go_enter Try.func16, Try.ntmps16
  go_wp2_with fail
  refine wp_region_gw_tail 9 (by kernel_rfl) (by kernel_rfl) ?_
  simp only [List.take_succ_cons, List.take_zero, List.drop_succ_cons, List.drop_zero]
  repeat (go_big_quiet_step (fail))
  refine wpQuiet_nil ?_
  intro g
  go_wp2_with (rw [hcp g]; simp only [Result.andThen, Oper.upon_value])
  go_end0
  refine ⟨rfl, ?_, ?_⟩
  · have h2 := (((h.ext g.grown).set 1 (.int .u8 x.toNat)).set 2 (.int .u8 y.toNat)).set 0 (.int .i64 2)
    unfold Cu
    exact h2
  · have hF : Fr [b] w g.val := Fr.of_ext g.grown
    have m : b ∈ [b] := by simp
    exact ((hF.setCell _ _ (.inl m)).setCell _ _ (.inl m)).setCell _ _ (.inl m)
set_option maxHeartbeats 1000000 in
theorem take_h3 (w : World) (b : Nat) (h0 h1 : Int) (A : Option Addr) (n c : Nat) (h : Cu w b 1 h0 h1 (.slice A n c)) (v : Value) (S : List Nat) (x : UInt8) (hv : By w S v [x]) : Calls Try.prog 16 #[.pointer (some ⟨b, 0, none⟩), v] w fun e w' => e = .returned (.tuple #[]) ∧ Cu w' b 2 h0 x.toNat (.slice A n c) ∧ Fr [b] w w' := by
  obtain ⟨b', o', c', rfl, hc⟩ := first_byte hv (by simp)
  have c0 := h.cell 0 rfl
  have z0 := h.free 0
  have hlt := h.lt
  haveI : In b w := ⟨hlt⟩
  have hcp : ∀ g : GW w, (Builtin.copy_ #[22, 22] 3 #[.slice (some ⟨b, 2, none⟩) 1 1, .slice (some ⟨b', o', none⟩) 1 c']).run Try.prog g.val = .ok (.int .i64 1) (g.val.setCell ⟨b, 2, none⟩ (.int .u8 x.toNat)) := by
    intro g
    have := run_copy_cells (P := Try.prog) g.val 22 22 3 5 b 2 1 1 ⟨b', o', none⟩ 1 c' [.int .u8 x.toNat] Try.underlying22 (by kernel_rfl) rfl (fun j u hu => ?_) (fun j hj => ?_) (fun j hj => ?_) (bs_one [x])
    · simpa [World.setCells, goInt] using this
    · match j, hu with
      | 0, hu => obtain rfl := Option.some.inj hu; exact ((World.cell?_of_block (a := ⟨b', o' + 0, none⟩) (g.grown.block b' (block_lt_of_cell (hc 0 x rfl)))).trans (hc 0 x rfl))
    · match j, hj with
      | 0, _ => rw [(h.ext g.grown).cell 2 rfl]; rfl
    · match j, hj with
      | 0, _ => exact (h.ext g.grown).free 2
  clear hc hv
  go_enter Try.func16, Try.ntmps16
  go_wp2_with fail
  refine wp_region_gw_tail 9 (by kernel_rfl) (by kernel_rfl) ?_
  simp only [List.take_succ_cons, List.take_zero, List.drop_succ_cons, List.drop_zero]
  repeat (go_big_quiet_step (fail))
  refine wpQuiet_nil ?_
  intro g
  go_wp2_with (rw [hcp g]; simp only [Result.andThen, Oper.upon_value])
  go_end0
  refine ⟨rfl, ?_, ?_⟩
  · have h2 := ((h.ext g.grown).set 2 (.int .u8 x.toNat)).set 0 (.int .i64 2)
    unfold Cu
    exact h2
  · have hF : Fr [b] w g.val := Fr.of_ext g.grown
    have m : b ∈ [b] := by simp
    exact (hF.setCell _ _ (.inl m)).setCell _ _ (.inl m)
end Go.Proofs.Ytgjdgejljkhnlaa
