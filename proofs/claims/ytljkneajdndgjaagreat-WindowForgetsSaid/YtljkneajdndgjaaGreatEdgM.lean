/-
  A helper of ours: no claim of its own. Layer 10 (edge): which edges are in form, which are a table, by the code.
-/
import Derived.Test.YtljkneajdndgjaaGreatHopM
import Derived.Test.YtljkneajdndgjaaGreatIdx
import Derived.Test.YtljkneajdndgjaaGreatEdgF
import Derived.Test.YtljkneajdndgjaaGreatEdgFx
import Derived.Test.YtljkneajdndgjaaGreatStepR
import Derived.Test.YtljkneajdndgjaaGreatRg
set_option linter.unusedVariables false
set_option linter.unusedSimpArgs false
namespace Go.Proofs.YtljkneajdndgjaaGreat
open Go.RowKit
attribute [local go_sem] GW.cell GW.frozen In.eq_true In.le_true In.ne In.ne' In.ne_add In.ne_add' In.lt_add Upto.le_true Upto.le_add Upto.lt_add
/-- Where they begin; which error is told. -/
def hW (s h lo hi f r : Int) : List Int := hT h (hA s h f lo) (hZ r hi)
end Go.Proofs.YtljkneajdndgjaaGreat
set_option linter.unusedVariables false
set_option linter.unusedSimpArgs false
namespace Go.Proofs.YtljkneajdndgjaaGreat
open Go.RowKit
attribute [local go_sem] GW.cell GW.frozen In.eq_true In.le_true In.ne In.ne' In.ne_add In.ne_add' In.lt_add Upto.le_true Upto.le_add Upto.lt_add
end Go.Proofs.YtljkneajdndgjaaGreat
set_option linter.unusedVariables false
set_option linter.unusedSimpArgs false
namespace Go.Proofs.YtljkneajdndgjaaGreat
open Go.RowKit
attribute [local go_sem] GW.cell GW.frozen In.eq_true In.le_true In.ne In.ne' In.ne_add In.ne_add' In.lt_add Upto.le_true Upto.le_add Upto.lt_add
theorem hcnt_mono {h x y : Int} (hh : 1 ≤ h) (hxy : x ≤ y) : hcnt h x ≤ hcnt h y := by
  unfold hcnt
  split <;> split
  · omega
  · have : 0 ≤ (y - 1) / h := Int.ediv_nonneg (by omega) (by omega)
    omega
  · omega
  · have := Int.ediv_le_ediv (a := x - 1) (b := y - 1) (c := h) (by omega) (by omega)
    omega
theorem hbeg_in {h x : Int} (hh : 1 ≤ h) (hx : x ≤ 1125899906842624) : x ≤ hbeg h x ∧ 0 ≤ hbeg h x ∧ hbeg h x ≤ 1125899906842624 ∧ (0 < x → hbeg h x < x + h) ∧ (x ≤ 0 → hbeg h x = 0) := by
  obtain ⟨k1, k2, k3, k4⟩ := hcnt_in (h := h) (x := x) hh
  have k5 : 0 ≤ hcnt h x * h := Int.mul_nonneg k1 (by omega)
  unfold hbeg
  split
  · exact ⟨k2, k5, by omega, k3, fun hz => by rw [k4 hz]; simp⟩
  · refine ⟨hx, by omega, by omega, fun hp => ?_, fun hz => ?_⟩
    · have := k3 hp; omega
    · rename_i hn; rw [k4 hz] at hn; simp at hn
theorem hbeg_mono {h x y : Int} (hh : 1 ≤ h) (hxy : x ≤ y) : hbeg h x ≤ hbeg h y := by
  have h1 := Int.mul_le_mul_of_nonneg_right (hcnt_mono hh hxy) (show (0 : Int) ≤ h by omega)
  unfold hbeg
  split <;> split <;> omega
theorem hopV_in {s h t : Int} (he : hopE s h t = 0) : t - s < hopV s h t ∧ 0 ≤ hopV s h t ∧ hopV s h t ≤ 1125899906842624 ∧ (h ≤ s → hopV s h t ≤ t) ∧ htick t = true ∧ hlen s = true ∧ hlen h = true := by
  unfold hopE at he
  split at he
  · rename_i hb
    split at he
    · rename_i ht
      obtain ⟨s1, s2⟩ := hlen_iff.1 hb.1
      obtain ⟨h1, h2⟩ := hlen_iff.1 hb.2
      obtain ⟨t1, t2⟩ := htick_iff.1 ht
      obtain ⟨k1, k2, k3, k4, k5⟩ := hbeg_in (h := h) (x := t - s + 1) h1 (by omega)
      unfold hopV
      rw [if_pos ⟨hb.1, hb.2, ht⟩]
      refine ⟨?_, ?_, ?_, fun hs => ?_, ht, hb.1, hb.2⟩
      · split <;> omega
      · split <;> omega
      · split <;> omega
      · split
        · omega
        · by_cases hp : 0 < t - s + 1
          · have := k4 hp; omega
          · have := k5 (by omega); omega
    · omega
  · omega
theorem hopV_mono {s h t u : Int} (h1 : hopE s h t = 0) (h2 : hopE s h u = 0) (htu : t ≤ u) : hopV s h t ≤ hopV s h u := by
  obtain ⟨-, -, a3, -, a4, a5, a6⟩ := hopV_in h1
  obtain ⟨-, -, b3, -, b4, -, -⟩ := hopV_in h2
  by_cases hu : u = 1125899906842624
  · have e : hopV s h u = 1125899906842624 := by unfold hopV; rw [if_pos ⟨a5, a6, b4⟩, if_pos hu]
    omega
  · obtain ⟨-, u2⟩ := htick_iff.1 b4
    have ht : ¬ t = 1125899906842624 := by omega
    unfold hopV
    rw [if_pos ⟨a5, a6, a4⟩, if_neg ht, if_pos ⟨a5, a6, b4⟩, if_neg hu]
    exact hbeg_mono (hlen_iff.1 a6).1 (by omega)
end Go.Proofs.YtljkneajdndgjaaGreat
set_option linter.unusedVariables false
set_option linter.unusedSimpArgs false
namespace Go.Proofs.YtljkneajdndgjaaGreat
open Go.RowKit
attribute [local go_sem] GW.cell GW.frozen In.eq_true In.le_true In.ne In.ne' In.ne_add In.ne_add' In.lt_add Upto.le_true Upto.le_add Upto.lt_add
theorem sl_form {w : World} {S : List Nat} {sz n : Nat} {v : Value} {xs : List Value} (h : Sl w S sz v n xs) : ∃ A cap, v = .slice A n cap := by obtain ⟨A, cap, e, _⟩ := h; exact ⟨A, cap, e⟩
/-- Edges of one's own, with rows of one's own. -/
def OwnEr (w : World) (base : Nat) (v : Value) (L : List Ve) : Prop := OwnE w base v L ∧ ∀ p ∈ L, Rw w (ob v ++ List.range base) p.1 p.2.1
theorem rw_app {w w' : World} {v v' u : Value} {S S' : List Nat} {r : List Vl} (h : Rw w S u r) (hS : ∀ k ∈ ob v, k ∈ S) (hS' : ∀ k ∈ S', k ∈ S) (hg : w.grownBy w' v.ownBlock) (hv : v'.ownBlock = v.ownBlock ∨ v'.ownBlock = some w.heap.size) : Rw w' (ob v' ++ S') u r := by
  have hF := fr_grown hg
  rcases hv with e | e
  · have := Sl.fr h hF hS
    refine Sl.less this fun b hb => ?_
    rcases List.mem_append.1 hb with hb | hb
    · exact hS b (by unfold ob at hb ⊢; rwa [e] at hb)
    · exact hS' b hb
  · have h2 : Rw w (w.heap.size :: S) u r := Sl.new h fun b hb => by
      rcases List.mem_cons.1 hb with rfl | hb
      · exact .inr (Nat.le_refl _)
      · exact .inl hb
    have h3 := Sl.fr h2 hF fun b hb => List.mem_cons_of_mem _ (hS b hb)
    refine Sl.less h3 fun b hb => ?_
    rcases List.mem_append.1 hb with hb | hb
    · unfold ob at hb; rw [e] at hb; simp at hb; simp [hb]
    · exact List.mem_cons_of_mem _ (hS' b hb)
section
variable {w w' : World} {base : Nat} {v v' : Value} {L M : List Ve}
theorem OwnEr.nil (w : World) (base : Nat) : OwnEr w base (.slice none 0 0) [] := ⟨World.ownsRow_nil _ _ _ _, by simp⟩
theorem OwnEr.ext (h : OwnEr w base v L) (k : Ext w w') : OwnEr w' base v L := ⟨own_ext h.1 k, fun p hp => Sl.ext (h.2 p hp) k⟩
theorem OwnEr.lower {b : Nat} (h : OwnEr w base v L) (hb : b ≤ base) : OwnEr w b v L := ⟨own_base h.1 hb, fun p hp => Sl.less (h.2 p hp) fun k hk => by
  rcases List.mem_append.1 hk with hk | hk
  · exact List.mem_append_left _ hk
  · exact List.mem_append_right _ (List.mem_range.2 (by have := List.mem_range.1 hk; omega))⟩
theorem OwnEr.ew (h : OwnEr w base v L) : Ew w [] v L := ⟨Sl.own h.1 (by simp), fun p hp => Sl.less (h.2 p hp) (by simp)⟩
theorem OwnEr.app (h : OwnEr w base v L) (ho : OwnE w' base v' (L ++ M)) (hg : w.grownBy w' v.ownBlock) (hv : v'.ownBlock = v.ownBlock ∨ v'.ownBlock = some w.heap.size) (hM : ∀ p ∈ M, ∃ S, Rw w S p.1 p.2.1 ∧ ∀ k ∈ ob v ++ List.range base, k ∈ S) : OwnEr w' base v' (L ++ M) := by
  refine ⟨ho, fun p hp => ?_⟩
  rcases List.mem_append.1 hp with hp | hp
  · exact rw_app (h.2 p hp) (fun k hk => List.mem_append_left _ hk) (fun k hk => List.mem_append_right _ hk) hg hv
  · obtain ⟨S, hS, hk⟩ := hM p hp
    exact rw_app hS (fun k h => hk k (List.mem_append_left _ h)) (fun k h => hk k (List.mem_append_right _ h)) hg hv
end
theorem ec1_one {u : Value} {r : List Vl} {j : Jp} (h : u.oneCell' = true) : ∀ x ∈ ec1 (u, r, j), x.oneCell' = true := by
  intro x hx; simp [ec1] at hx; rcases hx with rfl | rfl | rfl; exact h; rfl; rfl
def rowF (S : List Nat) (r : List Vl) : Fact := .st (fun u w => Rw w S u r) (fun _ _ _ h k => Sl.ext h k)
def edgF (S : List Nat) (r : List Vl) (j : Jp) : Fact := .st (fun u w => ∃ A cp, u = em (.slice A r.length cp) j ∧ Rw w S (.slice A r.length cp) r) (fun _ _ _ h k => by obtain ⟨A, cp, e, h⟩ := h; exact ⟨A, cp, e, Sl.ext h k⟩)
def oneE (S : List Nat) (r : List Vl) (j : Jp) : Fact := .st (fun v w => ∃ u, Sl w [] 3 v 1 (ec1 (u, r, j)) ∧ Rw w S u r) (fun _ _ _ h k => by obtain ⟨u, h1, h2⟩ := h; exact ⟨u, Sl.ext h1 k, Sl.ext h2 k⟩)
theorem buildE1 (A : Option Addr) (n cap : Nat) (x : Jp) (w : World) : (Instr.buildSlice 25 1 #[(0, em (.slice A n cap) x)]).run Tryz.prog w = .ok (.slice (some ⟨w.heap.size, 0, none⟩) 1 1) (w.alloc (.cells #[.slice A n cap, .int .i64 x.1, .int .i64 x.2] 58)) := by
  simp [go_sem]
theorem oneE_new (u : Value) (r : List Vl) (x : Jp) (w : World) : Sl (w.alloc (.cells #[u, .int .i64 x.1, .int .i64 x.2] 58)) [] 3 (.slice (some ⟨w.heap.size, 0, none⟩) 1 1) 1 (ec1 (u, r, x)) :=
  Sl.own (World.ownsRow_lit (base := w.heap.size) (e := 58) (size := 3) w #[u, .int .i64 x.1, .int .i64 x.2] 1 (Nat.le_refl _) (by decide) rfl) (by simp)
set_option maxHeartbeats 8000000 in
set_option maxRecDepth 100000 in
theorem edgesOf_c (r : List Vl) (f : List Jp) (u v : Value) (w : World) (hr : Rw w [] u r) (hr8 : r.length ≤ 8) (hf : Jw w [] v f) (hfl : f.length ≤ 1000000000) : Calls Tryz.prog 100 #[u, v] w fun e w' => ∃ v' M, e = .returned v' ∧ eds M = f.map (fun j => (r, j)) ∧ OwnEr w' w.heap.size v' M ∧ Ext w w' := by
  obtain ⟨A, cap, rfl, hlc, hlm, hat⟩ := jw_form hf
  unfold maxLen at hlm
  replace hat := hide hat
  obtain ⟨RA, rcap, rfl⟩ := rw_val hr
  have hrw := hide hr
  clear hf hr
  go_enter Tryz.func100, Tryz.ntmps100
  go_wp2_with fail
  go_loopg [5, 10] f.length (fun gh vv i wr => ∃ (k : Nat) (acc : List Ve), i = .int .i64 k ∧ k + gh = f.length ∧ OwnEr wr w.heap.size vv acc ∧ acc.length ≤ k ∧ Hid (eds acc = (f.take k).map fun j => (r, j)) ∧ Ext w wr)
  case atStart => exact ⟨0, [], rfl, by omega, OwnEr.nil _ _, Nat.le_refl _, (by show _ = _; simp [eds]), Ext.refl w⟩
  case round =>
    obtain ⟨k, acc, rfl, hk, ho, hak, hacc, hX⟩ := hrel
    have hzX := hX.size
    by_cases hlt : k < f.length
    · obtain ⟨x, hx⟩ : ∃ x, f[k]? = some x := ⟨_, List.getElem?_eq_getElem hlt⟩
      obtain ⟨b0, o0, rfl, -, hb', c0, c1⟩ := hat.out k x hx
      have k0 := jcell_later hX c0
      have k1 := jcell_later hX c1
      have hbr : b0 < wr.heap.size := block_lt_of_cell k0
      have hnx := hide (show eds acc ++ [(r, x)] = (f.take (k + 1)).map fun j => (r, j) by rw [hacc.out, List.take_add_one, hx]; simp)
      obtain ⟨ja, jn⟩ := x
      simp only at k0 k1 hnx
      have O1 := Ob.new wr 125 [.int .i64 ja, .int .i64 jn]
      have q0 := hide (O1.cell 0 rfl)
      have q1 := hide (O1.cell 1 rfl)
      have hcp := hide (fun w' (hX' : Ext (wr.alloc (.cells #[.int .i64 ja, .int .i64 jn] 125)) w') => rowCopy_c r (.slice RA r.length rcap) w' (Sl.ext hrw.out ((hX.alloc _).trans hX')) (by omega))
      have ho0 := hide ho
      obtain ⟨C, ccap, rfl⟩ := own_form ho.1
      replace ho := hide (ho.ext ((Ext.refl wr).alloc (.cells #[.int .i64 ja, .int .i64 jn] 125)))
      clear c0 c1 hat O1 hx hacc hrw
      go_wp2_with fail
      refine wp_region_list_tail 9 [(.is (.slice C acc.length ccap)), (.is (.slice RA r.length rcap)), rowF (List.range wr.heap.size) r, (.is (.pointer (some ⟨wr.heap.size, 0, none⟩))), (.is (.int .i64 ja)), (.is (.pointer (some ⟨wr.heap.size, 1, none⟩))), (.is (.int .i64 jn)), edgF (List.range wr.heap.size) r (ja, jn), oneE (List.range wr.heap.size) r (ja, jn)] (by kernel_rfl) (by kernel_rfl) (by kernel_rfl) (by kernel_rfl) (by kernel_rfl) (by kernel_rfl) (by kernel_rfl) ?_ ?_
      · refine ⟨?_, ?_, ?_, ?_, ?_, ?_, ?_, ?_, ?_, trivial⟩
        · intro b w' h hE
          have f5 : b.tmps.getD 5 undef = .slice C acc.length ccap := hE 5 (of_decide_eq_true (by kernel_rfl))
          exact good_move (wanted_none rfl) rfl f5
        · intro b w' h hE
          have f0 : b.tmps.getD 0 undef = .slice RA r.length rcap := hE 0 (of_decide_eq_true (by kernel_rfl))
          exact good_move (wanted_none rfl) rfl f0
        · intro b w' h hE
          have f15 : b.tmps.getD 15 undef = .slice RA r.length rcap := h.dep 1 _ 15 (by kernel_rfl) rfl rfl
          have g15 : b.tmps[15]?.getD undef = .slice RA r.length rcap := by rw [← Array.getD_eq_getD_getElem?]; exact f15
          refine good_call (wanted_none rfl) rfl (enters Tryz.func112 (by kernel_rfl) rfl) ?_
          rw [show (#[.tmp 15] : Array Operand).map b.eval = #[.slice RA r.length rcap] by simp [Act.eval, g15]]
          exact (hcp.out w' h.ext).mono fun e w1 ⟨v, he, ho, hx⟩ => ⟨v, he, Sl.own ho (fun k hk => by have := List.mem_range.1 hk; have := h.ext.size; simp only [World.size_alloc] at this; omega), hx⟩
        · intro b w' h hE
          have f7 : b.tmps.getD 7 undef = .pointer (some ⟨wr.heap.size, 0, none⟩) := hE 7 (of_decide_eq_true (by kernel_rfl))
          exact good_field (wanted_none rfl) rfl f7 (by simp [go_sem]) rfl
        · intro b w' h hE
          have f17 : b.tmps.getD 17 undef = .pointer (some ⟨wr.heap.size, 0, none⟩) := h.dep 3 _ 17 (by kernel_rfl) rfl rfl
          have c0 := cell_later h.ext q0.out
          exact good_load (wanted_none rfl) rfl f17 (by simp [go_sem, c0]) rfl
        · intro b w' h hE
          have f7 : b.tmps.getD 7 undef = .pointer (some ⟨wr.heap.size, 0, none⟩) := hE 7 (of_decide_eq_true (by kernel_rfl))
          exact good_field (wanted_none rfl) rfl f7 (by simp [go_sem]) rfl
        · intro b w' h hE
          have f19 : b.tmps.getD 19 undef = .pointer (some ⟨wr.heap.size, 1, none⟩) := h.dep 5 _ 19 (by kernel_rfl) rfl rfl
          have c0 := cell_later h.ext q1.out
          exact good_load (wanted_none rfl) rfl f19 (by simp [go_sem, c0]) rfl
        · intro b w' h hE
          have f16 : Rw w' (List.range wr.heap.size) (b.tmps.getD 16 undef) r := h.dep 2 _ 16 (by kernel_rfl) rfl rfl
          have f18 : b.tmps.getD 18 undef = .int .i64 ja := h.dep 4 _ 18 (by kernel_rfl) rfl rfl
          have g18 : b.tmps[18]?.getD undef = .int .i64 ja := by rw [← Array.getD_eq_getD_getElem?]; exact f18
          have f20 : b.tmps.getD 20 undef = .int .i64 jn := h.dep 6 _ 20 (by kernel_rfl) rfl rfl
          have g20 : b.tmps[20]?.getD undef = .int .i64 jn := by rw [← Array.getD_eq_getD_getElem?]; exact f20
          obtain ⟨A, cp, e16⟩ := rw_val f16
          have g16 : b.tmps[16]?.getD undef = .slice A r.length cp := by rw [← Array.getD_eq_getD_getElem?]; exact e16
          rw [e16] at f16
          exact good_run (wanted_none rfl) (v := em (.slice A r.length cp) (ja, jn)) (by simp [execOp, Act.eval, go_sem, g16, g18, g20, Sem.run_bind, Sem.run_pure, Result.andThen_ok]) ⟨A, cp, rfl, f16⟩
        · intro b w' h hE
          have f21 : ∃ A cp, (b.tmps.getD 21 undef) = em (.slice A r.length cp) (ja, jn) ∧ Rw w' (List.range wr.heap.size) (.slice A r.length cp) r := h.dep 7 _ 21 (by kernel_rfl) rfl rfl
          obtain ⟨A, cp, e21, hr21⟩ := f21
          have g21 : b.tmps[21]?.getD undef = em (.slice A r.length cp) (ja, jn) := by rw [← Array.getD_eq_getD_getElem?]; exact e21
          have := buildE1 A r.length cp (ja, jn) w'
          refine good_grow (w' := w'.alloc (.cells #[.slice A r.length cp, .int .i64 ja, .int .i64 jn] 58)) (v := .slice (some ⟨w'.heap.size, 0, none⟩) 1 1) (wanted_none rfl) ?_ ⟨_, oneE_new (.slice A r.length cp) r (ja, jn) w', Sl.ext hr21 ((Ext.refl _).alloc _)⟩ ((Ext.refl _).alloc _)
          simp [execOp, Act.eval, g21, this, Sem.run_bind, Sem.run_pure, Result.andThen_ok]
      · intro b w2 hX2 hd hz he' hf
        have e14 : b.tmps.getD 14 undef = .slice C acc.length ccap := hf 0 _ 14 (by omega) rfl rfl
        have e15 : b.tmps.getD 15 undef = .slice RA r.length rcap := hf 1 _ 15 (by omega) rfl rfl
        have f16 : Rw w2 (List.range wr.heap.size) (b.tmps.getD 16 undef) r := hf 2 _ 16 (by omega) rfl rfl
        have e17 : b.tmps.getD 17 undef = .pointer (some ⟨wr.heap.size, 0, none⟩) := hf 3 _ 17 (by omega) rfl rfl
        have e18 : b.tmps.getD 18 undef = .int .i64 ja := hf 4 _ 18 (by omega) rfl rfl
        have e19 : b.tmps.getD 19 undef = .pointer (some ⟨wr.heap.size, 1, none⟩) := hf 5 _ 19 (by omega) rfl rfl
        have e20 : b.tmps.getD 20 undef = .int .i64 jn := hf 6 _ 20 (by omega) rfl rfl
        have f21 : ∃ A cp, (b.tmps.getD 21 undef) = em (.slice A r.length cp) (ja, jn) ∧ Rw w2 (List.range wr.heap.size) (.slice A r.length cp) r := hf 7 _ 21 (by omega) rfl rfl
        have f22 : ∃ u, Sl w2 [] 3 (b.tmps.getD 22 undef) 1 (ec1 (u, r, (ja, jn))) ∧ Rw w2 (List.range wr.heap.size) u r := hf 8 _ 22 (by omega) rfl rfl
        have e := frame_puts hd hz he'
        obtain ⟨X, hXx⟩ : ∃ X : Nat → Value, ∀ d, b.tmps.getD d undef = X d := ⟨_, fun _ => rfl⟩
        rw [hXx] at e14 e15 e17 e18 e19 e20 f16 f21 f22
        obtain ⟨A16, c16, q16⟩ := rw_val f16
        obtain ⟨A21, c21, q21, -⟩ := f21
        obtain ⟨u22, f22, r22⟩ := f22
        obtain ⟨A22, c22, q22⟩ := sl_form f22
        rw [show dstsOf _ = [14, 15, 16, 17, 18, 19, 20, 21, 22] from rfl] at e
        simp only [List.foldl_cons, List.foldl_nil, hXx, Act.put, List.setIfInBounds_toArray, List.set_cons_succ, List.set_cons_zero] at e
        rw [e14, e15, e17, e18, e19, e20, q16, q21, q22] at e
        rw [q16] at f16
        replace f16 := hide f16
        rw [q22] at f22
        replace f22 := hide f22
        clear hf he' hz hd hXx e14 e15 e17 e18 e19 e20 q16 q21 q22
        subst e
        have hzw := hX2.size
        simp only [List.drop_succ_cons, List.drop_zero]
        replace r22 := hide r22
        have hone := row_one r22.out
        go_wp2_with (at_builtin; (refine wpl_app tEdg rfl (.tmp 14) (.tmp 22) rfl rfl (own_ext ho.out.1 hX2) rfl (src_sl Tryz.underlying25 f22.out (ec1_one hone) (by omega)) (by unfold maxLen; omega) (by omega) (by simp only [World.size_alloc] at hzw; omega) ?_; intro v8 w8 ho8 hg8 hob8; have hX8 := hide (ext_grown ((hX.alloc _).trans hX2) hg8 (fun q hq => (ho.out.1.lt q hq).1))))
        go_roundg (f.length - (k + 1))
        case measure => omega
        case rel =>
          have ho9 : OwnEr w8 w.heap.size v8 (acc ++ [(u22, r, (ja, jn))]) := (ho.out.ext hX2).app (own_appE (M := [(u22, r, (ja, jn))]) (by simpa [ec, ec1] using ho8)) hg8 hob8 (fun p hp => by
            obtain rfl := List.mem_singleton.1 hp
            refine ⟨_, r22.out, fun q hq => List.mem_range.2 ?_⟩
            rcases List.mem_append.1 hq with hq | hq
            · have := (ob_ge ho0.out.1 q hq).2; omega
            · have := List.mem_range.1 hq; omega)
          exact ⟨k + 1, acc ++ [(u22, r, (ja, jn))], by go_num, by omega, ho9, by rw [List.length_append, List.length_singleton]; omega, by show _ = _; rw [eds, List.map_append]; exact hnx.out, hX8.out⟩
    · have hk' : k = f.length := by omega
      have hge : (f.length : Int) ≤ k := by omega
      have hac := hacc.out
      rw [List.take_of_length_le (by omega)] at hac
      replace hac := hide hac
      replace hk' := hide hk'
      obtain ⟨C, ccap, rfl⟩ := own_form ho.1
      clear hacc hat
      go_wp2_with fail
      go_returns
      exact ⟨_, acc, rfl, hac.out, ho, hX⟩
end Go.Proofs.YtljkneajdndgjaaGreat
set_option linter.unusedVariables false
set_option linter.unusedSimpArgs false
namespace Go.Proofs.YtljkneajdndgjaaGreat
open Go.RowKit
/-- What is asked of an end that is no leave. -/
def onlyN (Q : Exit → Act → World → Prop) : Exit → Act → World → Prop
  | .normal, a, w => Q .normal a w
  | _, _, _ => False
theorem onlyN_out {Q : Exit → Act → World → Prop} (h : LetsOut (onlyN Q)) : False := by obtain ⟨a, w, h⟩ := h; exact h
def noDefer (o : Oper) : Bool := match o.op with | .defer _ => false | _ => true
theorem noDefer_spec {o : Oper} (h : noDefer o = true) : ∀ c, o.op ≠ .defer c := fun c e => by unfold noDefer at h; rw [e] at h; cases h
section
variable {P : Program} {l n : Nat} {ops : Array Oper} {Q : Exit → Act → World → Prop}
theorem opIn_of_op {o : Oper} {a : Act} {w : World} {K : Act → World → Prop} (hd : noDefer o = true) (h : o.wp P a w K (onlyN Q)) : o.wpIn (Fence.wide.inRound l) n P a w K Q := by
  unfold Oper.wpIn
  refine ⟨fun _ _ => trivial, ?_⟩
  rw [show (Fence.wide.inRound l).round = some l from rfl, Oper.semAt_some l _ _ (noDefer_spec hd)]
  unfold Oper.wp at h
  generalize (execOp a.eval o).run P w = r at *
  cases r with
  | ok x w' =>
    cases x <;> simp only [Oper.upon, Oper.uponIn] at h ⊢
    all_goals first
      | exact h
      | exact ⟨fun h => by simp [Fence.wide] at h, in_round (h.mono fun e w'' he => by
          cases e with
          | returned v => exact he
          | panicked ch => exact he.elim
          | outgrown => exact (onlyN_out he).elim)⟩
      | exact ⟨fun h => by simp [Fence.wide] at h, fun c cs _ => let ⟨v, w', r, s⟩ := h c cs; ⟨v, w', r, stepsIn_wide.2 s⟩⟩
  | halt x w' =>
    cases x <;> simp only [Oper.upon, Oper.uponIn] at h ⊢
    all_goals first
      | exact h.elim
      | exact h
theorem anyIn_of_any (hd : ∀ (i : Nat) (o : Oper), ops[i]? = some o → noDefer o = true) : ∀ (f : Nat) (listed : Array Bool) (a : Act) (w : World), wpAny P .any ops (onlyN Q) f listed a w → wpAnyIn (Fence.wide.inRound l) n P .any ops Q f listed a w
  | 0, listed, a, w, h => h
  | f + 1, listed, a, w, h => by
    refine ⟨fun hr => h.1 hr, fun i hi => ?_⟩
    have h2 := h.2 i hi
    unfold wpOp at h2
    unfold wpOpIn
    split
    · rename_i ho
      simp only [ho] at h2
      exact anyIn_of_any hd f _ _ _ h2
    · rename_i o ho
      simp only [ho] at h2
      split
      · rename_i hw
        simp only [hw, if_true] at h2
        rcases h2 with h2 | ⟨_, h2⟩
        · exact opIn_of_op (hd i o ho) (Oper.wp_mono (fun a w hk => anyIn_of_any hd f _ a w hk) h2)
        · exact (onlyN_out h2).elim
      · rename_i hw
        simp only [hw] at h2
        exact ⟨fun _ _ => trivial, anyIn_of_any hd f _ _ _ h2⟩
end
section
variable {P : Program} {ops : Array Oper} {Q : Exit → Act → World → Prop} {a : Act}
theorem wpIn_region_list_tail {l m id : Nat} {w : World} (n : Nat) (L : List Fact) (hdf : ops.toList.all noDefer = true) (hm : P.follows .mixedOrders = true) (hA : acycB ops = true) (hD : dstsB ops a.tmps.size = true)
    (hn : decide (n < ops.size) = true) (hs : Region.sinkB .any ops n = true) (hc : Region.chainB .any ops n = true) (hq : Region.seqB .any ops (ops.size - n) n (Array.replicate n true ++ Array.replicate (ops.size - n) false) = true)
    (hstep : RSteps (fun k o => ∀ b w', RAt ops (factsOf L) a w k b w' → (∀ t, t ∉ dstsOf (ops.toList.take n).toArray → b.tmps.getD t undef = a.tmps.getD t undef) → RGood P ops (factsOf L) (onlyN Q) k o b w') 0 (ops.toList.take n))
    (hend : ∀ b w', Ext w w' → b.defers = a.defers → b.tmps.size = a.tmps.size → (∀ t, t ∉ dstsOf (ops.toList.take n).toArray → b.tmps.getD t undef = a.tmps.getD t undef) →
      (∀ j o d, j < n → ops[j]? = some o → o.dst = some d → factsOf L j (b.tmps.getD d undef) w') → wpList P ops (onlyN Q) (ops.toList.drop n) b w') : (Code.region id ops true).wpIn (Fence.wide.inRound l) m P Q a w := by
  have hn' := of_decide_eq_true hn
  have hd : ∀ (i : Nat) (o : Oper), ops[i]? = some o → noDefer o = true := fun i o ho => List.all_eq_true.1 hdf o (List.mem_of_getElem? (by rw [Array.getElem?_toList]; exact ho))
  refine wpIn_region_any hm (anyIn_of_any hd _ _ _ _ ?_)
  have := wpAny_facts_tail (P := P) (Φ := factsOf L) (Q := onlyN Q) (W := w) hA hD hn' hs hc hq (fun i v w w' h hx => Fact.stays _ v w w' h hx) (fun i o hi ho b w' h hE => by
    have := RSteps.get 0 (ops.toList.take n) hstep i o (by rw [List.getElem?_take, if_pos hi]; simpa using ho) b w'
    rw [Nat.zero_add] at this
    exact this h hE) (fun b w' h1 h2 h3 _ h5 h6 => hend b w' h1 h2 h3 h6 h5) n (Array.replicate ops.size false) a { w with drawn := w.drawn + 1 } ⟨(Ext.refl w).drew, rfl, rfl, by simp, fun _ _ => rfl, fun j o d ho hl _ => ?_⟩ (fun _ _ => rfl)
    ⟨by simp, fun j oj _ hl => (by rw [getD_replicate_false] at hl; cases hl), fun t _ ht => getD_in (by simpa using ht) (getD_replicate_false _ _)⟩ (by
      rw [Array.toList_replicate, List.take_replicate, cntF_rep]; omega)
  · rwa [show n + (ops.size - n) = ops.size by omega] at this
  · rw [getD_replicate_false] at hl; cases hl
end
end Go.Proofs.YtljkneajdndgjaaGreat
set_option linter.unusedVariables false
set_option linter.unusedSimpArgs false
namespace Go.Proofs.YtljkneajdndgjaaGreat
open Go.RowKit
attribute [local go_sem] GW.cell GW.frozen In.eq_true In.le_true In.ne In.ne' In.ne_add In.ne_add' In.lt_add Upto.le_true Upto.le_add Upto.lt_add Oper.semAt_some wide_depth wide_fn
/-- A function that ranges over a function is left ahead of that. -/
theorem ret_plain {P : Program} {fn : Func} {R : Ending → World → Prop} {tmps : Array Value} {W : World} {v : Value} (hr : (results fn tmps).run P W = .ok v W) (hR : R (.returned v) W) :
    bodyPostM Fence.wide 0 P fn R .ret { tmps := tmps, defers := [] } W := ⟨v, hr, hR⟩
theorem all_rows (L : List Ve) : (eds L).all (fun e => mayR e.1) = L.all fun x => mayR x.2.1 := by rw [eds, List.all_map]; rfl
set_option maxHeartbeats 8000000 in
set_option maxRecDepth 100000 in
theorem edgeMay_c (L : List Ve) (v : Value) (w : World) (hC : Ew w [] v L) : Calls Tryz.prog 45 #[v] w fun e w' => e = .returned (.bool (mayE (eds L))) ∧ Ext w w' := by
  have h1 := hide (fun w' (hX : Ext w w') => containsERow_c L v w' (hC.ext hX))
  have h2 := hide (fun (hv : ∀ p ∈ L, mayR p.2.1 = true) w' (hX : Ext w w') => isSorted_c L hv v w' (hC.ext hX))
  obtain ⟨A, cap, rfl, hlc, hlm, -⟩ := ew_form hC
  unfold maxLen at hlm
  obtain ⟨R, hR⟩ : ∃ R, R = mayE (eds L) := ⟨_, rfl⟩
  rw [← hR]
  unfold mayE at hR
  rw [all_rows, List.length_map] at hR
  have ob0 : Ob (w.alloc (.cells #[.bool false] 4)) w.heap.size 4 [.bool false] := Ob.new w _ [.bool false]
  have hX0 : Ext w (w.alloc (.cells #[.bool false] 4)) := (Ext.refl w).alloc _
  have hnw : Hid (∀ k, k < w.heap.size + 1 → True) := fun _ _ => trivial
  refine calls_marks Tryz.func45 rfl ?_
  simp only [Tryz.ntmps45, List.size_toArray, List.length_cons, List.length_nil, Nat.reduceAdd, Nat.reduceSub, Array.replicate_succ, Array.replicate_zero, List.push_toArray, List.append_toArray, List.nil_append, List.cons_append]
  obtain ⟨Wb, hWb⟩ : ∃ Wb, Wb = w.alloc (.cells #[.bool false] 4) := ⟨_, rfl⟩
  rw [← hWb] at ob0 hX0
  have hWs : Wb.heap.size = w.heap.size + 1 := by rw [hWb]; simp
  have hX0h := hide hX0
  by_cases hl : 4096 < L.length
  · have hf := hide (show R = false by rw [hR, decide_eq_false (by omega), Bool.false_and])
    clear hR h1 h2
    go_wp2
    rw [← hWb]
    have q0 := ob0.cell 0 rfl
    exact ret_plain (v := .bool false) (by simp [results, Tryz.f45, go_sem, q0]) ⟨by rw [hf.out], hX0⟩
  have hlI : (L.length : Int) ≤ 4096 := by omega
  rw [decide_eq_true (by omega), Bool.true_and] at hR
  cases ha : L.all fun x => mayR x.2.1
  · rw [ha, Bool.false_and] at hR
    rw [ha] at h1
    replace hR := hide hR
    clear h2
    go_wp2_with (go_at_call 75; (with_reducible refine seq_gw (h1.out _ (by rw [← hWb]; exact hX0h.out)) ?_); intro g)
    have o2 : Ob (g.val.setCell ⟨w.heap.size, 0, none⟩ (.bool false)) w.heap.size 4 [.bool false] := ((hWb ▸ ob0).ext g.grown).set 0 _
    have q2 := o2.cell 0 rfl
    exact ret_plain (v := .bool false) (by simp [results, Tryz.f45, go_sem, q2]) ⟨by rw [hR.out], ((hWb ▸ hX0).trans g.grown).setCell (p := ⟨w.heap.size, 0, none⟩) (by simp) _⟩
  rw [ha, Bool.true_and] at hR
  rw [ha] at h1
  have hv : ∀ p ∈ L, mayR p.2.1 = true := fun p hp => List.all_eq_true.1 ha p hp
  have h3 := hide (h2.out hv)
  clear h2 ha
  cases hs : riseB (eds L)
  · rw [hs, Bool.false_and] at hR
    rw [hs] at h3
    replace hR := hide hR
    go_wp2_with (first | (go_at_call 75; (with_reducible refine seq_gw (h1.out _ (by rw [← hWb]; exact hX0h.out)) ?_); intro g) | (go_at_call 97; (with_reducible refine seq_gw' (h3.out _ ((by rw [← hWb]; exact hX0h.out : Ext w (w.alloc (.cells #[.bool false] 4))).trans g.grown)) ?_); intro g2))
    have o2 : Ob (g2.val.setCell ⟨w.heap.size, 0, none⟩ (.bool false)) w.heap.size 4 [.bool false] := ((hWb ▸ ob0).ext g2.grown).set 0 _
    have q2 := o2.cell 0 rfl
    exact ret_plain (v := .bool false) (by simp [results, Tryz.f45, go_sem, q2]) ⟨by rw [hR.out], ((hWb ▸ hX0).trans g2.grown).setCell (p := ⟨w.heap.size, 0, none⟩) (by simp) _⟩
  rw [hs, Bool.true_and] at hR
  rw [hs] at h3
  have hRf : Hid (∀ g ∈ grp (eds L), mayJ g.2 = false → R = false) := fun g hg h => by
    rw [hR, ← Bool.not_eq_true, List.all_eq_true]
    intro k
    have := k g hg
    rw [h] at this; cases this
  have hRt : Hid ((∀ g ∈ grp (eds L), mayJ g.2 = true) → R = true) := fun h => by rw [hR, List.all_eq_true]; exact h
  clear hR hs
  replace hv := hide hv
  replace hC := hide hC
  go_wp2_with (first | (go_at_call 75; (with_reducible refine seq_gw (h1.out _ (by rw [← hWb]; exact hX0h.out)) ?_); intro g) | (go_at_call 97; (with_reducible refine seq_gw' (h3.out _ ((by rw [← hWb]; exact hX0h.out : Ext w (w.alloc (.cells #[.bool false] 4))).trans g.grown)) ?_); intro g2) | (go_at_call 98; refine (functions_c _ _ _ _).mono ?_; rintro ee w1 ⟨b, rfl, hb, hle, hX1⟩))
  have hX2 := hide (((hWb ▸ hX0 : Ext w (w.alloc (.cells #[.bool false] 4))).trans g2.grown).trans hX1)
  have o1 : Ob w1 w.heap.size 4 [.bool false] := (((hWb ▸ ob0 : Ob (w.alloc (.cells #[.bool false] 4)) w.heap.size 4 [.bool false])).ext g2.grown).ext hX1
  have hz2 := hX2.out.size
  have hlw := o1.lt
  clear h1 h3 hX1 hle hWs hWb ob0 hX0 hX0h
  refine wp_range (xs := grp (eds L)) rfl (enters_of Tryz.func141 (by kernel_rfl) rfl) (functions_seq L _ w w1 b hC.out (by omega) hX2.out hb) (Ext.refl _) hX2.out.size (fun x vs W h => h.size) (fun x vs => Hg.stab x vs)
    (fun k W => Ob W w.heap.size 4 [.bool false] ∧ (Ext w W ∧ ∀ g ∈ (grp (eds L)).take k, mayJ g.2 = true))
    (fun c k W => ((c = .ret ∧ R = false) ∧ Ob W w.heap.size 4 [.bool false]) ∧ Ext w W)
    (fun k => (Stab.ob _ _ _).and ((Stab.of_ext hz2).and (Stab.pure _)))
    (fun c k => ((Stab.pure _).and (Stab.ob _ _ _)).and (Stab.of_ext hz2))
    ⟨o1, hX2.out, by simp⟩
    (fun k x vs a' _ => ∃ r f, vs = #[r, f] ∧ a' = { tmps := #[.slice A L.length cap, undef, .pointer (some ⟨w.heap.size, 0, none⟩), undef, f, .slice A L.length cap, .int .i64 L.length, .bool (decide ((4096 : Int) < L.length)), .bool (decide ((4096 : Int) < L.length)), .slice A L.length cap, .bool false, .bool (decide ((4096 : Int) < L.length)), .bool (decide ((4096 : Int) < L.length)), .slice A L.length cap, .bool true, .bool false, .bool (decide ((4096 : Int) < L.length)), .slice A L.length cap, .func (.func 141) #[] #[.pointer (some ⟨b, 0, none⟩)], r, f, undef, undef, undef], defers := [] })
    (fun k x vs a' => Stab.pure _) ?assign ?body ?done ?stop
  case assign =>
    rintro LL k x vs W K _ ⟨r, f, rfl, -, -⟩ hK
    gi_wp2
    exact hK _ _ (Ext.refl _) ⟨r, f, rfl, rfl⟩
  case body =>
    rintro LL k x vs a' W hx ⟨o0, hXw, hno⟩ ⟨r', f', e', hr, hf⟩ ⟨r, f, rfl, rfl⟩
    obtain ⟨rfl, rfl⟩ : r = r' ∧ f = f' := by simpa using e'
    obtain ⟨q, J⟩ := x
    have q0 := o0.cell 0 rfl
    have hfr := o0.free 0
    have hcall := hide (stepMay_c J f W hf)
    have hzW := hXw.size
    have hmem : ∀ y ∈ [w.heap.size], ∃ T vs, Ob W y T vs := by intro y hy; simp at hy; subst hy; exact ⟨_, _, o0⟩
    replace hmem := hide hmem
    have hltW := o0.lt
    have hgm : (q, J) ∈ grp (eds L) := List.mem_of_getElem? hx
    haveI : In w.heap.size W := ⟨hltW⟩
    obtain ⟨JA, jcap, rfl, -, -, -⟩ := jw_form hf
    cases hm : mayJ J
    · rw [hm] at hcall
      have hR0 := hide (hRf.out (q, J) hgm hm)
      clear hx hm hgm
      gi_wp2_with (gi_at_call 99; (with_reducible refine seq_gi hcall.out ?_); intro g)
      exact ⟨keeps_fr (S := [w.heap.size]) ((Fr.of_ext g.grown).setCell _ _ (.inl (by simp))) hmem.out, ⟨⟨rfl, hR0.out⟩, (o0.ext g.grown).set 0 _⟩, (hXw.trans g.grown).setCell (p := ⟨w.heap.size, 0, none⟩) (by simp) _⟩
    · rw [hm] at hcall
      have hno2 := hide (show ∀ g ∈ (grp (eds L)).take (k + 1), mayJ g.2 = true from fun g hg => by
        rw [List.take_add_one, hx] at hg
        rcases List.mem_append.1 hg with hg | hg
        · exact hno g hg
        · obtain rfl : g = (q, J) := by simpa using hg
          exact hm)
      clear hx hm hgm hno
      gi_wp2_with (gi_at_call 99; (with_reducible refine seq_gi hcall.out ?_); intro g)
      exact ⟨keeps_ext g.grown, below_fr (S := []) (Fr.of_ext g.grown) hzW (by simp), o0.ext g.grown, hXw.trans g.grown, hno2.out⟩
  case done =>
    rintro D W hD ⟨o0, hXw, hno⟩ hK
    rw [List.take_of_length_le (Nat.le_refl _)] at hno
    have hRf2 := hide (hRt.out hno)
    have q1 := o0.cell 0 rfl
    have hfr := o0.free 0
    clear hno
    go_wp2
    have hK2 := (KeepsOthers.setCell W ⟨w.heap.size, 0, none⟩ (.bool true)).same D _ hK rfl
    have o2 : Ob (W.setCell ⟨w.heap.size, 0, none⟩ (.bool true)) w.heap.size 4 [.bool true] := o0.set 0 _
    have q2 := (ob_put (o' := .deferred none) hK2 rfl o2).cell 0 rfl
    refine ret_mark hK2 (v := .bool true) ?_ ⟨by rw [hRf2.out], put_ext (hXw.setCell (p := ⟨w.heap.size, 0, none⟩) (by simp) _) (by omega) _⟩
    simp [results, Tryz.f45, go_sem, q2]
  case stop =>
    rintro D c k W hD hk ⟨⟨⟨rfl, hna⟩, o0⟩, hXw⟩ hK
    have hRf2 := hide hna
    go_wp2
    have q2 := (ob_put (o' := .deferred none) hK rfl o0).cell 0 rfl
    refine ret_mark hK (v := .bool false) ?_ ⟨by rw [hRf2.out], put_ext hXw (by omega) _⟩
    simp [results, Tryz.f45, go_sem, q2]

set_option maxHeartbeats 8000000 in
set_option maxRecDepth 100000 in
theorem edgeTable_c (L : List Ve) (v : Value) (w : World) (hC : Ew w [] v L) : Calls Tryz.prog 54 #[v] w fun e w' => e = .returned (.bool (tabE (eds L))) ∧ Ext w w' := by
  have h1 := hide (fun w' (hX : Ext w w') => edgeMay_c L v w' (hC.ext hX))
  obtain ⟨A, cap, rfl, hlc, hlm, -⟩ := ew_form hC
  unfold maxLen at hlm
  obtain ⟨R, hR⟩ : ∃ R, R = tabE (eds L) := ⟨_, rfl⟩
  rw [← hR]
  unfold tabE at hR
  have ob0 : Ob (w.alloc (.cells #[.bool false] 4)) w.heap.size 4 [.bool false] := Ob.new w _ [.bool false]
  have hX0 : Ext w (w.alloc (.cells #[.bool false] 4)) := (Ext.refl w).alloc _
  have hX0h := hide hX0
  refine calls_marks Tryz.func54 rfl ?_
  simp only [Tryz.ntmps54, List.size_toArray, List.length_cons, List.length_nil, Nat.reduceAdd, Nat.reduceSub, Array.replicate_succ, Array.replicate_zero, List.push_toArray, List.append_toArray, List.nil_append, List.cons_append]
  cases ha : mayE (eds L)
  · rw [ha, Bool.false_and] at hR
    rw [ha] at h1
    replace hR := hide hR
    go_wp2_with (go_at_call 45; (with_reducible refine seq_gw (h1.out _ hX0h.out) ?_); intro g)
    have o2 : Ob (g.val.setCell ⟨w.heap.size, 0, none⟩ (.bool false)) w.heap.size 4 [.bool false] := (ob0.ext g.grown).set 0 _
    have q2 := o2.cell 0 rfl
    exact ret_plain (v := .bool false) (by simp [results, Tryz.f54, go_sem, q2]) ⟨by rw [hR.out], (hX0.trans g.grown).setCell (p := ⟨w.heap.size, 0, none⟩) (by simp) _⟩
  have hL4 : L.length ≤ 4096 := by have := (mayE_iff.1 ha).1; simpa [eds] using this
  rw [ha, Bool.true_and] at hR
  rw [ha] at h1
  have hRf : Hid (∀ g ∈ grp (eds L), leV g.2 < 0 → R = false) := fun g hg h => by
    rw [hR, ← Bool.not_eq_true, List.all_eq_true]
    intro k
    have := k g hg
    rw [decide_eq_true_iff] at this; omega
  have hRt : Hid ((∀ g ∈ grp (eds L), 0 ≤ leV g.2) → R = true) := fun h => by rw [hR, List.all_eq_true]; exact fun g hg => decide_eq_true (h g hg)
  clear hR ha
  replace hC := hide hC
  go_wp2_with (first | (go_at_call 45; (with_reducible refine seq_gw (h1.out _ hX0h.out) ?_); intro g2) | (go_at_call 98; refine (functions_c _ _ _ _).mono ?_; rintro ee w1 ⟨b, rfl, hb, hle, hX1⟩))
  have hX2 := hide ((hX0.trans g2.grown).trans hX1)
  have o1 : Ob w1 w.heap.size 4 [.bool false] := (ob0.ext g2.grown).ext hX1
  have hz2 := hX2.out.size
  have hlw := o1.lt
  clear h1 hX1 hle ob0 hX0 hX0h
  refine wp_range (xs := grp (eds L)) rfl (enters_of Tryz.func141 (by kernel_rfl) rfl) (functions_seq L _ w w1 b hC.out (by omega) hX2.out hb) (Ext.refl _) hX2.out.size (fun x vs W h => h.size) (fun x vs => Hg.stab x vs)
    (fun k W => Ob W w.heap.size 4 [.bool false] ∧ (Ext w W ∧ ∀ g ∈ (grp (eds L)).take k, 0 ≤ leV g.2))
    (fun c k W => ((c = .ret ∧ R = false) ∧ Ob W w.heap.size 4 [.bool false]) ∧ Ext w W)
    (fun k => (Stab.ob _ _ _).and ((Stab.of_ext hz2).and (Stab.pure _)))
    (fun c k => ((Stab.pure _).and (Stab.ob _ _ _)).and (Stab.of_ext hz2))
    ⟨o1, hX2.out, by simp⟩
    (fun k x vs a' _ => ∃ r f, vs = #[r, f] ∧ a' = { tmps := #[.slice A L.length cap, undef, .pointer (some ⟨w.heap.size, 0, none⟩), undef, f, .slice A L.length cap, .bool true, .bool false, .slice A L.length cap, .func (.func 141) #[] #[.pointer (some ⟨b, 0, none⟩)], r, f, undef, undef, undef], defers := [] })
    (fun k x vs a' => Stab.pure _) ?assign ?body ?done ?stop
  case assign =>
    rintro LL k x vs W K _ ⟨r, f, rfl, -, -⟩ hK
    gi_wp2
    exact hK _ _ (Ext.refl _) ⟨r, f, rfl, rfl⟩
  case body =>
    rintro LL k x vs a' W hx ⟨o0, hXw, hno⟩ ⟨r', f', e', hr, hf⟩ ⟨r, f, rfl, rfl⟩
    obtain ⟨rfl, rfl⟩ : r = r' ∧ f = f' := by simpa using e'
    obtain ⟨q, J⟩ := x
    have q0 := o0.cell 0 rfl
    have hfr := o0.free 0
    have hcall := hide (stepLeast_c J f W hf)
    have hzW := hXw.size
    have hmem : ∀ y ∈ [w.heap.size], ∃ T vs, Ob W y T vs := by intro y hy; simp at hy; subst hy; exact ⟨_, _, o0⟩
    replace hmem := hide hmem
    have hltW := o0.lt
    have hgm : (q, J) ∈ grp (eds L) := List.mem_of_getElem? hx
    haveI : In w.heap.size W := ⟨hltW⟩
    obtain ⟨JA, jcap, rfl, -, -, -⟩ := jw_form hf
    by_cases hm : leV J < 0
    · have hR0 := hide (hRf.out (q, J) hgm hm)
      generalize leV J = z at *
      clear hx hgm
      gi_wp2_with (gi_at_call 105; (with_reducible refine seq_gi hcall.out ?_); intro g)
      exact ⟨keeps_fr (S := [w.heap.size]) ((Fr.of_ext g.grown).setCell _ _ (.inl (by simp))) hmem.out, ⟨⟨rfl, hR0.out⟩, (o0.ext g.grown).set 0 _⟩, (hXw.trans g.grown).setCell (p := ⟨w.heap.size, 0, none⟩) (by simp) _⟩
    · have hno2 := hide (show ∀ g ∈ (grp (eds L)).take (k + 1), 0 ≤ leV g.2 from fun g hg => by
        rw [List.take_add_one, hx] at hg
        rcases List.mem_append.1 hg with hg | hg
        · exact hno g hg
        · obtain rfl : g = (q, J) := by simpa using hg
          exact Int.not_lt.1 hm)
      replace hno := hide hno
      have hm' : 0 ≤ leV J := Int.not_lt.1 hm
      generalize leV J = z at *
      clear hx hgm
      gi_wp2_with (gi_at_call 105; (with_reducible refine seq_gi hcall.out ?_); intro g)
      exact ⟨keeps_ext g.grown, below_fr (S := []) (Fr.of_ext g.grown) hzW (by simp), o0.ext g.grown, hXw.trans g.grown, hno2.out⟩
  case done =>
    rintro D W hD ⟨o0, hXw, hno⟩ hK
    rw [List.take_of_length_le (Nat.le_refl _)] at hno
    have hRf2 := hide (hRt.out hno)
    have q1 := o0.cell 0 rfl
    have hfr := o0.free 0
    clear hno
    go_wp2
    have hK2 := (KeepsOthers.setCell W ⟨w.heap.size, 0, none⟩ (.bool true)).same D _ hK rfl
    have o2 : Ob (W.setCell ⟨w.heap.size, 0, none⟩ (.bool true)) w.heap.size 4 [.bool true] := o0.set 0 _
    have q2 := (ob_put (o' := .deferred none) hK2 rfl o2).cell 0 rfl
    refine ret_mark hK2 (v := .bool true) ?_ ⟨by rw [hRf2.out], put_ext (hXw.setCell (p := ⟨w.heap.size, 0, none⟩) (by simp) _) (by omega) _⟩
    simp [results, Tryz.f54, go_sem, q2]
  case stop =>
    rintro D c k W hD hk ⟨⟨⟨rfl, hna⟩, o0⟩, hXw⟩ hK
    have hRf2 := hide hna
    go_wp2
    have q2 := (ob_put (o' := .deferred none) hK rfl o0).cell 0 rfl
    refine ret_mark hK (v := .bool false) ?_ ⟨by rw [hRf2.out], put_ext hXw (by omega) _⟩
    simp [results, Tryz.f54, go_sem, q2]

end Go.Proofs.YtljkneajdndgjaaGreat
