/-
  A helper of ours: no claim of its own. Layer 8 (msg): a message written, by the code.
-/
import Derived.Test.YthidjngipkelcaaDoorMsgB
import Derived.Test.YthidjngipkelcaaDoorRowF
import Derived.Test.YthidjngipkelcaaDoorValG
import Derived.Test.YthidjngipkelcaaDoorReg3
set_option linter.unusedVariables false
set_option linter.unusedSimpArgs false
namespace Go.Proofs.YthidjngipkelcaaDoor
open Go.RowKit
attribute [local go_sem] GW.cell GW.frozen In.eq_true In.le_true In.ne In.ne' In.ne_add In.ne_add' In.lt_add Upto.le_true Upto.le_add Upto.lt_add
theorem own_twoT {w : World} {B : Nat} {v : Value} {l : List ByteArray} {s t : ByteArray} (h : w.ownsRow B 9 1 v (l.length + 2) (sc l ++ [.string s, .string t])) : OwnT w B v (l ++ [s, t]) := by
  unfold OwnT; rw [List.length_append, show [s, t].length = 2 from rfl]; simpa [sc] using h
theorem own_far {w : World} {base e sz n : Nat} {v : Value} {xs : List Value} (h : w.ownsRow base e sz v n xs) (p : Addr) (u : Value) (hne : v.ownBlock ≠ some p.block) : (w.setCell p u).ownsRow base e sz v n xs := by
  refine ⟨h.1, ?_⟩
  rcases h.2 with h2 | ⟨g, cap, cur, rfl, hb, hg, hr⟩
  · exact .inl h2
  · exact .inr ⟨g, cap, cur, rfl, hb, (Below.heap_setCell w p u g (fun e => hne (by simp [Value.ownBlock, e]))).trans hg, hr⟩
theorem buildT2 (x y : ByteArray) (w : World) : (Instr.buildSlice 48 2 #[(0, .string x), (1, .string y)]).run Tryd.prog w = .ok (.slice (some ⟨w.heap.size, 0, none⟩) 2 2) (w.alloc (.cells #[.string x, .string y] 9)) := by
  simp [go_sem]
def two (x y : ByteArray) : Fact := .st (fun u w => Sl w [] 1 u 2 [.string x, .string y]) (fun _ _ _ h k => Sl.ext h k)
theorem two_new (x y : ByteArray) (w : World) : Sl (w.alloc (.cells #[.string x, .string y] 9)) [] 1 (.slice (some ⟨w.heap.size, 0, none⟩) 2 2) 2 [.string x, .string y] :=
  Sl.own (World.ownsRow_lit (base := w.heap.size) (e := 9) (size := 1) w #[.string x, .string y] 2 (Nat.le_refl _) (by decide) rfl) (by simp)
/-- A number's digits, as a text. -/
abbrev dg (n : Int) : ByteArray := ⟨(Lib.itoa n).toArray⟩
theorem dg_len {n : Int} (h : inI n) : (dg n).size ≤ 21 := by
  have := Lib.itoa_length_le n h.1 h.2
  show (Lib.itoa n).toArray.size ≤ 21
  simpa using this
/-- The box of a list of texts, and the list. -/
def Bx (w : World) (base B : Nat) (v : Value) (ws : List ByteArray) : Prop := Ob w B 48 [v] ∧ OwnT w base v ws ∧ base ≤ B
theorem Bx.ext {w w' : World} {base B : Nat} {v : Value} {ws : List ByteArray} (h : Bx w base B v ws) (k : Ext w w') : Bx w' base B v ws := ⟨h.1.ext k, own_ext h.2.1 k, h.2.2⟩
set_option maxHeartbeats 4000000 in
set_option maxRecDepth 100000 in
theorem add_c (base B : Nat) (v : Value) (ws : List ByteArray) (wd : ByteArray) (n : Int) (hn : inI n) (w : World) (ht : Tab w) (hbx : Bx w base B v ws) (hws : ws.length ≤ 100) : Calls Tryd.prog 22 #[.string wd, .int .i64 n, .pointer (some ⟨B, 0, none⟩)] w fun e w' => e = .returned (.tuple #[]) ∧ ∃ v', Bx w' base B v' (ws ++ [wd, dg n]) ∧ Fr (B :: ob v) w w' := by
  obtain ⟨hO, ho, hbB⟩ := hbx
  obtain ⟨A, cap, rfl⟩ := own_form ho
  have hbase := hO.lt
  have hc := hide (fun w h => show_c n hn w h)
  replace hO := hide hO
  replace ho := hide ho
  replace ht := hide ht
  go_enter Tryd.func22, Tryd.ntmps22
  refine wp_region_list_tail 5 [.is (.slice A ws.length cap), .is (.string wd), .is (.int .i64 n), .is (.string (dg n)), two wd (dg n)] (by kernel_rfl) (by kernel_rfl) (by kernel_rfl) (by kernel_rfl) (by kernel_rfl) (by kernel_rfl) (by kernel_rfl) ?_ ?_
  · refine ⟨?_, ?_, ?_, ?_, ?_, trivial⟩
    · intro b w' h hE
      have f2 : b.tmps.getD 2 undef = .pointer (some ⟨B, 0, none⟩) := hE 2 (of_decide_eq_true (by kernel_rfl))
      have c0 := (hO.out.ext h.ext).cell 0 rfl
      exact good_load (wanted_none rfl) rfl f2 (by simp [go_sem, c0]) rfl
    · intro b w' h hE
      have f0 : b.tmps.getD 0 undef = .string wd := hE 0 (of_decide_eq_true (by kernel_rfl))
      exact good_move (wanted_none rfl) rfl f0
    · intro b w' h hE
      have f1 : b.tmps.getD 1 undef = .int .i64 n := hE 1 (of_decide_eq_true (by kernel_rfl))
      exact good_move (wanted_none rfl) rfl f1
    · intro b w' h hE
      have f7 : b.tmps.getD 7 undef = .int .i64 n := h.dep 2 _ 7 (by kernel_rfl) rfl rfl
      refine good_call (wanted_none rfl) rfl (enters Tryd.func23 (by kernel_rfl) rfl) ?_
      rw [show (#[.tmp 7] : Array Operand).map b.eval = #[.int .i64 n] by simp [Act.eval, f7]]
      exact (hc.out _ (ht.out.ext h.ext)).mono fun e w1 ⟨he, hx⟩ => ⟨_, he, rfl, hx⟩
    · intro b w' h hE
      have f6 : b.tmps.getD 6 undef = .string wd := h.dep 1 _ 6 (by kernel_rfl) rfl rfl
      have f8 : b.tmps.getD 8 undef = .string (dg n) := h.dep 3 _ 8 (by kernel_rfl) rfl rfl
      refine good_grow (w' := w'.alloc (.cells #[.string wd, .string (dg n)] 9)) (v := .slice (some ⟨w'.heap.size, 0, none⟩) 2 2) (wanted_none rfl) ?_ (two_new _ _ _) ((Ext.refl _).alloc _)
      have g6 : b.tmps[6]?.getD undef = .string wd := by rw [← Array.getD_eq_getD_getElem?]; exact f6
      have g8 : b.tmps[8]?.getD undef = .string (dg n) := by rw [← Array.getD_eq_getD_getElem?]; exact f8
      have := buildT2 wd (dg n) w'
      simp [execOp, Act.eval, g6, g8, this, Sem.run_bind, Sem.run_pure, Result.andThen_ok]
  · intro b w2 hX2 hd hz he' hf
    have f0 : b.tmps.getD 5 undef = .slice A ws.length cap := hf 0 _ 5 (by omega) rfl rfl
    have f9 : Sl w2 [] 1 (b.tmps.getD 9 undef) 2 [.string (wd), .string (dg n)] := hf 4 _ 9 (by omega) rfl rfl
    have e := frame_puts hd hz he'
    obtain ⟨x, hx⟩ : ∃ x : Nat → Value, ∀ d, b.tmps.getD d undef = x d := ⟨_, fun _ => rfl⟩
    rw [hx] at f0 f9
    obtain ⟨A2, c2, e9, _⟩ := id f9
    rw [show dstsOf _ = [5, 6, 7, 8, 9] from rfl] at e
    simp only [List.foldl_cons, List.foldl_nil, hx, Act.put, List.setIfInBounds_toArray, List.set_cons_succ, List.set_cons_zero] at e
    rw [f0, e9] at e
    rw [e9] at f9
    replace f9 := hide f9
    clear hf he' hz hd hx f0
    subst e
    have hzw := hX2.size
    have hnB := hO.out.not_own ho.out (T := 48) (by decide)
    simp only [List.drop_succ_cons, List.drop_zero]
    go_wp2_with (at_builtin; (refine wpl_app tStr rfl (.tmp 5) (.tmp 9) rfl rfl (own_ext ho.out hX2) rfl (src_sl Tryd.underlying48 f9.out (by intro u hu; simp at hu; rcases hu with rfl | rfl <;> rfl) (by omega)) (by unfold maxLen; omega) (by omega) (by omega) ?_; intro v1 w1 ho1 hg1 hob1; replace hg1 : w2.grownBy w1 (Value.slice A ws.length cap).ownBlock := hg1; have O1 := (hO.out.ext hX2).grown hg1 (fun e => hnB e.symm); have k0 := O1.cell 0 rfl; have z0 := O1.free 0; have hlt1 := O1.lt; haveI : In B w1 := ⟨hlt1⟩; obtain ⟨A1, cp1, rfl⟩ := own_form ho1; replace ho1 := own_twoT ho1))
    go_end0
    have hF := ((Fr.of_ext (S := B :: ob (.slice A ws.length cap)) hX2).then (fr_grown hg1) (fun x hx => .inl (by simp; exact .inr (by simpa [ob] using hx)))).setCell ⟨B, 0, none⟩ (.slice A1 (ws.length + 2) cp1) (.inl (by simp))
    refine ⟨rfl, .slice A1 (ws.length + 2) cp1, ⟨O1.set 0 _, ?_, hbB⟩, hF⟩
    exact own_far ho1 _ _ (O1.not_own ho1 (by decide))
end Go.Proofs.YthidjngipkelcaaDoor
