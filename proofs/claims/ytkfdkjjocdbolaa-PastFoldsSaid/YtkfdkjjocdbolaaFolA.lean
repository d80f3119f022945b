/-
  A helper of ours: no claim of its own. Layer 13 (fold): what the code keeps, in memory; a number freed, a message's result.
-/
import Derived.Test.YtkfdkjjocdbolaaArgF
import Derived.Test.YtkfdkjjocdbolaaMapW
import Derived.Test.YtkfdkjjocdbolaaEdgA
import Derived.Test.YtkfdkjjocdbolaaMsgC
import Derived.Test.YtkfdkjjocdbolaaReg
set_option linter.unusedVariables false
set_option linter.unusedSimpArgs false
namespace Go.Proofs.Ytkfdkjjocdbolaa
open Go.RowKit
attribute [local go_sem] GW.cell GW.frozen In.eq_true In.le_true In.ne In.ne' In.ne_add In.ne_add' In.lt_add Upto.le_true Upto.le_add Upto.lt_add
/-- Grown out of w: told by the world's make. -/
class Gn (w w' : World) : Prop where
  ext : Ext w w'
instance Gn.refl (w : World) : Gn w w := ⟨Ext.refl w⟩
instance Gn.alloc {w w' : World} (o : Obj) [h : Gn w w'] : Gn w (w'.alloc o) := ⟨h.ext.alloc o⟩
instance Gn.drew {w w' : World} [h : Gn w w'] : Gn w w'.drew := ⟨h.ext.drew⟩
instance Gn.drewN {w w' : World} (n : Nat) [h : Gn w w'] : Gn w (w'.drewN n) := ⟨h.ext.drewN n⟩
instance Gn.gw {w W : World} (g : GW W) [h : Gn w W] : Gn w g.val := ⟨h.ext.trans g.grown⟩
theorem kKey : Go.Maps.Keyed Try.prog 3 := Go.Maps.int_keyed Try.underlying3
def Kn (w : World) (mb n : Nat) (T : List Ke) : Prop := Mv w Try.prog 3 kent mb n T
def Fs (w : World) (s mb n : Nat) (c ser : Int) (T : List Ke) : Prop := Ob w s 87 [.int .i64 c, .int .i64 ser, .map (some mb)] ∧ Kn w mb n T
theorem Fs.ext {w w' : World} {s mb n : Nat} {c ser : Int} {T : List Ke} (h : Fs w s mb n c ser T) (k : Ext w w') : Fs w' s mb n c ser T := ⟨h.1.ext k, h.2.kept (row := none) ⟨k.os, k.tape, k.output, k.size, fun i hi _ => k.block i hi⟩ (by simp)⟩
theorem ext_by0 {w w' : World} (k : Ext w w') : w.grownBy w' none := ⟨k.os, k.tape, k.output, k.size, fun i hi _ => k.block i hi⟩
abbrev zChV : Value := .agg #[.int .i64 0, .slice none 0 0, .int .i64 0, .int .i64 0, .int .i64 0, .int .i64 0]
theorem zeroCh (w : World) : (zeroValue 42).run Try.prog w = .ok zChV w := by kernel_rfl
theorem key_of {id : Int} (h : inI id) : keyOf Try.prog 3 (.int .i64 id) = some (.int .i64 id) := Go.Maps.keyOf_int_mk Try.underlying3 (by unfold inI at h; simp [Lit.wf, IntKind.min, IntKind.max]; first | omega | (simp [IntKind.wrap, IntKind.bits, IntKind.signed]; omega))
def knV (o : Option Ke) : Value := (o.map fun q => chV q.1 q.2.2).getD zChV
theorem look_ok {w : World} {mb n : Nat} {T : List Ke} (h : Kn w mb n T) {id : Int} (hi : inI id) : ∀ w' [Gn w w'], (Instr.lookup 85 (.map (some mb)) (.int .i64 id) true).run Try.prog w' = .ok (.tuple #[knV (atK T id), .bool (atK T id).isSome]) w' := fun w' k =>
  (h.kept (ext_by0 k.ext) (by simp)).lookOk kKey Try.underlying85 (zeroCh w') (key_of hi)
theorem look_1 {w : World} {mb n : Nat} {T : List Ke} (h : Kn w mb n T) {id : Int} (hi : inI id) : ∀ w' [Gn w w'], (Instr.lookup 85 (.map (some mb)) (.int .i64 id) false).run Try.prog w' = .ok (knV (atK T id)) w' := fun w' k =>
  (h.kept (ext_by0 k.ext) (by simp)).lookup kKey Try.underlying85 (zeroCh w') (key_of hi)
set_option maxHeartbeats 4000000 in
set_option maxRecDepth 100000 in
theorem free_c (s mb n : Nat) (c ser id : Int) (T : List Ke) (hi : inI id) (w : World) (h : Fs w s mb n c ser T) (hR : ∀ p ∈ T, Rw w [] p.1 p.2.2.2.1) (hms : s ≠ mb) : Calls Try.prog 38 #[.pointer (some ⟨s, 0, none⟩), .int .i64 id] w fun e w' => e = .returned (.tuple #[]) ∧ Fs w' s mb n c ser (freeK T c id) ∧ Fr [mb] w w' := by
  have c0 := h.1.cell 0 rfl
  have c2 := h.1.cell 2 rfl
  have hlt := h.1.lt
  haveI : In s w := ⟨hlt⟩
  have hl := look_ok h.2 hi
  unfold freeK
  cases ha : atK T id with
  | none =>
    rw [ha] at hl
    have hf := hide h
    clear h
    replace hl : ∀ w' [Gn w w'], (Instr.lookup 85 (.map (some mb)) (.int .i64 id) true).run Try.prog w' = .ok (.tuple #[zChV, .bool false]) w' := hl
    go_enter Try.func38, Try.ntmps38
    go_wp2_with fail
    refine wp_region_gw (by kernel_rfl) (by kernel_rfl) ?_
    repeat (go_big_quiet_step (fail))
    refine wpQuiet_nil ?_
    intro g
    go_wp2_with fail
    go_end0
    have hX := ((Ext.refl w).alloc (.cells #[.int .i64 0, .slice none 0 0, .int .i64 0, .int .i64 0, .int .i64 0, .int .i64 0] 42)).trans g.grown
    exact ⟨rfl, hf.out.ext hX, Fr.of_ext hX⟩
  | some p =>
    rw [ha] at hl
    obtain ⟨PA, pc, epv⟩ := rw_val (hR p (atK_some ha).1)
    obtain ⟨pv, pid, ps, pr, ⟨po1, po2⟩, pn1, pn2⟩ := p
    simp only at epv
    subst epv
    generalize pr.length = pl at *
    have hf := hide h
    have hO := hide h.1
    have hK := hide h.2
    clear h
    replace hl : ∀ w' [Gn w w'], (Instr.lookup 85 (.map (some mb)) (.int .i64 id) true).run Try.prog w' = .ok (.tuple #[.agg #[.int .i64 ps, (.slice PA pl pc), .int .i64 po1, .int .i64 po2, .int .i64 pn1, .int .i64 pn2], .bool true]) w' := hl
    simp only
    by_cases hle : pn2 ≤ c
    · rw [if_pos hle]
      have dl : decide (pn2 ≤ c) = true := decide_eq_true hle
      go_enter Try.func38, Try.ntmps38
      go_wp2_with fail
      refine wp_region_gw (by kernel_rfl) (by kernel_rfl) ?_
      repeat (go_big_quiet_step (fail))
      refine wpQuiet_nil ?_
      intro g
      have hX := ((Ext.refl w).alloc (.cells #[.int .i64 ps, (.slice PA pl pc), .int .i64 po1, .int .i64 po2, .int .i64 pn1, .int .i64 pn2] 42)).trans g.grown
      have hK2 := hide (hK.out.kept (ext_by0 hX) (by simp))
      have hO2 := hide (hO.out.ext hX)
      have hXh := hide hX
      clear hX
      go_wp2_with (at_delete; refine wpl_mdel rfl (.tmp 29) (.tmp 30) rfl rfl rfl kKey Try.underlying85 hK2.out (key_of hi) ?_; intro w5 hM5 hg5)
      first | go_frame | skip
      go_end0
      exact ⟨rfl, ⟨hO2.out.grown hg5 (by simpa using hms), hM5⟩, (Fr.of_ext hXh.out).grown hg5 (fun z hz => by obtain rfl := Option.some.inj hz; exact .inl (by simp))⟩
    · rw [if_neg hle]
      have dl : decide (pn2 ≤ c) = false := decide_eq_false hle
      go_enter Try.func38, Try.ntmps38
      go_wp2_with fail
      refine wp_region_gw (by kernel_rfl) (by kernel_rfl) ?_
      repeat (go_big_quiet_step (fail))
      refine wpQuiet_nil ?_
      intro g
      go_wp2_with fail
      go_end0
      have hX := ((Ext.refl w).alloc (.cells #[.int .i64 ps, (.slice PA pl pc), .int .i64 po1, .int .i64 po2, .int .i64 pn1, .int .i64 pn2] 42)).trans g.grown
      exact ⟨rfl, hf.out.ext hX, Fr.of_ext hX⟩
end Go.Proofs.Ytkfdkjjocdbolaa
