/-
  A helper of ours: no claim of its own. Layer 6 (row): a row's bytes, as lists: they tell the row; and what is read of bytes as a row. No program in it.
-/
import Derived.Test.YtajelkkiijdegaaGreatSpanA
import Derived.Test.YtajelkkiijdegaaGreatFolC
import Derived.Test.YtajelkkiijdegaaGreatRowE
import Derived.Test.YtajelkkiijdegaaGreatMapV
import Derived.BigQuiet
import Derived.Laws.BitsAllLaws
import Derived.Laws.Bits64b
import Derived.Laws.BitsLemmas
import Derived.Test.YtajelkkiijdegaaGreatRows
import Derived.Test.YtajelkkiijdegaaGreatMem
import Derived.Handy
import Derived.WalkSmall
import Derived.Test.YtajelkkiijdegaaGreatRowA
import Derived.WalkSpells
import Derived.Deep.LoopGhost
set_option linter.unusedVariables false
set_option linter.unusedSimpArgs false
namespace Go.Proofs.YtajelkkiijdegaaGreat
open Go.RowKit
theorem Fs.more {w : World} {s mb n n' : Nat} {c ser : Int} {T : List Ke} (h : Fs w s mb n c ser T) (hn : n ≤ n') : Fs w s mb n' c ser T := by
  obtain ⟨h1, es, h2, h3⟩ := h
  exact ⟨h1, es, h2.mono hn, h3⟩
def rowsK (w : World) (T : List Ke) : Prop := ∀ p ∈ T, Rw w [] p.1 p.2.2.2.1
theorem rows_free {w : World} {T : List Ke} (h : rowsK w T) (c id : Int) : rowsK w (freeK T c id) := by
  unfold freeK
  split
  · split
    · exact fun p hp => h p (mem_delK.1 hp).1
    · exact h
  · exact h
theorem rows_put {w : World} {T : List Ke} (h : rowsK w T) {x : Ke} (hx : Rw w [] x.1 x.2.2.2.1) : rowsK w (putM kent T x) := fun p hp => by
  rcases List.mem_cons.1 hp with rfl | hp
  · exact hx
  · exact h p (mem_delK.1 (show p ∈ delK T x.2.1 from hp)).1
theorem accept_c (s mb n : Nat) (S : StD) (T : List Ke) (m : PM) (v : Value) (hI : InvF T S) (h0 : chkD S m = 0) (hin : inI m.1.2.1) (hN : S.2.length ≤ 900000000) (hn : n ≤ 900000000) (wA w : World) (hX : Ext wA w) (hT : rowsK wA T) (hv : Rw wA [] v m.2) (h : Fs w s mb n S.1 S.2.length (freeK T S.1 m.1.2.1)) (hms : s ≠ mb) :
    Calls Tryz.prog 151 #[.pointer (some ⟨s, 0, none⟩), mg m.1.1 m.1.2.1 m.1.2.2.1 m.1.2.2.2 v] w fun e w' => ∃ u, e = .returned (chV u (tk S m).2) ∧ Rw wA [] u (tk S m).2.2.1 ∧ Fs w' s mb (n + 1) (tk S m).1.1 (tk S m).1.2.length (accK (freeK T S.1 m.1.2.1) S.2.length v m) ∧ rowsK wA (accK (freeK T S.1 m.1.2.1) S.2.length v m) ∧ Fr [s, mb] w w' := by
  have hch := hI.change m h0
  have hkn := hI.kn_free m.1.2.1
  obtain ⟨hI1, hI2⟩ := hI.free m.1.2.1
  have hTf := rows_free hT S.1 m.1.2.1
  have hz := h0
  rw [hI.chk] at hz
  obtain ⟨z1, z2, z3, z4⟩ := chkO_zero hz
  unfold mkM at z1
  rw [hch]
  clear hch
  obtain ⟨⟨k, i, f, t⟩, l⟩ := m
  simp only at *
  generalize freeK T S.1 i = T1 at *
  rcases mchk_kind z1 with rfl | rfl | rfl
  · refine (acceptI_c s mb n S.2.length S.1 T1 i f t l v hin (by omega) (by omega) w h (Sl.ext hv hX) hms).mono ?_
    rintro e w' ⟨rfl, hF, hfr⟩
    unfold accK tk
    simp only [show ((1 : Int) = 3) = False by simp, if_false, if_true]
    refine ⟨v, rfl, hv, ?_, rows_put hTf hv, hfr⟩
    rw [List.length_append, List.length_singleton]
    exact hF
  · obtain ⟨e, he, u1, u2, u3⟩ := z2 rfl
    have hp : ∃ p, atK T1 i = some p ∧ e = (p.2.2.2.1, p.2.2.2.2.2) := by
      unfold knK at he
      cases hq : atK T1 i with
      | none => rw [hq] at he; cases he
      | some p => rw [hq] at he; exact ⟨p, rfl, (Option.some.inj he).symm⟩
    obtain ⟨p, hp, rfl⟩ := hp
    obtain ⟨g1, g2⟩ := hI1.known p (atK_some hp).1 (hI2 p hp)
    have gev := hI1.evs _ (List.mem_of_getElem? g2)
    have gp := hI1.good p (atK_some hp).1
    have hpr := hTf p (atK_some hp).1
    simp only at gev u1 u2 u3
    refine (acceptR_c s mb n S.2.length S.1 T1 i f t l v p hin hp (by omega) gev.1 gev.2.1 gev.2.2.1 u2 u1 (by omega) w (Sl.ext hpr hX) h (Sl.ext hv hX) hms).mono ?_
    rintro e w' ⟨rfl, hF, hfr⟩
    rw [hp, Option.map_some] at hkn
    unfold accK tk
    simp only [show ((2 : Int) = 3) = False by simp, show ((2 : Int) = 1) = False by simp, if_false, hp, hkn]
    refine ⟨p.1, rfl, hpr, ?_, rows_put hTf hpr, hfr⟩
    rw [List.length_set]
    exact hF
  · refine (acceptC_c s mb n S.1 S.2.length T1 i f t l v w h (Sl.ext hv hX) hms).mono ?_
    rintro e w' ⟨rfl, hF, hfr⟩
    unfold accK tk
    simp only [if_true]
    exact ⟨.slice none 0 0, rfl, Sl.nil _ _ _, hF.more (by omega), hTf, hfr⟩
end Go.Proofs.YtajelkkiijdegaaGreat
set_option linter.unusedVariables false
set_option linter.unusedSimpArgs false
namespace Go.Proofs.YtajelkkiijdegaaGreat
open Go.RowKit
/-- Block s is a state, block mb a map. -/
def StOk (w : World) (s mb : Nat) : Prop := (∃ vs, Ob w s 212 vs) ∧ ∃ es c, w.heap[mb]? = some (.map es c)
theorem Fs.ok {w : World} {s mb n : Nat} {c ser : Int} {T : List Ke} (h : Fs w s mb n c ser T) : StOk w s mb := by
  obtain ⟨h1, es, ⟨es', c', g1, -⟩, -⟩ := h
  exact ⟨⟨_, h1⟩, _, _, g1⟩
theorem Fs.same {w w' : World} {s mb n : Nat} {c ser : Int} {T : List Ke} (h : Fs w s mb n c ser T) (h1 : w'.heap[s]? = w.heap[s]?) (h2 : w'.heap[mb]? = w.heap[mb]?) : Fs w' s mb n c ser T := by
  obtain ⟨k1, es, ⟨es', c', g1, r⟩, k2⟩ := h
  exact ⟨h1.trans k1, es, ⟨es', c', h2.trans g1, r⟩, k2⟩
theorem tk_len (s : StD) (m : PM) : (tk s m).1.2.length ≤ s.2.length + 1 := by
  unfold tk
  split
  · exact Nat.le_succ _
  · split
    · rw [List.length_append, List.length_singleton]; exact Nat.le_refl _
    · split
      · exact Nat.le_succ _
      · rw [List.length_set]; exact Nat.le_succ _
theorem stp_len (s : StD) (m : PM) : (stp s m).2.length ≤ s.2.length + 1 := by
  unfold stp
  split
  · exact tk_len s m
  · exact Nat.le_succ _
theorem runS_len : ∀ (l : List PM) (s : StD), (runS s l).2.length ≤ s.2.length + l.length
  | [], s => Nat.le_refl _
  | m :: r, s => by
    have h1 := runS_len r (stp s m)
    have h2 := stp_len s m
    show (runS (stp s m) r).2.length ≤ _
    rw [List.length_cons]; omega
/-- Whether there is a change is told by its serial. -/
theorem chg_ser {T : List Ke} {S : StD} (hI : InvF T S) (m : PM) : isC S m = decide (0 < (chg S m).1) := by
  unfold isC chg
  by_cases h0 : chkD S m = 0
  · rw [if_pos h0, hI.change m h0]
    by_cases h3 : m.1.1 = 3
    · rw [if_pos h3]
      simp [h0, h3, zCh]
    · rw [if_neg h3]
      have hz := h0
      rw [hI.chk] at hz
      obtain ⟨z1, z2, z3, z4⟩ := chkO_zero hz
      have hk := mchk_kind z1
      by_cases h1 : m.1.1 = 1
      · rw [if_pos h1]
        simp [h0, h3]
      · rw [if_neg h1]
        have h2 : m.1.1 = 2 := by rcases hk with hk | hk | hk; exact absurd hk h1; exact hk; exact absurd hk h3
        obtain ⟨e, he, -⟩ := z2 h2
        unfold knK at he
        cases hp : atK (freeK T S.1 m.1.2.1) m.1.2.1 with
        | none => rw [hp] at he; cases he
        | some p =>
          obtain ⟨h1', h2'⟩ := hI.free m.1.2.1
          obtain ⟨g1, -⟩ := h1'.known p (atK_some hp).1 (h2' p hp)
          simp [h0, h3]
          omega
  · rw [if_neg h0]
    simp [h0, zCh]
/-- What the code keeps as events: those that were cancelled have no lifetime. -/
abbrev Ex := (Int × List Vl) × Spn
end Go.Proofs.YtajelkkiijdegaaGreat
set_option linter.unusedVariables false
set_option linter.unusedSimpArgs false
namespace Go.Proofs.YtajelkkiijdegaaGreat
open Go.RowKit
attribute [local go_sem] GW.cell GW.frozen In.eq_true In.le_true In.ne In.ne' In.ne_add In.ne_add' In.lt_add Upto.le_true Upto.le_add Upto.lt_add
/-- An entry: the slices of its row and of its jumps, the row, the jumps. -/
abbrev Fe := Value × Value × Gp
end Go.Proofs.YtajelkkiijdegaaGreat
set_option linter.unusedVariables false
set_option linter.unusedSimpArgs false
namespace Go.Proofs.YtajelkkiijdegaaGreat
open Go.RowKit
attribute [local go_sem] GW.cell GW.frozen In.eq_true In.le_true In.ne In.ne' In.ne_add In.ne_add' In.lt_add Upto.le_true Upto.le_add Upto.lt_add
end Go.Proofs.YtajelkkiijdegaaGreat
set_option linter.unusedVariables false
set_option linter.unusedSimpArgs false
namespace Go.Proofs.YtajelkkiijdegaaGreat
open Go.RowKit
attribute [local go_sem] GW.cell GW.frozen In.eq_true In.le_true In.ne In.ne' In.ne_add In.ne_add' In.lt_add Upto.le_true Upto.le_add Upto.lt_add
end Go.Proofs.YtajelkkiijdegaaGreat
set_option linter.unusedVariables false
set_option linter.unusedSimpArgs false
namespace Go.Proofs.YtajelkkiijdegaaGreat
open Go.RowKit
attribute [local go_sem] GW.cell GW.frozen In.eq_true In.le_true In.ne In.ne' In.ne_add In.ne_add' In.lt_add Upto.le_true Upto.le_add Upto.lt_add
end Go.Proofs.YtajelkkiijdegaaGreat
set_option linter.unusedVariables false
set_option linter.unusedSimpArgs false
namespace Go.Proofs.YtajelkkiijdegaaGreat
open Go.RowKit
attribute [local go_sem] GW.cell GW.frozen In.eq_true In.le_true In.ne In.ne' In.ne_add In.ne_add' In.lt_add Upto.le_true Upto.le_add Upto.lt_add
end Go.Proofs.YtajelkkiijdegaaGreat
set_option linter.unusedVariables false
set_option linter.unusedSimpArgs false
namespace Go.Proofs.YtajelkkiijdegaaGreat
open Go.RowKit
attribute [local go_sem] GW.cell GW.frozen In.eq_true In.le_true In.ne In.ne' In.ne_add In.ne_add' In.lt_add Upto.le_true Upto.le_add Upto.lt_add
section
variable {kf : List Vl → List UInt8} {T D : List Fe} {p : Fe}
end
end Go.Proofs.YtajelkkiijdegaaGreat
set_option linter.unusedVariables false
set_option linter.unusedSimpArgs false
namespace Go.Proofs.YtajelkkiijdegaaGreat
open Go.RowKit
attribute [local go_sem] GW.cell GW.frozen In.eq_true In.le_true In.ne In.ne' In.ne_add In.ne_add' In.lt_add Upto.le_true Upto.le_add Upto.lt_add
attribute [-go_sem] sliced
attribute [local go_sem] sliced_eq
end Go.Proofs.YtajelkkiijdegaaGreat
set_option linter.unusedVariables false
set_option linter.unusedSimpArgs false
namespace Go.Proofs.YtajelkkiijdegaaGreat
open Go.RowKit
attribute [local go_sem] GW.cell GW.frozen In.eq_true In.le_true In.ne In.ne' In.ne_add In.ne_add' In.lt_add Upto.le_true Upto.le_add Upto.lt_add
end Go.Proofs.YtajelkkiijdegaaGreat
namespace Go.Proofs.YtajelkkiijdegaaGreat
end Go.Proofs.YtajelkkiijdegaaGreat
set_option linter.unusedVariables false
set_option linter.unusedSimpArgs false
namespace Go.Proofs.YtajelkkiijdegaaGreat
open Go.RowKit
attribute [local go_sem] GW.cell GW.frozen In.eq_true In.le_true In.ne In.ne' In.ne_add In.ne_add' In.lt_add Upto.le_true Upto.le_add Upto.lt_add
end Go.Proofs.YtajelkkiijdegaaGreat
namespace Go.Proofs.YtajelkkiijdegaaGreat

section
variable {l : List UInt8} {k most : Nat}
end
section
variable {l : List UInt8} {k : Nat} {c : UInt8}
end
section
variable {l l1 : List UInt8} {e e1 most : Int}
end
end Go.Proofs.YtajelkkiijdegaaGreat
set_option linter.unusedVariables false
set_option linter.unusedSimpArgs false
namespace Go.Proofs.YtajelkkiijdegaaGreat

end Go.Proofs.YtajelkkiijdegaaGreat
set_option linter.unusedVariables false
set_option linter.unusedSimpArgs false
namespace Go.Proofs.YtajelkkiijdegaaGreat
open Go.RowKit
attribute [local go_sem] GW.cell GW.frozen In.eq_true In.le_true In.ne In.ne' In.ne_add In.ne_add' In.lt_add Upto.le_true Upto.le_add Upto.lt_add
end Go.Proofs.YtajelkkiijdegaaGreat
set_option linter.unusedVariables false
set_option linter.unusedSimpArgs false
namespace Go.Proofs.YtajelkkiijdegaaGreat
open Go.RowKit
attribute [local go_sem] GW.cell GW.frozen In.eq_true In.le_true In.ne In.ne' In.ne_add In.ne_add' In.lt_add Upto.le_true Upto.le_add Upto.lt_add
attribute [-go_sem] sliced
attribute [local go_sem] sliced_eq

end Go.Proofs.YtajelkkiijdegaaGreat
set_option linter.unusedVariables false
set_option linter.unusedSimpArgs false
namespace Go.Proofs.YtajelkkiijdegaaGreat
open Go.RowKit
attribute [local go_sem] GW.cell GW.frozen In.eq_true In.le_true In.ne In.ne' In.ne_add In.ne_add' In.lt_add Upto.le_true Upto.le_add Upto.lt_add
attribute [-go_sem] sliced
attribute [local go_sem] sliced_eq


end Go.Proofs.YtajelkkiijdegaaGreat
set_option linter.unusedVariables false
set_option linter.unusedSimpArgs false
namespace Go.Proofs.YtajelkkiijdegaaGreat
open Go.RowKit
attribute [local go_sem] GW.cell GW.frozen In.eq_true In.le_true In.ne In.ne' In.ne_add In.ne_add' In.lt_add Upto.le_true Upto.le_add Upto.lt_add
attribute [-go_sem] sliced
attribute [local go_sem] sliced_eq

end Go.Proofs.YtajelkkiijdegaaGreat
set_option linter.unusedVariables false
set_option linter.unusedSimpArgs false
namespace Go.Proofs.YtajelkkiijdegaaGreat
open Go.RowKit
end Go.Proofs.YtajelkkiijdegaaGreat
set_option linter.unusedVariables false
set_option linter.unusedSimpArgs false
namespace Go.Proofs.YtajelkkiijdegaaGreat
open Go.RowKit
attribute [local go_sem] GW.cell GW.frozen In.eq_true In.le_true In.ne In.ne' In.ne_add In.ne_add' In.lt_add Upto.le_true Upto.le_add Upto.lt_add
/-- The next value. -/
def vl (a : Vl) : Value := val a.1 a.2.1 a.2.2
end Go.Proofs.YtajelkkiijdegaaGreat
set_option linter.unusedVariables false
set_option linter.unusedSimpArgs false
namespace Go.Proofs.YtajelkkiijdegaaGreat
open Go.RowKit
end Go.Proofs.YtajelkkiijdegaaGreat
set_option linter.unusedVariables false
set_option linter.unusedSimpArgs false
namespace Go.Proofs.YtajelkkiijdegaaGreat
open Go.RowKit
end Go.Proofs.YtajelkkiijdegaaGreat
