/-
  A helper of ours: no claim of its own. Layer 13 (fold): a message that is taken, by the code, told by what the document knows.
-/
import Derived.Test.YtkfdkjjocdbolaaFolB
import Derived.Test.YtkfdkjjocdbolaaFolC
set_option linter.unusedVariables false
set_option linter.unusedSimpArgs false
namespace Go.Proofs.Ytkfdkjjocdbolaa
open Go.RowKit
theorem Fs.more {w : World} {s mb n n' : Nat} {c ser : Int} {T : List Ke} (h : Fs w s mb n c ser T) (hn : n ≤ n') : Fs w s mb n' c ser T := by
  obtain ⟨h1, es, h2, h3⟩ := h
  exact ⟨h1, es, h2.mono hn, h3⟩
def rowsK (w : World) (T : List Ke) : Prop := ∀ p ∈ T, Rw w [] p.1 p.2.2.2.1
theorem rows_free {w : World} {T : List Ke} (h : rowsK w T) (c id : Int) : rowsK w (freeK T c id) := by
  unfold freeK
  split
  · split
    · exact fun p hp => h p (mem_delK.1 hp).1
    · exact h
  · exact h
theorem rows_put {w : World} {T : List Ke} (h : rowsK w T) {x : Ke} (hx : Rw w [] x.1 x.2.2.2.1) : rowsK w (putM kent T x) := fun p hp => by
  rcases List.mem_cons.1 hp with rfl | hp
  · exact hx
  · exact h p (mem_delK.1 (show p ∈ delK T x.2.1 from hp)).1
theorem accept_c (s mb n : Nat) (S : StD) (T : List Ke) (m : PM) (v : Value) (hI : InvF T S) (h0 : chkD S m = 0) (hin : inI m.1.2.1) (hN : S.2.length ≤ 900000000) (hn : n ≤ 900000000) (wA w : World) (hX : Ext wA w) (hT : rowsK wA T) (hv : Rw wA [] v m.2) (h : Fs w s mb n S.1 S.2.length (freeK T S.1 m.1.2.1)) (hms : s ≠ mb) :
    Calls Try.prog 40 #[.pointer (some ⟨s, 0, none⟩), mg m.1.1 m.1.2.1 m.1.2.2.1 m.1.2.2.2 v] w fun e w' => ∃ u, e = .returned (chV u (tk S m).2) ∧ Rw wA [] u (tk S m).2.2.1 ∧ Fs w' s mb (n + 1) (tk S m).1.1 (tk S m).1.2.length (accK (freeK T S.1 m.1.2.1) S.2.length v m) ∧ rowsK wA (accK (freeK T S.1 m.1.2.1) S.2.length v m) ∧ Fr [s, mb] w w' := by
  have hch := hI.change m h0
  have hkn := hI.kn_free m.1.2.1
  obtain ⟨hI1, hI2⟩ := hI.free m.1.2.1
  have hTf := rows_free hT S.1 m.1.2.1
  have hz := h0
  rw [hI.chk] at hz
  obtain ⟨z1, z2, z3, z4⟩ := chkO_zero hz
  unfold mkM at z1
  rw [hch]
  clear hch
  obtain ⟨⟨k, i, f, t⟩, l⟩ := m
  simp only at *
  generalize freeK T S.1 i = T1 at *
  rcases mchk_kind z1 with rfl | rfl | rfl
  · refine (acceptI_c s mb n S.2.length S.1 T1 i f t l v hin (by omega) (by omega) w h (Sl.ext hv hX) hms).mono ?_
    rintro e w' ⟨rfl, hF, hfr⟩
    unfold accK tk
    simp only [show ((1 : Int) = 3) = False by simp, if_false, if_true]
    refine ⟨v, rfl, hv, ?_, rows_put hTf hv, hfr⟩
    rw [List.length_append, List.length_singleton]
    exact hF
  · obtain ⟨e, he, u1, u2, u3⟩ := z2 rfl
    have hp : ∃ p, atK T1 i = some p ∧ e = (p.2.2.2.1, p.2.2.2.2.2) := by
      unfold knK at he
      cases hq : atK T1 i with
      | none => rw [hq] at he; cases he
      | some p => rw [hq] at he; exact ⟨p, rfl, (Option.some.inj he).symm⟩
    obtain ⟨p, hp, rfl⟩ := hp
    obtain ⟨g1, g2⟩ := hI1.known p (atK_some hp).1 (hI2 p hp)
    have gev := hI1.evs _ (List.mem_of_getElem? g2)
    have gp := hI1.good p (atK_some hp).1
    have hpr := hTf p (atK_some hp).1
    simp only at gev u1 u2 u3
    refine (acceptR_c s mb n S.2.length S.1 T1 i f t l v p hin hp (by omega) gev.1 gev.2.1 gev.2.2.1 u2 u1 (by omega) w (Sl.ext hpr hX) h (Sl.ext hv hX) hms).mono ?_
    rintro e w' ⟨rfl, hF, hfr⟩
    rw [hp, Option.map_some] at hkn
    unfold accK tk
    simp only [show ((2 : Int) = 3) = False by simp, show ((2 : Int) = 1) = False by simp, if_false, hp, hkn]
    refine ⟨p.1, rfl, hpr, ?_, rows_put hTf hpr, hfr⟩
    rw [List.length_set]
    exact hF
  · refine (acceptC_c s mb n S.1 S.2.length T1 i f t l v w h (Sl.ext hv hX) hms).mono ?_
    rintro e w' ⟨rfl, hF, hfr⟩
    unfold accK tk
    simp only [if_true]
    exact ⟨.slice none 0 0, rfl, Sl.nil _ _ _, hF.more (by omega), hTf, hfr⟩
end Go.Proofs.Ytkfdkjjocdbolaa
