/-
  A helper of ours: no claim of its own. Layer 8 (msg): an insert's bytes by the code; a message's bytes by the document.
-/
import Derived.Test.YthidjngipkelcaaDoorMsgQ
import Derived.Test.YthidjngipkelcaaDoorMsgD
import Derived.Test.YthidjngipkelcaaDoorRowA
import Derived.Test.YthidjngipkelcaaDoorRowK
import Derived.Test.YthidjngipkelcaaDoorMsgS
import Derived.Test.YthidjngipkelcaaDoorMsgB
set_option linter.unusedVariables false
set_option linter.unusedSimpArgs false
namespace Go.Proofs.YthidjngipkelcaaDoor
open Go.RowKit
theorem rsE_zero : ∀ (n : Nat) (l : List UInt8), rsE n l = 0 → (rsS n l).2 = 0
  | 0, l, _ => rfl
  | n + 1, l, h => by
    simp only [rsE, rsS] at h ⊢
    by_cases h0 : rdE l = 0
    · rw [if_pos h0] at h ⊢; exact rsE_zero n _ h
    · rw [if_neg h0] at h; exact absurd h h0
theorem rwE_zero (l : List UInt8) : rwE l = 0 → (rwS l).2 = 0 := by
  rcases l with _ | ⟨c, r⟩
  · intro h; cases h
  · simp only [rwE, rwS]
    split
    · intro h; cases h
    · exact rsE_zero _ _
/-- The next message, as a value. -/
abbrev mrT (l : List UInt8) (v : Value) : Value := mg (mrM l).1 (mrM l).2.1 (mrM l).2.2.1 (mrM l).2.2.2 v
theorem mr_bad {c : UInt8} {r : List UInt8} {x : Int} (h : mrE (c :: r) = x) (hx : x ≠ 0) : mrM (c :: r) = (0, 0, 0, 0) ∧ mrV (c :: r) = [] := by
  have h0 : mrE (c :: r) ≠ 0 := by rw [h]; exact hx
  exact ⟨by simp only [mrM]; rw [if_neg h0], by simp only [mrV]; rw [if_neg h0]⟩
theorem mr_ins {c : UInt8} {r : List UInt8} (hc : c.toNat = 1) : mrE (c :: r) = insE r ∧ mrS (c :: r) = (rwS (st3 r).1).1 ∧ (mrE (c :: r) = 0 → mrM (c :: r) = (1, (va1 r : Int), (va2 r : Int), (va3 r : Int)) ∧ mrV (c :: r) = rwV (st3 r).1) :=
  ⟨by simp only [mrE]; rw [if_pos hc], by simp only [mrS]; rw [if_pos hc], fun h => ⟨by simp only [mrM]; rw [if_pos h, if_pos hc], by simp only [mrV]; rw [if_pos h, if_pos hc]⟩⟩
theorem mr_ret {c : UInt8} {r : List UInt8} (hc : c.toNat = 2) : mrE (c :: r) = retE r ∧ mrS (c :: r) = (st2 r).1 ∧ (mrE (c :: r) = 0 → mrM (c :: r) = (2, (va1 r : Int), 0, (va2 r : Int)) ∧ mrV (c :: r) = []) := by
  have h1 : ¬ c.toNat = 1 := by omega
  exact ⟨by simp only [mrE]; rw [if_neg h1, if_pos hc], by simp only [mrS]; rw [if_neg h1, if_pos hc], fun h => ⟨by simp only [mrM]; rw [if_pos h, if_neg h1, if_pos hc], by simp only [mrV]; rw [if_pos h, if_neg h1]⟩⟩
theorem mr_cti {c : UInt8} {r : List UInt8} (hc : c.toNat = 3) : mrE (c :: r) = ctiE r ∧ mrS (c :: r) = (st1 r).1 ∧ (mrE (c :: r) = 0 → mrM (c :: r) = (3, 0, (va1 r : Int), 0) ∧ mrV (c :: r) = []) := by
  have h1 : ¬ c.toNat = 1 := by omega
  have h2 : ¬ c.toNat = 2 := by omega
  exact ⟨by simp only [mrE]; rw [if_neg h1, if_neg h2, if_pos hc], by simp only [mrS]; rw [if_neg h1, if_neg h2], fun h => ⟨by simp only [mrM]; rw [if_pos h, if_neg h1, if_neg h2], by simp only [mrV]; rw [if_pos h, if_neg h1]⟩⟩
theorem mr_none {c : UInt8} {r : List UInt8} (n1 : c.toNat ≠ 1) (n2 : c.toNat ≠ 2) (n3 : c.toNat ≠ 3) : mrE (c :: r) = 4 := by
  simp only [mrE]; rw [if_neg n1, if_neg n2, if_neg n3]
/-- What is read is one. -/
theorem mr_chk (l : List UInt8) (h : mrE l = 0) : mchk (mrM l).1 (mrM l).2.1 (mrM l).2.2.1 (mrM l).2.2.2 (mrV l) = 0 := by
  rcases l with _ | ⟨c, r⟩
  · cases h
  by_cases h1 : c.toNat = 1
  · obtain ⟨a, -, b⟩ := mr_ins (r := r) h1
    obtain ⟨b1, b2⟩ := b h
    rw [b1, b2]
    rw [a] at h
    unfold insE at h
    by_cases x : (st3 r).2 = 0
    · rw [if_pos x] at h
      by_cases y : rwE (st3 r).1 = 0
      · rw [if_pos y] at h; exact h
      · rw [if_neg y] at h; exact absurd h y
    · rw [if_neg x] at h; exact absurd h x
  by_cases h2 : c.toNat = 2
  · obtain ⟨a, -, b⟩ := mr_ret (r := r) h2
    obtain ⟨b1, b2⟩ := b h
    rw [b1, b2]
    rw [a] at h
    unfold retE at h
    by_cases x : (st2 r).2 = 0
    · rw [if_pos x] at h; exact h
    · rw [if_neg x] at h; exact absurd h x
  by_cases h3 : c.toNat = 3
  · obtain ⟨a, -, b⟩ := mr_cti (r := r) h3
    obtain ⟨b1, b2⟩ := b h
    rw [b1, b2]
    rw [a] at h
    unfold ctiE at h
    by_cases x : (st1 r).2 = 0
    · rw [if_pos x] at h; exact h
    · rw [if_neg x] at h; exact absurd h x
  · rw [mr_none h1 h2 h3] at h; cases h
theorem mread_c (S : List Nat) (b : Nat) (l : List UInt8) (w : World) (h : Rdr w S b (l, 0)) : Calls Tryd.prog 12 #[.pointer (some ⟨b, 0, none⟩)] w fun z w' => ∃ v' st, z = .returned (.tuple #[mrT l v', .int .i64 (mrE l)]) ∧ OwnR w' w.heap.size v' (mrV l) ∧ Rdr w' S b st ∧ (mrE l = 0 → st = (mrS l, 0)) ∧ Fr [b] w w' := by
  rcases l with _ | ⟨c, r⟩
  · exact (mread_nil S b w h).mono (by rintro z w' ⟨q1, q2, q3⟩; exact ⟨_, _, q1, World.ownsRow_nil _ _ _ _, q2, (fun hz => by cases hz), q3⟩)
  by_cases hc : c.toNat = 1
  · have hci : (c.toNat : Int) = 1 := by omega
    by_cases x : (st3 r).2 = 0
    · have hf : Hid (FieldsW b r c.toNat 1 (va1 r) (va2 r) (va3 r) (rwV (st3 r).1) (rwE (st3 r).1) (rwS (st3 r).1)) := hide (by rw [hci]; exact fun S' w' h' => fields_ins S' b r (va1 r) (st1 r).1 (st1 r).2 (hide rfl) (hide rfl) (va2 r) (st2 r).1 (st2 r).2 (hide rfl) (hide rfl) (va3 r) (st3 r).1 (st3 r).2 (hide rfl) (hide rfl) _ _ _ (hide (fun S' w' h' => rowRead_c S' b _ w' (by rw [x] at h'; exact h'))) w' h')
      by_cases y : rwE (st3 r).1 = 0
      · by_cases u : mchk 1 (va1 r) (va2 r) (va3 r) (rwV (st3 r).1) = 0
        · have e : mrE (c :: r) = 0 := by rw [(mr_ins (r := r) hc).1]; unfold insE; rw [if_pos x, if_pos y]; exact u
          obtain ⟨-, e3, e2⟩ := mr_ins (r := r) hc
          obtain ⟨e1, e2⟩ := e2 e
          unfold mrT
          rw [e1, e2, e, e3]
          exact (mread_ok S b c r _ _ _ _ _ _ _ hf (hide u) y w h).mono (by rintro z w' ⟨v', q1, q2, q3, q4⟩; exact ⟨v', _, q1, q2, q3, fun _ => Prod.ext rfl (rwE_zero _ y), q4⟩)
        · have e : mrE (c :: r) = mchk 1 (va1 r) (va2 r) (va3 r) (rwV (st3 r).1) := by rw [(mr_ins (r := r) hc).1]; unfold insE; rw [if_pos x, if_pos y]
          obtain ⟨e1, e2⟩ := mr_bad e u
          unfold mrT
          rw [e1, e2, e]
          exact (mread_chk S b c r _ _ _ _ _ _ _ hf _ (hide rfl) u y w h).mono (by rintro z w' ⟨v', q1, q2, q3, q4⟩; exact ⟨v', _, q1, q2, q3, fun hz => absurd hz u, q4⟩)
      · have e : mrE (c :: r) = rwE (st3 r).1 := by rw [(mr_ins (r := r) hc).1]; unfold insE; rw [if_pos x, if_neg y]
        obtain ⟨e1, e2⟩ := mr_bad e y
        unfold mrT
        rw [e1, e2, e]
        exact (mread_err S b c r _ _ _ _ _ _ _ hf y w h).mono (by rintro z w' ⟨v', q1, q2, q3, q4⟩; exact ⟨v', _, q1, q2, q3, fun hz => absurd hz y, q4⟩)
    · have hf : Hid (FieldsW b r c.toNat 1 (va1 r) (va2 r) (va3 r) ([]) ((st3 r).2) (((st3 r).1, (st3 r).2))) := hide (by rw [hci]; exact fun S' w' h' => fields_ins S' b r (va1 r) (st1 r).1 (st1 r).2 (hide rfl) (hide rfl) (va2 r) (st2 r).1 (st2 r).2 (hide rfl) (hide rfl) (va3 r) (st3 r).1 (st3 r).2 (hide rfl) (hide rfl) _ _ _ (hide (fun S' w' h' => rowRead_bad S' b _ _ x w' h')) w' h')
      have e : mrE (c :: r) = (st3 r).2 := by rw [(mr_ins (r := r) hc).1]; unfold insE; rw [if_neg x]
      obtain ⟨e1, e2⟩ := mr_bad e x
      unfold mrT
      rw [e1, e2, e]
      exact (mread_err S b c r _ _ _ _ _ _ _ hf x w h).mono (by rintro z w' ⟨v', q1, q2, q3, q4⟩; exact ⟨v', _, q1, q2, q3, fun hz => absurd hz x, q4⟩)
  have n1 := hc
  clear hc
  by_cases hc : c.toNat = 2
  · have hci : (c.toNat : Int) = 2 := by omega
    have hf : Hid (FieldsW b r c.toNat 2 (va1 r) 0 (va2 r) [] ((st2 r).2) (((st2 r).1, (st2 r).2))) := hide (by rw [hci]; exact fun S' w' h' => (fields_ret S' b r (va1 r) (st1 r).1 (st1 r).2 (hide rfl) (hide rfl) (va2 r) (st2 r).1 (st2 r).2 (hide rfl) (hide rfl) w' h').mono (by rintro z w'' ⟨q1, q2, q3⟩; exact ⟨_, q1, World.ownsRow_nil _ _ _ _, q2, q3⟩))
    by_cases x : (st2 r).2 = 0
    · by_cases u : mchk 2 (va1 r) 0 (va2 r) [] = 0
      · have e : mrE (c :: r) = 0 := by rw [(mr_ret (r := r) hc).1]; unfold retE; rw [if_pos x]; exact u
        obtain ⟨-, e3, e2⟩ := mr_ret (r := r) hc
        obtain ⟨e1, e2⟩ := e2 e
        unfold mrT
        rw [e1, e2, e, e3]
        exact (mread_ok S b c r _ _ _ _ _ _ _ hf (hide u) x w h).mono (by rintro z w' ⟨v', q1, q2, q3, q4⟩; exact ⟨v', _, q1, q2, q3, fun _ => Prod.ext rfl x, q4⟩)
      · have e : mrE (c :: r) = mchk 2 (va1 r) 0 (va2 r) [] := by rw [(mr_ret (r := r) hc).1]; unfold retE; rw [if_pos x]
        obtain ⟨e1, e2⟩ := mr_bad e u
        unfold mrT
        rw [e1, e2, e]
        exact (mread_chk S b c r _ _ _ _ _ _ _ hf _ (hide rfl) u x w h).mono (by rintro z w' ⟨v', q1, q2, q3, q4⟩; exact ⟨v', _, q1, q2, q3, fun hz => absurd hz u, q4⟩)
    · have e : mrE (c :: r) = (st2 r).2 := by rw [(mr_ret (r := r) hc).1]; unfold retE; rw [if_neg x]
      obtain ⟨e1, e2⟩ := mr_bad e x
      unfold mrT
      rw [e1, e2, e]
      exact (mread_err S b c r _ _ _ _ _ _ _ hf x w h).mono (by rintro z w' ⟨v', q1, q2, q3, q4⟩; exact ⟨v', _, q1, q2, q3, fun hz => absurd hz x, q4⟩)
  have n2 := hc
  clear hc
  by_cases hc : c.toNat = 3
  · have hci : (c.toNat : Int) = 3 := by omega
    have hf : Hid (FieldsW b r c.toNat 3 0 (va1 r) 0 [] ((st1 r).2) (((st1 r).1, (st1 r).2))) := hide (by rw [hci]; exact fun S' w' h' => (fields_cti S' b r (va1 r) (st1 r).1 (st1 r).2 (hide rfl) (hide rfl) w' h').mono (by rintro z w'' ⟨q1, q2, q3⟩; exact ⟨_, q1, World.ownsRow_nil _ _ _ _, q2, q3⟩))
    by_cases x : (st1 r).2 = 0
    · by_cases u : mchk 3 0 (va1 r) 0 [] = 0
      · have e : mrE (c :: r) = 0 := by rw [(mr_cti (r := r) hc).1]; unfold ctiE; rw [if_pos x]; exact u
        obtain ⟨-, e3, e2⟩ := mr_cti (r := r) hc
        obtain ⟨e1, e2⟩ := e2 e
        unfold mrT
        rw [e1, e2, e, e3]
        exact (mread_ok S b c r _ _ _ _ _ _ _ hf (hide u) x w h).mono (by rintro z w' ⟨v', q1, q2, q3, q4⟩; exact ⟨v', _, q1, q2, q3, fun _ => Prod.ext rfl x, q4⟩)
      · have e : mrE (c :: r) = mchk 3 0 (va1 r) 0 [] := by rw [(mr_cti (r := r) hc).1]; unfold ctiE; rw [if_pos x]
        obtain ⟨e1, e2⟩ := mr_bad e u
        unfold mrT
        rw [e1, e2, e]
        exact (mread_chk S b c r _ _ _ _ _ _ _ hf _ (hide rfl) u x w h).mono (by rintro z w' ⟨v', q1, q2, q3, q4⟩; exact ⟨v', _, q1, q2, q3, fun hz => absurd hz u, q4⟩)
    · have e : mrE (c :: r) = (st1 r).2 := by rw [(mr_cti (r := r) hc).1]; unfold ctiE; rw [if_neg x]
      obtain ⟨e1, e2⟩ := mr_bad e x
      unfold mrT
      rw [e1, e2, e]
      exact (mread_err S b c r _ _ _ _ _ _ _ hf x w h).mono (by rintro z w' ⟨v', q1, q2, q3, q4⟩; exact ⟨v', _, q1, q2, q3, fun hz => absurd hz x, q4⟩)
  have hf : Hid (FieldsW b r c.toNat c.toNat 0 0 0 [] 4 (r, 0)) := hide (fun S' w' h' => (fields_none S' b r c.toNat (by omega) (by omega) (by omega) w' h').mono (by rintro z w'' ⟨q1, q2, q3⟩; exact ⟨_, q1, World.ownsRow_nil _ _ _ _, q2, q3⟩))
  have e : mrE (c :: r) = 4 := by exact mr_none n1 n2 hc
  obtain ⟨e1, e2⟩ := mr_bad e (by decide : (4 : Int) ≠ 0)
  unfold mrT
  rw [e1, e2, e]
  exact (mread_err S b c r _ _ _ _ _ _ _ hf (by decide) w h).mono (by rintro z w' ⟨v', q1, q2, q3, q4⟩; exact ⟨v', _, q1, q2, q3, fun hz => absurd hz (by decide : (4 : Int) ≠ 0), q4⟩)
theorem dread_c (S : List Nat) (b : Nat) (l : List UInt8) (w : World) (h : Qdr w S b (l, 0)) : Calls Tryd.prog 15 #[.pointer (some ⟨b, 0, none⟩)] w fun z w' => ∃ v' st, z = .returned (.tuple #[mrT l v', .int .i64 (mrE l)]) ∧ OwnR w' w.heap.size v' (mrV l) ∧ Qdr w' S b st ∧ (mrE l = 0 → st = (mrS l, 0)) ∧ Fr [b] w w' := by
  rcases l with _ | ⟨c, r⟩
  · exact (dread_nil S b w h).mono (by rintro z w' ⟨q1, q2, q3⟩; exact ⟨_, _, q1, World.ownsRow_nil _ _ _ _, q2, (fun hz => by cases hz), q3⟩)
  by_cases hc : c.toNat = 1
  · by_cases x : (st3 r).2 = 0
    · by_cases y : rwE (st3 r).1 = 0
      · by_cases u : mchk 1 (va1 r) (va2 r) (va3 r) (rwV (st3 r).1) = 0
        · have e : mrE (c :: r) = 0 := by rw [(mr_ins (r := r) hc).1]; unfold insE; rw [if_pos x, if_pos y]; exact u
          obtain ⟨-, e3, e2⟩ := mr_ins (r := r) hc
          obtain ⟨e1, e2⟩ := e2 e
          unfold mrT
          rw [e1, e2, e, e3]
          exact (dins_ok S b c r hc (va1 r) (st1 r).1 (st1 r).2 (hide rfl) (hide rfl) (va2 r) (st2 r).1 (st2 r).2 (hide rfl) (hide rfl) (va3 r) (st3 r).1 (st3 r).2 (hide rfl) (hide rfl) _ _ _ (hide rfl) (hide rfl) (hide rfl) (hide u) x y w h).mono (by rintro z w' ⟨v', q1, q2, q3, q4⟩; exact ⟨v', _, q1, q2, q3, fun _ => Prod.ext rfl (rwE_zero _ y), q4⟩)
        · have e : mrE (c :: r) = mchk 1 (va1 r) (va2 r) (va3 r) (rwV (st3 r).1) := by rw [(mr_ins (r := r) hc).1]; unfold insE; rw [if_pos x, if_pos y]
          obtain ⟨e1, e2⟩ := mr_bad e u
          unfold mrT
          rw [e1, e2, e]
          exact (dins_chk S b c r hc (va1 r) (st1 r).1 (st1 r).2 (hide rfl) (hide rfl) (va2 r) (st2 r).1 (st2 r).2 (hide rfl) (hide rfl) (va3 r) (st3 r).1 (st3 r).2 (hide rfl) (hide rfl) _ _ _ (hide rfl) (hide rfl) (hide rfl) _ (hide rfl) x u y w h).mono (by rintro z w' ⟨q1, q3, q4⟩; exact ⟨_, _, q1, World.ownsRow_nil _ _ _ _, q3, fun hz => absurd hz u, q4⟩)
      · have e : mrE (c :: r) = rwE (st3 r).1 := by rw [(mr_ins (r := r) hc).1]; unfold insE; rw [if_pos x, if_neg y]
        obtain ⟨e1, e2⟩ := mr_bad e y
        unfold mrT
        rw [e1, e2, e]
        exact (dins_row S b c r hc (va1 r) (st1 r).1 (st1 r).2 (hide rfl) (hide rfl) (va2 r) (st2 r).1 (st2 r).2 (hide rfl) (hide rfl) (va3 r) (st3 r).1 (st3 r).2 (hide rfl) (hide rfl) _ _ _ (hide rfl) (hide rfl) (hide rfl) x y w h).mono (by rintro z w' ⟨q1, q3, q4⟩; exact ⟨_, _, q1, World.ownsRow_nil _ _ _ _, q3, fun hz => absurd hz y, q4⟩)
    · have e : mrE (c :: r) = (st3 r).2 := by rw [(mr_ins (r := r) hc).1]; unfold insE; rw [if_neg x]
      obtain ⟨e1, e2⟩ := mr_bad e x
      unfold mrT
      rw [e1, e2, e]
      exact (dins_err S b c r hc (va1 r) (st1 r).1 (st1 r).2 (hide rfl) (hide rfl) (va2 r) (st2 r).1 (st2 r).2 (hide rfl) (hide rfl) (va3 r) (st3 r).1 (st3 r).2 (hide rfl) (hide rfl) x w h).mono (by rintro z w' ⟨q1, q3, q4⟩; exact ⟨_, _, q1, World.ownsRow_nil _ _ _ _, q3, fun hz => absurd hz x, q4⟩)
  have n1 := hc
  clear hc
  by_cases hc : c.toNat = 2
  · by_cases x : (st2 r).2 = 0
    · by_cases u : mchk 2 (va1 r) 0 (va2 r) [] = 0
      · have e : mrE (c :: r) = 0 := by rw [(mr_ret (r := r) hc).1]; unfold retE; rw [if_pos x]; exact u
        obtain ⟨-, e3, e2⟩ := mr_ret (r := r) hc
        obtain ⟨e1, e2⟩ := e2 e
        unfold mrT
        rw [e1, e2, e, e3]
        exact (dret_ok S b c r hc (va1 r) (st1 r).1 (st1 r).2 (hide rfl) (hide rfl) (va2 r) (st2 r).1 (st2 r).2 (hide rfl) (hide rfl) (hide u) x w h).mono (by rintro z w' ⟨q1, q3, q4⟩; exact ⟨_, _, q1, World.ownsRow_nil _ _ _ _, q3, fun _ => rfl, q4⟩)
      · have e : mrE (c :: r) = mchk 2 (va1 r) 0 (va2 r) [] := by rw [(mr_ret (r := r) hc).1]; unfold retE; rw [if_pos x]
        obtain ⟨e1, e2⟩ := mr_bad e u
        unfold mrT
        rw [e1, e2, e]
        exact (dret_chk S b c r hc (va1 r) (st1 r).1 (st1 r).2 (hide rfl) (hide rfl) (va2 r) (st2 r).1 (st2 r).2 (hide rfl) (hide rfl) _ (hide rfl) x u w h).mono (by rintro z w' ⟨q1, q3, q4⟩; exact ⟨_, _, q1, World.ownsRow_nil _ _ _ _, q3, fun hz => absurd hz u, q4⟩)
    · have e : mrE (c :: r) = (st2 r).2 := by rw [(mr_ret (r := r) hc).1]; unfold retE; rw [if_neg x]
      obtain ⟨e1, e2⟩ := mr_bad e x
      unfold mrT
      rw [e1, e2, e]
      exact (dret_err S b c r hc (va1 r) (st1 r).1 (st1 r).2 (hide rfl) (hide rfl) (va2 r) (st2 r).1 (st2 r).2 (hide rfl) (hide rfl) x w h).mono (by rintro z w' ⟨q1, q3, q4⟩; exact ⟨_, _, q1, World.ownsRow_nil _ _ _ _, q3, fun hz => absurd hz x, q4⟩)
  have n2 := hc
  clear hc
  by_cases hc : c.toNat = 3
  · by_cases x : (st1 r).2 = 0
    · by_cases u : mchk 3 0 (va1 r) 0 [] = 0
      · have e : mrE (c :: r) = 0 := by rw [(mr_cti (r := r) hc).1]; unfold ctiE; rw [if_pos x]; exact u
        obtain ⟨-, e3, e2⟩ := mr_cti (r := r) hc
        obtain ⟨e1, e2⟩ := e2 e
        unfold mrT
        rw [e1, e2, e, e3]
        exact (dcti_ok S b c r hc (va1 r) (st1 r).1 (st1 r).2 (hide rfl) (hide rfl) (hide u) x w h).mono (by rintro z w' ⟨q1, q3, q4⟩; exact ⟨_, _, q1, World.ownsRow_nil _ _ _ _, q3, fun _ => rfl, q4⟩)
      · have e : mrE (c :: r) = mchk 3 0 (va1 r) 0 [] := by rw [(mr_cti (r := r) hc).1]; unfold ctiE; rw [if_pos x]
        obtain ⟨e1, e2⟩ := mr_bad e u
        unfold mrT
        rw [e1, e2, e]
        exact (dcti_chk S b c r hc (va1 r) (st1 r).1 (st1 r).2 (hide rfl) (hide rfl) _ (hide rfl) x u w h).mono (by rintro z w' ⟨q1, q3, q4⟩; exact ⟨_, _, q1, World.ownsRow_nil _ _ _ _, q3, fun hz => absurd hz u, q4⟩)
    · have e : mrE (c :: r) = (st1 r).2 := by rw [(mr_cti (r := r) hc).1]; unfold ctiE; rw [if_neg x]
      obtain ⟨e1, e2⟩ := mr_bad e x
      unfold mrT
      rw [e1, e2, e]
      exact (dcti_err S b c r hc (va1 r) (st1 r).1 (st1 r).2 (hide rfl) (hide rfl) x w h).mono (by rintro z w' ⟨q1, q3, q4⟩; exact ⟨_, _, q1, World.ownsRow_nil _ _ _ _, q3, fun hz => absurd hz x, q4⟩)
  have e : mrE (c :: r) = 4 := by exact mr_none n1 n2 hc
  obtain ⟨e1, e2⟩ := mr_bad e (by decide : (4 : Int) ≠ 0)
  unfold mrT
  rw [e1, e2, e]
  exact (dread_none S b c r n1 n2 hc w h).mono (by rintro z w' ⟨q1, q3, q4⟩; exact ⟨_, _, q1, World.ownsRow_nil _ _ _ _, q3, fun hz => absurd hz (by decide : (4 : Int) ≠ 0), q4⟩)
end Go.Proofs.YthidjngipkelcaaDoor
set_option linter.unusedVariables false
set_option linter.unusedSimpArgs false
namespace Go.Proofs.YthidjngipkelcaaDoor
open Go.RowKit
theorem tickE_zero {k f t : Int} (h : tickE k f t = 0) : (0 ≤ f ∧ f ≤ 1125899906842624) ∧ (0 ≤ t ∧ t ≤ 1125899906842624) := by
  unfold tickE at h
  split at h
  · rename_i hh
    rw [Bool.and_eq_true] at hh
    exact ⟨tick_yes hh.1, tick_yes hh.2⟩
  · cases h
theorem chk1 {i f t : Int} {l : List Vl} (h : mchk 1 i f t l = 0) : mayR l = true ∧ (1 ≤ i ∧ i ≤ 1099511627776) ∧ (0 ≤ f ∧ f ≤ 1125899906842624) ∧ (0 ≤ t ∧ t ≤ 1125899906842624) := by
  unfold mchk at h
  rw [if_pos rfl] at h
  split at h
  · rename_i hh
    rw [Bool.and_eq_true] at hh
    have := tickE_zero h
    exact ⟨hh.1, id_yes hh.2, this.1, this.2⟩
  · cases h
theorem chk2 {i f t : Int} {l : List Vl} (h : mchk 2 i f t l = 0) : (1 ≤ i ∧ i ≤ 1099511627776) ∧ f = 0 ∧ (0 ≤ t ∧ t ≤ 1125899906842624) ∧ l = [] := by
  unfold mchk at h
  rw [if_neg (by decide), if_pos rfl] at h
  split at h
  · rename_i hh
    rw [Bool.and_eq_true] at hh
    have := tickE_zero h
    have hm := hh.2
    unfold moreB at hm
    rw [if_pos rfl, Bool.not_eq_true', decide_eq_false_iff_not] at hm
    exact ⟨id_yes hh.1, by omega, this.2, List.eq_nil_of_length_eq_zero (by omega)⟩
  · cases h
theorem chk3 {i f t : Int} {l : List Vl} (h : mchk 3 i f t l = 0) : i = 0 ∧ (0 ≤ f ∧ f ≤ 1125899906842624) ∧ t = 0 ∧ l = [] := by
  unfold mchk at h
  rw [if_neg (by decide), if_neg (by decide), if_pos rfl] at h
  split at h
  · cases h
  · rename_i hm
    have := tickE_zero h
    rw [Bool.not_eq_true] at hm
    unfold moreB at hm
    rw [if_neg (by decide), if_pos rfl, decide_eq_false_iff_not] at hm
    exact ⟨by omega, this.1, by omega, List.eq_nil_of_length_eq_zero (by omega)⟩
theorem chkK {k i f t : Int} {l : List Vl} (h : mchk k i f t l = 0) : k = 1 ∨ k = 2 ∨ k = 3 := by
  unfold mchk at h
  by_cases h1 : k = 1
  · exact .inl h1
  · by_cases h2 : k = 2
    · exact .inr (.inl h2)
    · by_cases h3 : k = 3
      · exact .inr (.inr h3)
      · rw [if_neg h1, if_neg h2, if_neg h3] at h; cases h
/-- A message's bytes. -/
def mB (k i f t : Int) (l : List Vl) : List UInt8 := if mchk k i f t l = 0 then (if k = 1 then (([1] ++ numB i) ++ numB f ++ numB t) ++ rowB l else if k = 2 then ([2] ++ numB i) ++ numB t else [3] ++ numB f) else []
theorem mB_bad {k i f t : Int} {l : List Vl} (h : mchk k i f t l ≠ 0) : mB k i f t l = [] := by unfold mB; rw [if_neg h]
/-- What is written is read. -/
theorem msg_back {k i f t : Int} {l : List Vl} (h : mchk k i f t l = 0) (hn : ∀ x ∈ l, inI x.2.1) (r : List UInt8) : mrE (mB k i f t l ++ r) = 0 ∧ mrM (mB k i f t l ++ r) = (k, i, f, t) ∧ mrV (mB k i f t l ++ r) = l ∧ mrS (mB k i f t l ++ r) = r := by
  have e0 : mB k i f t l = (if k = 1 then (([1] ++ numB i) ++ numB f ++ numB t) ++ rowB l else if k = 2 then ([2] ++ numB i) ++ numB t else [3] ++ numB f) := by unfold mB; rw [if_pos h]
  rcases chkK h with rfl | rfl | rfl
  · obtain ⟨hm, hi, hf, ht⟩ := chk1 h
    rw [if_pos rfl] at e0
    have e : mB 1 i f t l ++ r = 1 :: (numB i ++ (numB f ++ (numB t ++ (rowB l ++ r)))) := by rw [e0]; simp
    rw [e]
    obtain ⟨a1, a2⟩ := num_back i (by omega) (by omega) (numB f ++ (numB t ++ (rowB l ++ r)))
    obtain ⟨b1, b2⟩ := num_back f (by omega) (by omega) (numB t ++ (rowB l ++ r))
    obtain ⟨c1, c2⟩ := num_back t (by omega) (by omega) (rowB l ++ r)
    obtain ⟨d1, d2, d3⟩ := row_back hm hn r
    generalize hR : numB i ++ (numB f ++ (numB t ++ (rowB l ++ r))) = R at *
    have s1 : st1 R = (numB f ++ (numB t ++ (rowB l ++ r)), 0) := a2
    have s2 : st2 R = (numB t ++ (rowB l ++ r), 0) := by unfold st2; rw [s1]; exact b2
    have s3 : st3 R = (rowB l ++ r, 0) := by unfold st3; rw [s2]; exact c2
    have v1 : (va1 R : Int) = i := a1
    have v2 : (va2 R : Int) = f := by unfold va2; rw [s1]; exact b1
    have v3 : (va3 R : Int) = t := by unfold va3; rw [s2]; exact c1
    obtain ⟨m1, m2, m3⟩ := mr_ins (c := 1) (r := R) rfl
    have hE : mrE (1 :: R) = 0 := by
      rw [m1]; unfold insE
      rw [s3, v1, v2, v3, if_pos rfl, d1, if_pos rfl, d2]; exact h
    obtain ⟨m4, m5⟩ := m3 hE
    refine ⟨hE, by rw [m4, v1, v2, v3], by rw [m5, s3]; exact d2, by rw [m2, s3, d3]⟩
  · obtain ⟨hi, rfl, ht, rfl⟩ := chk2 h
    rw [if_neg (by decide), if_pos rfl] at e0
    have e : mB 2 i 0 t [] ++ r = 2 :: (numB i ++ (numB t ++ r)) := by rw [e0]; simp
    rw [e]
    obtain ⟨a1, a2⟩ := num_back i (by omega) (by omega) (numB t ++ r)
    obtain ⟨c1, c2⟩ := num_back t (by omega) (by omega) r
    generalize hR : numB i ++ (numB t ++ r) = R at *
    have s1 : st1 R = (numB t ++ r, 0) := a2
    have s2 : st2 R = (r, 0) := by unfold st2; rw [s1]; exact c2
    have v1 : (va1 R : Int) = i := a1
    have v2 : (va2 R : Int) = t := by unfold va2; rw [s1]; exact c1
    obtain ⟨m1, m2, m3⟩ := mr_ret (c := 2) (r := R) rfl
    have hE : mrE (2 :: R) = 0 := by
      rw [m1]; unfold retE
      rw [s2, v1, v2, if_pos rfl]; exact h
    obtain ⟨m4, m5⟩ := m3 hE
    exact ⟨hE, by rw [m4, v1, v2], m5, by rw [m2, s2]⟩
  · obtain ⟨rfl, hf, rfl, rfl⟩ := chk3 h
    rw [if_neg (by decide), if_neg (by decide)] at e0
    have e : mB 3 0 f 0 [] ++ r = 3 :: (numB f ++ r) := by rw [e0]; simp
    rw [e]
    obtain ⟨a1, a2⟩ := num_back f (by omega) (by omega) r
    generalize hR : numB f ++ r = R at *
    have s1 : st1 R = (r, 0) := a2
    have v1 : (va1 R : Int) = f := a1
    obtain ⟨m1, m2, m3⟩ := mr_cti (c := 3) (r := R) rfl
    have hE : mrE (3 :: R) = 0 := by
      rw [m1]; unfold ctiE
      rw [s1, v1, if_pos rfl]; exact h
    obtain ⟨m4, m5⟩ := m3 hE
    exact ⟨hE, by rw [m4, v1], m5, by rw [m2, s1]⟩
theorem numB_len {n : Int} (h : n ≤ 9223372036854775807) : (numB n).length ≤ 10 := by
  unfold numB
  split
  · simp
  · exact grp_ten (by omega)
end Go.Proofs.YthidjngipkelcaaDoor
set_option linter.unusedVariables false
set_option linter.unusedSimpArgs false
namespace Go.Proofs.YthidjngipkelcaaDoor
open Go.RowKit
attribute [local go_sem] GW.cell GW.frozen In.eq_true In.le_true In.ne In.ne' In.ne_add In.ne_add' In.lt_add Upto.le_true Upto.le_add Upto.lt_add
theorem lenB_lit {n : Nat} (h : n ≤ 8) (B : Nat) (w : World) (hB : B ≤ w.heap.size) : OwnB (w.alloc (.cells #[.int .u8 (n : Int)] 5)) B (.slice (some ⟨w.heap.size, 0, none⟩) 1 1) [UInt8.ofNat n] := by
  have h1 := World.ownsRow_lit (base := B) (e := 5) (size := 1) w #[.int .u8 (n : Int)] 1 hB (by decide) rfl
  have e : bs [UInt8.ofNat n] = [.int .u8 (n : Int)] := by
    simp only [bs, List.map_cons, List.map_nil]
    have : (UInt8.ofNat n).toNat = n := by simp; omega
    rw [this]
  unfold OwnB
  rw [e]
  exact h1
theorem valB_le (x : Vl) (h : inI x.2.1) : (valB x).length ≤ 75 := valB_len (k := x.1) (n := x.2.1) (s := x.2.2) h
set_option maxHeartbeats 4000000 in
set_option maxRecDepth 100000 in
theorem rowBytes_c (l : List Vl) (hn : ∀ x ∈ l, inI x.2.1) (v : Value) (w : World) (hl : Rw w [] v l) : Calls Tryd.prog 18 #[v] w fun e w' => ∃ v', e = .returned v' ∧ OwnB w' w.heap.size v' (rowB l) ∧ Ext w w' := by
  have h1 := hide (fun w' (hX : Ext w w') => rowMay_c l v w' (Sl.ext hl hX))
  have hX0 := hide (Ext.refl w)
  obtain ⟨A, cap, rfl, hlc, hlm, hat⟩ := rw_form hl
  unfold maxLen at hlm
  replace hat := hide hat
  clear hl
  cases ha : mayR l
  · have e : rowB l = [] := by unfold rowB; rw [ha, if_neg (by decide)]
    rw [e]
    rw [ha] at h1
    clear ha e
    go_enter Tryd.func18, Tryd.ntmps18
    go_wp2_with (go_at_call 28; (with_reducible refine seq_gw (h1.out _ hX0.out) ?_); intro g)
    go_returns
    exact ⟨_, rfl, World.ownsRow_nil _ _ _ _, g.grown⟩
  · have l8 := (mayR_iff.1 ha).1
    have e : rowB l = UInt8.ofNat l.length :: valsB l := by unfold rowB; rw [if_pos ha]
    rw [ha] at h1
    obtain ⟨R, hR⟩ : ∃ R, R = rowB l := ⟨_, rfl⟩
    rw [← hR]
    rw [e] at hR
    replace hR := hide hR
    have hm8 : (l.length : Int) % 256 = l.length := by omega
    have hlit := hide (fun (g : GW w) => lenB_lit l8 w.heap.size g.val (GW.size g))
    replace hn := hide hn
    clear ha e
    go_enter Tryd.func18, Tryd.ntmps18
    go_wp2_with (go_at_call 28; (with_reducible refine seq_gw (h1.out _ hX0.out) ?_); intro g)
    have hli := hlit.out g
    clear hlit h1 hX0 hm8
    go_loopg [3, 15] l.length (fun gh vv i wr => ∃ (k : Nat) (acc : List UInt8), i = .int .i64 k ∧ k + gh = l.length ∧ OwnB wr w.heap.size vv acc ∧ acc.length ≤ 1 + 75 * k ∧ Hid (acc = UInt8.ofNat l.length :: valsB (l.take k)) ∧ Ext w wr)
    case atStart => exact ⟨0, [UInt8.ofNat l.length], rfl, by omega, hli, by simp, (by show _ = _; simp [valsB]), g.grown.alloc _⟩
    case round =>
      obtain ⟨k, acc, rfl, hk, ho, hak, hacc, hX⟩ := hrel
      clear hli
      have hzX := hX.size
      by_cases hlt : k < l.length
      · obtain ⟨x, hx⟩ : ∃ x, l[k]? = some x := ⟨_, List.getElem?_eq_getElem hlt⟩
        obtain ⟨b, o, rfl, -, hb', c0, c1, c2⟩ := hat.out k x hx
        have k0 := cell_later hX c0
        have k1 := cell_later hX c1
        have k2 := cell_later hX c2
        have hbr : b < wr.heap.size := block_lt_of_cell k0
        have hxn := hn.out x (List.mem_of_getElem? hx)
        have hVl := valB_le x hxn
        have hvb := hide (fun w => vbytes_c x.1 x.2.1 x.2.2 hxn w)
        rw [show (x.1, x.2.1, x.2.2) = x from rfl] at hvb
        have hnx := hide (show acc ++ valB x = UInt8.ofNat l.length :: valsB (l.take (k + 1)) by rw [List.take_add_one, hx, hacc.out, Option.toList_some, valsB_snoc]; rfl)
        obtain ⟨B, hB⟩ : ∃ B, B = valB x := ⟨_, rfl⟩
        rw [← hB] at hVl hvb hnx
        replace hB := hide hB
        obtain ⟨xk, xn, xs⟩ := x
        clear hx c0 c1 c2 hacc hxn
        go_wp2_with (first | (go_at_call 44; refine (hvb.out _).mono ?_; rintro ee w1 ⟨v1, rfl, ho1, hx1⟩; have hz1 := hx1.size) | (at_builtin; (refine wpl_app tBytes rfl (.tmp 19) (.tmp 21) rfl rfl (own_ext ho (((Ext.refl wr).alloc _).trans hx1)) rfl (src_sl Tryd.underlying27 (Sl.own (S := []) ho1 (by simp)) (bs_one _) (by omega)) (by unfold maxLen; omega) (by omega) (by simp only [World.size_alloc] at hz1; omega) ?_; intro v2 w2 ho2 hg2 _; replace ho2 := own_app ho2)))
        go_roundg (l.length - (k + 1))
        case measure => omega
        case rel => exact ⟨k + 1, acc ++ B, by go_num, by omega, ho2, by rw [List.length_append]; omega, hnx, ext_grown (hX.trans ((((Ext.refl wr).alloc _).trans hx1))) hg2 (fun k hk => (ho.lt k hk).1)⟩
      · have hk' : k = l.length := by omega
        have hge : (l.length : Int) ≤ k := by omega
        have hac := hacc.out
        rw [List.take_of_length_le (by omega)] at hac
        have hRa := hide (hR.out.trans hac.symm)
        replace hk' := hide hk'
        clear hac
        go_wp2_with fail
        go_returns
        rw [hRa.out]
        exact ⟨_, rfl, ho, hX⟩
set_option maxHeartbeats 4000000 in
set_option maxRecDepth 100000 in
theorem refRowBytes_c (l : List Vl) (hn : ∀ x ∈ l, inI x.2.1) (v : Value) (w : World) (hl : Rw w [] v l) : Calls Tryd.prog 21 #[v] w fun e w' => ∃ v', e = .returned v' ∧ OwnB w' w.heap.size v' (rowB l) ∧ Ext w w' := by
  have h1 := hide (fun w' (hX : Ext w w') => refRowMay_c l v w' (Sl.ext hl hX))
  have hX0 := hide (Ext.refl w)
  obtain ⟨A, cap, rfl, hlc, hlm, hat⟩ := rw_form hl
  unfold maxLen at hlm
  replace hat := hide hat
  clear hl
  cases ha : mayR l
  · have e : rowB l = [] := by unfold rowB; rw [ha, if_neg (by decide)]
    rw [e]
    rw [ha] at h1
    clear ha e
    go_enter Tryd.func21, Tryd.ntmps21
    go_wp2_with (go_at_call 45; (with_reducible refine seq_gw (h1.out _ hX0.out) ?_); intro g)
    go_returns
    exact ⟨_, rfl, World.ownsRow_nil _ _ _ _, g.grown⟩
  · have l8 := (mayR_iff.1 ha).1
    have e : rowB l = UInt8.ofNat l.length :: valsB l := by unfold rowB; rw [if_pos ha]
    rw [ha] at h1
    obtain ⟨R, hR⟩ : ∃ R, R = rowB l := ⟨_, rfl⟩
    rw [← hR]
    rw [e] at hR
    replace hR := hide hR
    have hm8 : (l.length : Int) % 256 = l.length := by omega
    have hlit := hide (fun (g : GW w) => lenB_lit l8 w.heap.size g.val (GW.size g))
    replace hn := hide hn
    clear ha e
    go_enter Tryd.func21, Tryd.ntmps21
    go_wp2_with (go_at_call 45; (with_reducible refine seq_gw (h1.out _ hX0.out) ?_); intro g)
    have hli := hlit.out g
    clear hlit h1 hX0 hm8
    go_loopg [3, 4] l.length (fun gh vv i wr => ∃ (k : Nat) (acc : List UInt8), i = .int .i64 k ∧ k + gh = l.length ∧ OwnB wr w.heap.size vv acc ∧ acc.length ≤ 1 + 75 * k ∧ Hid (acc = UInt8.ofNat l.length :: valsB (l.take k)) ∧ Ext w wr)
    case atStart => exact ⟨0, [UInt8.ofNat l.length], rfl, by omega, hli, by simp, (by show _ = _; simp [valsB]), g.grown.alloc _⟩
    case round =>
      obtain ⟨k, acc, rfl, hk, ho, hak, hacc, hX⟩ := hrel
      clear hli
      have hzX := hX.size
      by_cases hlt : k < l.length
      · obtain ⟨x, hx⟩ : ∃ x, l[k]? = some x := ⟨_, List.getElem?_eq_getElem hlt⟩
        obtain ⟨b, o, rfl, -, hb', c0, c1, c2⟩ := hat.out k x hx
        have k0 := cell_later hX c0
        have k1 := cell_later hX c1
        have k2 := cell_later hX c2
        have hbr : b < wr.heap.size := block_lt_of_cell k0
        have hxn := hn.out x (List.mem_of_getElem? hx)
        have hVl := valB_le x hxn
        have hvb := hide (fun w => vrefBytes_c x.1 x.2.1 x.2.2 hxn w)
        rw [show (x.1, x.2.1, x.2.2) = x from rfl] at hvb
        have hnx := hide (show acc ++ valB x = UInt8.ofNat l.length :: valsB (l.take (k + 1)) by rw [List.take_add_one, hx, hacc.out, Option.toList_some, valsB_snoc]; rfl)
        obtain ⟨B, hB⟩ : ∃ B, B = valB x := ⟨_, rfl⟩
        rw [← hB] at hVl hvb hnx
        replace hB := hide hB
        obtain ⟨xk, xn, xs⟩ := x
        clear hx c0 c1 c2 hacc hxn
        go_wp2_with (first | (go_at_call 49; refine (hvb.out _).mono ?_; rintro ee w1 ⟨v1, rfl, ho1, hx1⟩; have hz1 := hx1.size) | (at_builtin; (refine wpl_app tBytes rfl (.tmp 18) (.tmp 23) rfl rfl (own_ext ho hx1) rfl (src_sl Tryd.underlying27 (Sl.own (S := []) ho1 (by simp)) (bs_one _) (by omega)) (by unfold maxLen; omega) (by omega) (by skip; omega) ?_; intro v2 w2 ho2 hg2 _; replace ho2 := own_app ho2)))
        go_roundg (l.length - (k + 1))
        case measure => omega
        case rel => exact ⟨k + 1, acc ++ B, by go_num, by omega, ho2, by rw [List.length_append]; omega, hnx, ext_grown (hX.trans (hx1)) hg2 (fun k hk => (ho.lt k hk).1)⟩
      · have hk' : k = l.length := by omega
        have hge : (l.length : Int) ≤ k := by omega
        have hac := hacc.out
        rw [List.take_of_length_le (by omega)] at hac
        have hRa := hide (hR.out.trans hac.symm)
        replace hk' := hide hk'
        clear hac
        go_wp2_with fail
        go_returns
        rw [hRa.out]
        exact ⟨_, rfl, ho, hX⟩
end Go.Proofs.YthidjngipkelcaaDoor
set_option linter.unusedVariables false
set_option linter.unusedSimpArgs false
namespace Go.Proofs.YthidjngipkelcaaDoor
open Go.RowKit
attribute [local go_sem] GW.cell GW.frozen In.eq_true In.le_true In.ne In.ne' In.ne_add In.ne_add' In.lt_add Upto.le_true Upto.le_add Upto.lt_add
/-- The box of a list of bytes, and the list. -/
def Bxb (w : World) (base B : Nat) (v : Value) (l : List UInt8) : Prop := Ob w B 27 [v] ∧ OwnB w base v l ∧ base ≤ B
def bytesF (l : List UInt8) : Fact := .st (fun u w => By w [] u l) (fun _ _ _ h k => Sl.ext h k)
theorem own_len {w : World} {B n n' c : Nat} {A : Option Addr} {l : List UInt8} (e : n = n') (h : OwnB w B (.slice A n c) l) : OwnB w B (.slice A n' c) l := e ▸ h
theorem own_by {w : World} {B : Nat} {v : Value} {l : List UInt8} (h : OwnB w B v l) : By w [] v l := Sl.own h (by simp)
set_option maxHeartbeats 4000000 in
set_option maxRecDepth 100000 in
theorem putB_c (base B : Nat) (v : Value) (l : List UInt8) (n : Int) (hn : n ≤ 9223372036854775807) (w : World) (hbx : Bxb w base B v l) (hl : l.length ≤ 10000) : Calls Tryd.prog 16 #[.int .i64 n, .pointer (some ⟨B, 0, none⟩)] w fun e w' => e = .returned (.tuple #[]) ∧ ∃ v', Bxb w' base B v' (l ++ numB n) ∧ Fr (B :: ob v) w w' := by
  obtain ⟨hO, ho, hbB⟩ := hbx
  obtain ⟨A, cap, rfl⟩ := own_form ho
  have hbase := hO.lt
  have hc := hide (fun w => num_c n hn w)
  have hnl := numB_len hn
  replace hO := hide hO
  replace ho := hide ho
  go_enter Tryd.func16, Tryd.ntmps16
  refine wp_region_list_tail 3 [.is (.slice A l.length cap), .is (.int .i64 n), bytesF (numB n)] (by kernel_rfl) (by kernel_rfl) (by kernel_rfl) (by kernel_rfl) (by kernel_rfl) (by kernel_rfl) (by kernel_rfl) ?_ ?_
  · refine ⟨?_, ?_, ?_, trivial⟩
    · intro b w' h hE
      have f1 : b.tmps.getD 1 undef = .pointer (some ⟨B, 0, none⟩) := hE 1 (of_decide_eq_true (by kernel_rfl))
      have c0 := (hO.out.ext h.ext).cell 0 rfl
      exact good_load (wanted_none rfl) rfl f1 (by simp [go_sem, c0]) rfl
    · intro b w' h hE
      have f0 : b.tmps.getD 0 undef = .int .i64 n := hE 0 (of_decide_eq_true (by kernel_rfl))
      exact good_move (wanted_none rfl) rfl f0
    · intro b w' h hE
      have f4 : b.tmps.getD 4 undef = .int .i64 n := h.dep 1 _ 4 (by kernel_rfl) rfl rfl
      refine good_call (wanted_none rfl) rfl (enters Tryd.func17 (by kernel_rfl) rfl) ?_
      rw [show (#[.tmp 4] : Array Operand).map b.eval = #[.int .i64 n] by simp [Act.eval, f4]]
      exact (hc.out _).mono fun e w1 ⟨u, he, hu, hx⟩ => ⟨u, he, own_by hu, hx⟩
  · intro b w2 hX2 hd hz he' hf
    have f0 : b.tmps.getD 3 undef = .slice A l.length cap := hf 0 _ 3 (by omega) rfl rfl
    have f4 : b.tmps.getD 4 undef = .int .i64 n := hf 1 _ 4 (by omega) rfl rfl
    have f9 : By w2 [] (b.tmps.getD 5 undef) (numB n) := hf 2 _ 5 (by omega) rfl rfl
    have e := frame_puts hd hz he'
    obtain ⟨x, hx⟩ : ∃ x : Nat → Value, ∀ d, b.tmps.getD d undef = x d := ⟨_, fun _ => rfl⟩
    rw [hx] at f0 f4 f9
    obtain ⟨A2, c2, e9, _⟩ := id f9
    rw [show dstsOf _ = [3, 4, 5] from rfl] at e
    simp only [List.foldl_cons, List.foldl_nil, hx, Act.put, List.setIfInBounds_toArray, List.set_cons_succ, List.set_cons_zero] at e
    rw [f0, f4, e9] at e
    rw [e9] at f9
    replace f9 := hide f9
    clear hf he' hz hd hx f0 f4
    subst e
    have hzw := hX2.size
    have hnB := hO.out.not_own ho.out (T := 27) (by decide)
    simp only [List.drop_succ_cons, List.drop_zero]
    go_wp2_with (at_builtin; (refine wpl_app tBytes rfl (.tmp 3) (.tmp 5) rfl rfl (own_ext ho.out hX2) rfl (src_sl Tryd.underlying27 f9.out (bs_one _) (by omega)) (by unfold maxLen; omega) (by omega) (by omega) ?_; intro v1 w1 ho1 hg1 hob1; replace hg1 : w2.grownBy w1 (Value.slice A l.length cap).ownBlock := hg1; have O1 := (hO.out.ext hX2).grown hg1 (fun e => hnB e.symm); have k0 := O1.cell 0 rfl; have z0 := O1.free 0; have hlt1 := O1.lt; haveI : In B w1 := ⟨hlt1⟩; replace ho1 := own_app ho1; obtain ⟨A1, cp1, rfl⟩ := own_form ho1))
    go_end0
    have hF := ((Fr.of_ext (S := B :: ob (.slice A l.length cap)) hX2).then (fr_grown hg1) (fun x hx => .inl (by simp; exact .inr (by simpa [ob] using hx)))).setCell ⟨B, 0, none⟩ (.slice A1 (l ++ numB n).length cp1) (.inl (by simp))
    try rw [← List.length_append]
    refine ⟨rfl, .slice A1 (l ++ numB n).length cp1, ⟨O1.set 0 _, ?_, hbB⟩, hF⟩
    exact own_far ho1 _ _ (O1.not_own ho1 (by decide))
/-- Where Bytes stands: the message's block, the box and its list. -/
structure BS (w0 W : World) (k i f t : Int) (u : Value) (B : Nat) (l : List UInt8) : Prop where
  m : Ob W w0.heap.size 26 [.int .i64 k, .int .i64 i, .int .i64 f, .int .i64 t, u]
  x : Ext w0 W
  b : ∃ v, Bxb W (w0.heap.size + 1) B v l
  lt : w0.heap.size < B
theorem putS_c (w0 W : World) (k i f t : Int) (u : Value) (B : Nat) (l : List UInt8) (n : Int) (hn : n ≤ 9223372036854775807) (h : BS w0 W k i f t u B l) (hl : l.length ≤ 10000) : Calls Tryd.prog 16 #[.int .i64 n, .pointer (some ⟨B, 0, none⟩)] W fun e w' => e = .returned (.tuple #[]) ∧ BS w0 w' k i f t u B (l ++ numB n) := by
  obtain ⟨hm, hx, ⟨v, hb⟩, hlt⟩ := h
  refine (putB_c _ B v l n hn W hb hl).mono ?_
  rintro e w' ⟨he, v', hb', hF⟩
  have hge := ob_ge hb.2.1
  refine ⟨he, hm.fr hF ?_, ext_fr hx hF ?_, ⟨v', hb'⟩, hlt⟩
  · intro hm
    rcases List.mem_cons.1 hm with e | e
    · omega
    · have := (hge _ e).1; omega
  · intro y hy
    rcases List.mem_cons.1 hy with rfl | e
    · omega
    · have := (hge _ e).1; omega
theorem bs_start (w0 W : World) (k i f t : Int) (u : Value) (c : UInt8) (x : Int) (hc : x = c.toNat) (hm : Ob W w0.heap.size 26 [.int .i64 k, .int .i64 i, .int .i64 f, .int .i64 t, u]) (hx : Ext w0 W) :
    BS w0 ((W.alloc (.cells #[.int .u8 x] 5)).alloc (.cells #[.slice (some ⟨W.heap.size, 0, none⟩) 1 1] 27)) k i f t u (W.heap.size + 1) [c] := by
  have hlt := hm.lt
  subst hc
  refine ⟨(hm.alloc _).alloc _, (hx.alloc _).alloc _, ⟨.slice (some ⟨W.heap.size, 0, none⟩) 1 1, ?_, ?_, by omega⟩, by omega⟩
  · have := Ob.new (W.alloc (.cells #[.int .u8 (c.toNat : Int)] 5)) 27 [.slice (some ⟨W.heap.size, 0, none⟩) 1 1]
    rw [World.size_alloc] at this
    exact this
  · exact World.ownsRow.alloc (World.ownsRow_lit (base := w0.heap.size + 1) (e := 5) (size := 1) W #[.int .u8 (c.toNat : Int)] 1 hlt (by decide) rfl) _
set_option maxHeartbeats 4000000 in
set_option maxRecDepth 100000 in
theorem bytesBad_c (k i f t : Int) (l : List Vl) (v : Value) (w : World) (hl : Rw w [] v l) (hm : mchk k i f t l ≠ 0) : Calls Tryd.prog 5 #[mg k i f t v] w fun e w' => ∃ v', e = .returned v' ∧ OwnB w' w.heap.size v' [] ∧ Ext w w' := by
  have hck := hide (fun w' (hX : Ext w w') => check_c k i f t l v w' (Sl.ext hl hX))
  have hX0 := hide ((Ext.refl w).alloc (mO k i f t v))
  generalize mchk k i f t l = E at *
  have hEb : (E != 0) = true := by simp [hm]
  obtain ⟨Av, capv, rfl, -, -, -⟩ := rw_form hl
  clear hl hm
  go_enter Tryd.func5, Tryd.ntmps5
  go_wp2_with (go_at_call 9; (with_reducible refine seq_gw (hck.out _ hX0.out) ?_); intro g)
  go_returns
  exact ⟨_, rfl, own_nil _ _, hX0.out.trans g.grown⟩
set_option maxHeartbeats 8000000 in
set_option maxRecDepth 100000 in
theorem bytes3_c (i f t : Int) (l : List Vl) (v : Value) (w : World) (hl : Rw w [] v l) (hm : mchk 3 i f t l = 0) : Calls Tryd.prog 5 #[mg 3 i f t v] w fun e w' => ∃ v', e = .returned v' ∧ OwnB w' w.heap.size v' ([3] ++ numB f) ∧ Ext w w' := by
  have hck := hide (fun w' (hX : Ext w w') => check_c 3 i f t l v w' (Sl.ext hl hX))
  rw [hm] at hck
  obtain ⟨hi, hf, ht, hl0⟩ := chk3 hm
  have hf2 := hide (show f ≤ 9223372036854775807 by omega)
  have hX0 := hide ((Ext.refl w).alloc (mO 3 i f t v))
  obtain ⟨Av, capv, rfl, -, -, -⟩ := rw_form hl
  have M0 := hide (Ob.new w 26 [.int .i64 3, .int .i64 i, .int .i64 f, .int .i64 t, .slice Av l.length capv])
  clear hl hm hi hf ht hl0
  go_enter Tryd.func5, Tryd.ntmps5
  go_wp2_with (first
    | (go_at_call 9; (with_reducible refine seq_gw (hck.out _ hX0.out) ?_); intro g; have hS0 := hide (bs_start w g.val 3 i f t (.slice Av l.length capv) 3 3 rfl (M0.out.ext g.grown) (hX0.out.trans g.grown)))
    | (go_at_call 16; refine (putS_c _ _ _ _ _ _ _ _ _ f hf2.out hS0.out (by decide)).mono ?_; rintro ee w1 ⟨rfl, hS1⟩; obtain ⟨m1, x1, ⟨v1, hO1, ho1, hb1⟩, lt1⟩ := hS1; have c1 := hO1.cell 0 rfl; have l1 := hO1.lt; replace m1 := hide m1; replace hO1 := hide hO1; obtain ⟨A1, cp1, rfl⟩ := own_form ho1; replace ho1 := hide ho1))
  go_returns
  exact ⟨_, rfl, own_base ho1.out (by omega), x1⟩
set_option maxHeartbeats 8000000 in
set_option maxRecDepth 100000 in
theorem bytes2_c (i f t : Int) (l : List Vl) (v : Value) (w : World) (hl : Rw w [] v l) (hm : mchk 2 i f t l = 0) : Calls Tryd.prog 5 #[mg 2 i f t v] w fun e w' => ∃ v', e = .returned v' ∧ OwnB w' w.heap.size v' (([2] ++ numB i) ++ numB t) ∧ Ext w w' := by
  have hck := hide (fun w' (hX : Ext w w') => check_c 2 i f t l v w' (Sl.ext hl hX))
  rw [hm] at hck
  obtain ⟨hi, hf, ht, hl0⟩ := chk2 hm
  have hi2 := hide (show i ≤ 9223372036854775807 by omega)
  have ht2 := hide (show t ≤ 9223372036854775807 by omega)
  have hil := hide (numB_len hi2.out)
  have hX0 := hide ((Ext.refl w).alloc (mO 2 i f t v))
  obtain ⟨Av, capv, rfl, -, -, -⟩ := rw_form hl
  have M0 := hide (Ob.new w 26 [.int .i64 2, .int .i64 i, .int .i64 f, .int .i64 t, .slice Av l.length capv])
  clear hl hm hi hf ht hl0
  go_enter Tryd.func5, Tryd.ntmps5
  go_wp2_with (first
    | (go_at_call 9; (with_reducible refine seq_gw (hck.out _ hX0.out) ?_); intro g; have hS0 := hide (bs_start w g.val 2 i f t (.slice Av l.length capv) 2 2 rfl (M0.out.ext g.grown) (hX0.out.trans g.grown)))
    | (go_at_call 16; ((with_reducible refine (putS_c _ _ _ _ _ _ _ _ _ i hi2.out hS0.out (by decide)).mono ?_); rintro ee w1 ⟨rfl, hS1⟩; have q0 := hS1.m.cell 0 rfl; have q3 := hS1.m.cell 3 rfl; have ql := hS1.m.lt; haveI : In w.heap.size w1 := ⟨ql⟩; replace hS1 := hide hS1))
    | (go_at_call 16; ((with_reducible refine (putS_c _ _ _ _ _ _ _ _ _ t ht2.out hS1.out (by have := hil.out; rw [List.length_append, List.length_singleton]; omega)).mono ?_); rintro ee w2 ⟨rfl, hS2⟩; obtain ⟨m1, x1, ⟨v1, hO1, ho1, hb1⟩, lt1⟩ := hS2; have c1 := hO1.cell 0 rfl; have l1 := hO1.lt; replace m1 := hide m1; replace hO1 := hide hO1; obtain ⟨A1, cp1, rfl⟩ := own_form ho1; replace ho1 := hide ho1)))
  go_returns
  have hv := own_base (B' := w.heap.size) ho1.out (by omega)
  exact ⟨_, rfl, own_len (by first | rfl | (simp; done) | (simp; omega)) hv, x1⟩
end Go.Proofs.YthidjngipkelcaaDoor
set_option linter.unusedVariables false
set_option linter.unusedSimpArgs false
namespace Go.Proofs.YthidjngipkelcaaDoor
open Go.RowKit
attribute [local go_sem] GW.cell GW.frozen In.eq_true In.le_true In.ne In.ne' In.ne_add In.ne_add' In.lt_add Upto.le_true Upto.le_add Upto.lt_add
theorem own_len2 {w : World} {B n n' c : Nat} {A : Option Addr} {l l' : List UInt8} (e : n = n') (el : l = l') (h : OwnB w B (.slice A n c) l) : OwnB w B (.slice A n' c) l' := e ▸ el ▸ h
set_option maxHeartbeats 8000000 in
set_option maxRecDepth 100000 in
theorem bytes1_c (i f t : Int) (l : List Vl) (hn : ∀ x ∈ l, inI x.2.1) (v : Value) (w : World) (hl : Rw w [] v l) (hm : mchk 1 i f t l = 0) : Calls Tryd.prog 5 #[mg 1 i f t v] w fun e w' => ∃ v', e = .returned v' ∧ OwnB w' w.heap.size v' ((([1] ++ numB i) ++ numB f ++ numB t) ++ rowB l) ∧ Ext w w' := by
  have hck := hide (fun w' (hX : Ext w w') => check_c 1 i f t l v w' (Sl.ext hl hX))
  rw [hm] at hck
  obtain ⟨-, hi, hf, ht⟩ := chk1 hm
  have hi2 := hide (show i ≤ 9223372036854775807 by omega)
  have hf2 := hide (show f ≤ 9223372036854775807 by omega)
  have ht2 := hide (show t ≤ 9223372036854775807 by omega)
  have hil := hide (numB_len hi2.out)
  have hfl := hide (numB_len hf2.out)
  have htl := hide (numB_len ht2.out)
  have hrl := hide (rowB_len hn)
  have hrb := hide (fun w' (hX : Ext w w') => rowBytes_c l hn v w' (Sl.ext hl hX))
  have hX0 := hide ((Ext.refl w).alloc (mO 1 i f t v))
  obtain ⟨Av, capv, rfl, -, -, -⟩ := rw_form hl
  have M0 := hide (Ob.new w 26 [.int .i64 1, .int .i64 i, .int .i64 f, .int .i64 t, .slice Av l.length capv])
  clear hl hm hi hf ht hn
  go_enter Tryd.func5, Tryd.ntmps5
  go_wp2_with (first
    | (go_at_call 9; (with_reducible refine seq_gw (hck.out _ hX0.out) ?_); intro g; have hS0 := hide (bs_start w g.val 1 i f t (.slice Av l.length capv) 1 1 rfl (M0.out.ext g.grown) (hX0.out.trans g.grown)))
    | (go_at_call 16; ((with_reducible refine (putS_c _ _ _ _ _ _ _ _ _ i hi2.out hS0.out (by decide)).mono ?_); rintro ee w1 ⟨rfl, hS1⟩; have q0 := hS1.m.cell 0 rfl; have q2 := hS1.m.cell 2 rfl; have ql := hS1.m.lt; haveI : In w.heap.size w1 := ⟨ql⟩; replace hS1 := hide hS1))
    | (go_at_call 16; ((with_reducible refine (putS_c _ _ _ _ _ _ _ _ _ f hf2.out hS1.out (by have := hil.out; rw [List.length_append, List.length_singleton]; omega)).mono ?_); rintro ee w2 ⟨rfl, hS2⟩; have q3 := hS2.m.cell 3 rfl; have ql2 := hS2.m.lt; haveI : In w.heap.size w2 := ⟨ql2⟩; replace hS2 := hide hS2))
    | (go_at_call 16; ((with_reducible refine (putS_c _ _ _ _ _ _ _ _ _ t ht2.out hS2.out (by have := hil.out; have := hfl.out; simp only [List.length_append, List.length_singleton]; omega)).mono ?_); rintro ee w3 ⟨rfl, hS3⟩)))
  obtain ⟨m3, x3, ⟨v3, hO3, ho3, hb3⟩, lt3⟩ := hS3
  obtain ⟨B, hBe⟩ : ∃ B, B = g.val.heap.size + 1 := ⟨_, rfl⟩
  rw [← hBe] at hO3 hb3 lt3 ⊢
  obtain ⟨acc, hacc⟩ : ∃ acc, acc = ([1] ++ numB i) ++ numB f ++ numB t := ⟨_, rfl⟩
  rw [← hacc] at ho3
  try rw [← hacc]
  have hal : acc.length ≤ 31 := by have := hil.out; have := hfl.out; have := htl.out; rw [hacc]; simp only [List.length_append, List.length_singleton]; omega
  have hrl2 := hrl.out
  have hac := hide hacc
  obtain ⟨A3, cap3, rfl⟩ := own_form ho3
  have hbase := hO3.lt
  have hnB := hO3.not_own ho3 (T := 27) (by decide)
  have hO := hide hO3
  have ho := hide ho3
  have hM := hide m3
  have hXa := hide x3
  clear hS0 hS1 hS2 hBe hacc hO3 ho3 m3 hck
  refine wp_region_list_tail 4 [.is (.slice A3 acc.length cap3), .is (.pointer (some ⟨w.heap.size, 4, none⟩)), .is (.slice Av l.length capv), bytesF (rowB l)] (by kernel_rfl) (by kernel_rfl) (by kernel_rfl) (by kernel_rfl) (by kernel_rfl) (by kernel_rfl) (by kernel_rfl) ?_ ?_
  · refine ⟨?_, ?_, ?_, ?_, trivial⟩
    · intro b w' h hE
      have f3 : b.tmps.getD 3 undef = .pointer (some ⟨B, 0, none⟩) := hE 3 (of_decide_eq_true (by kernel_rfl))
      have c0 := (hO.out.ext h.ext).cell 0 rfl
      exact good_load (wanted_none rfl) rfl f3 (by simp [go_sem, c0]) rfl
    · intro b w' h hE
      have f1 : b.tmps.getD 1 undef = .pointer (some ⟨w.heap.size, 0, none⟩) := hE 1 (of_decide_eq_true (by kernel_rfl))
      exact good_field (wanted_none rfl) rfl f1 (by simp [go_sem]) rfl
    · intro b w' h hE
      have f30 : b.tmps.getD 30 undef = .pointer (some ⟨w.heap.size, 4, none⟩) := h.dep 1 _ 30 (by kernel_rfl) rfl rfl
      have c0 := (hM.out.ext h.ext).cell 4 rfl
      exact good_load (wanted_none rfl) rfl f30 (by simp [go_sem, c0]) rfl
    · intro b w' h hE
      have f31 : b.tmps.getD 31 undef = .slice Av l.length capv := h.dep 2 _ 31 (by kernel_rfl) rfl rfl
      refine good_call (wanted_none rfl) rfl (enters Tryd.func18 (by kernel_rfl) rfl) ?_
      rw [show (#[.tmp 31] : Array Operand).map b.eval = #[.slice Av l.length capv] by simp [Act.eval, f31]]
      exact (hrb.out _ (hXa.out.trans h.ext)).mono fun e w1 ⟨u, he, hu, hx⟩ => ⟨u, he, own_by hu, hx⟩
  · intro b w2 hX2 hd hz he' hf
    have f29 : b.tmps.getD 29 undef = .slice A3 acc.length cap3 := hf 0 _ 29 (by omega) rfl rfl
    have f30 : b.tmps.getD 30 undef = .pointer (some ⟨w.heap.size, 4, none⟩) := hf 1 _ 30 (by omega) rfl rfl
    have f31 : b.tmps.getD 31 undef = .slice Av l.length capv := hf 2 _ 31 (by omega) rfl rfl
    have f9 : By w2 [] (b.tmps.getD 32 undef) (rowB l) := hf 3 _ 32 (by omega) rfl rfl
    have e := frame_puts hd hz he'
    obtain ⟨x, hx⟩ : ∃ x : Nat → Value, ∀ d, b.tmps.getD d undef = x d := ⟨_, fun _ => rfl⟩
    rw [hx] at f29 f30 f31 f9
    obtain ⟨A2, c2, e9, _⟩ := id f9
    rw [show dstsOf _ = [29, 30, 31, 32] from rfl] at e
    simp only [List.foldl_cons, List.foldl_nil, hx, Act.put, List.setIfInBounds_toArray, List.set_cons_succ, List.set_cons_zero] at e
    rw [f29, f30, f31, e9] at e
    rw [e9] at f9
    replace f9 := hide f9
    clear hf he' hz hd hx f29 f30 f31
    subst e
    have hzw := hX2.size
    simp only [List.drop_succ_cons, List.drop_zero]
    go_wp2_with (at_builtin; (refine wpl_app tBytes rfl (.tmp 29) (.tmp 32) rfl rfl (own_ext ho.out hX2) rfl (src_sl Tryd.underlying27 f9.out (bs_one _) (by omega)) (by unfold maxLen; omega) (by omega) (by omega) ?_; intro v1 w1 ho1 hg1 hob1; replace hg1 : w2.grownBy w1 (Value.slice A3 acc.length cap3).ownBlock := hg1; have O1 := (hO.out.ext hX2).grown hg1 (fun e => hnB e.symm); have k0 := O1.cell 0 rfl; have z0 := O1.free 0; have hlt1 := O1.lt; haveI : In B w1 := ⟨hlt1⟩; replace ho1 := own_app ho1; obtain ⟨A1, cp1, rfl⟩ := own_form ho1))
    go_returns
    have hF := ((Fr.of_ext (S := B :: ob (.slice A3 acc.length cap3)) hX2).then (fr_grown hg1) (fun x hx => .inl (by simp; exact .inr (by simpa [ob] using hx)))).setCell ⟨B, 0, none⟩ (.slice A1 (acc ++ rowB l).length cp1) (.inl (by simp))
    try rw [← List.length_append]
    try rw [← hac.out]
    have o5 := own_far ho1 ⟨B, 0, none⟩ (.slice A1 (acc ++ rowB l).length cp1) (O1.not_own ho1 (by decide))
    have o6 := own_base (B' := w.heap.size) o5 (by omega)
    refine ⟨_, rfl, own_len2 ?_ ?_ o6, ext_fr hXa.out hF ?_⟩
    · first | rfl | (simp; done) | (simp; omega)
    · rw [hac.out]; simp
    intro y hy
    rcases List.mem_cons.1 hy with rfl | hy
    · omega
    · have := (ob_ge ho.out y hy).1; omega
set_option maxHeartbeats 8000000 in
set_option maxRecDepth 100000 in
theorem refBytes1_c (i f t : Int) (l : List Vl) (hn : ∀ x ∈ l, inI x.2.1) (v : Value) (w : World) (hl : Rw w [] v l) (hm : mchk 1 i f t l = 0) : Calls Tryd.prog 6 #[mg 1 i f t v] w fun e w' => ∃ v', e = .returned v' ∧ OwnB w' w.heap.size v' (((([1] ++ numB i) ++ numB f ++ numB t) ++ rowB l)) ∧ Ext w w' := by
  have hck := hide (fun w' (hX : Ext w w') => refCheck_c 1 i f t l v w' (Sl.ext hl hX))
  rw [hm] at hck
  obtain ⟨-, hi0, hf0, ht0⟩ := chk1 hm
  have hi := hide (show i ≤ 9223372036854775807 by omega)
  have hf := hide (show f ≤ 9223372036854775807 by omega)
  have ht := hide (show t ≤ 9223372036854775807 by omega)
  have hil := hide (numB_len hi.out)
  have hfl := hide (numB_len hf.out)
  have htl := hide (numB_len ht.out)
  clear hi0 hf0 ht0
  have hrl := hide (rowB_len hn)
  have hrb := hide (fun w' (hX : Ext w w') => refRowBytes_c l hn v w' (Sl.ext hl hX))
  have hX0 := hide ((Ext.refl w).alloc (mO 1 i f t v))
  obtain ⟨Av, capv, rfl, -, -, -⟩ := rw_form hl
  have M0 := hide (Ob.new w 26 [.int .i64 1, .int .i64 i, .int .i64 f, .int .i64 t, .slice Av l.length capv])
  clear hl hm hn
  go_enter Tryd.func6, Tryd.ntmps6
  go_wp2_with (first | (go_at_call 19; (with_reducible refine seq_gw (hck.out _ hX0.out) ?_); intro g; have hz0 := GW.size g; simp only [World.size_alloc] at hz0; have acc0 := hide (World.ownsRow_lit (base := w.heap.size + 1) (e := 5) (size := 1) g.val #[.int .u8 1] 1 hz0 (by decide) rfl); have X0 := hide (show Ext (w.alloc (mO 1 i f t (.slice Av l.length capv))) (g.val.alloc (.cells #[.int .u8 1] 5)) from g.grown.alloc _)) | (go_at_call 20; ((with_reducible refine (refNum_c i hi.out _).mono ?_); rintro ee u1 ⟨y1, rfl, z1, t1⟩; replace z1 := hide (own_by z1); replace t1 := hide t1; have tz := t1.out.size; have xz := X0.out.size; (try simp only [World.size_alloc] at xz tz))) | (at_builtin; (refine wpl_app tBytes rfl (.tmp 14) (.tmp 17) rfl rfl (own_ext acc0.out t1.out) rfl (src_sl Tryd.underlying27 z1.out (bs_one _) (by omega)) (by unfold maxLen; have := hil.out; have := hfl.out; have := htl.out; have := hrl.out; (try simp only [List.length_append, List.length_singleton, List.length_cons, List.length_nil]); omega) (by have := hil.out; have := hfl.out; have := htl.out; have := hrl.out; (try simp only [List.length_append, List.length_singleton, List.length_cons, List.length_nil]); omega) (by omega) ?_; intro v1 w1 ho1 hg1 _; have X1 := hide (ext_grown (X0.out.trans t1.out) hg1 (fun q hq => by have := (acc0.out.lt q hq).1; simpa using this)); have acc1 := hide (own_app (l := [1]) ho1); have Mx := M0.out.ext X1.out; have qa := Mx.cell 0 rfl; have qb := Mx.cell 1 rfl; have qc := Mx.cell 2 rfl; have qd := Mx.cell 3 rfl; have qe := Mx.cell 4 rfl; have ql := Mx.lt; haveI : In w.heap.size w1 := ⟨ql⟩; clear Mx)) | (go_at_call 20; ((with_reducible refine (refNum_c f hf.out _).mono ?_); rintro ee u2 ⟨y2, rfl, z2, t2⟩; replace z2 := hide (own_by z2); replace t2 := hide t2; have tz := t2.out.size; have xz := X1.out.size; (try simp only [World.size_alloc] at xz tz))) | (at_builtin; (refine wpl_app tBytes rfl (.tmp 22) (.tmp 25) rfl rfl (own_ext acc1.out t2.out) rfl (src_sl Tryd.underlying27 z2.out (bs_one _) (by omega)) (by unfold maxLen; have := hil.out; have := hfl.out; have := htl.out; have := hrl.out; (try simp only [List.length_append, List.length_singleton, List.length_cons, List.length_nil]); omega) (by have := hil.out; have := hfl.out; have := htl.out; have := hrl.out; (try simp only [List.length_append, List.length_singleton, List.length_cons, List.length_nil]); omega) (by omega) ?_; intro v2 w2 ho2 hg2 _; have X2 := hide (ext_grown (X1.out.trans t2.out) hg2 (fun q hq => by have := (acc1.out.lt q hq).1; simpa using this)); have acc2 := hide (own_app ho2); have Mx := M0.out.ext X2.out; have qa := Mx.cell 0 rfl; have qb := Mx.cell 1 rfl; have qc := Mx.cell 2 rfl; have qd := Mx.cell 3 rfl; have qe := Mx.cell 4 rfl; have ql := Mx.lt; haveI : In w.heap.size w2 := ⟨ql⟩; clear Mx)) | (go_at_call 20; ((with_reducible refine (refNum_c t ht.out _).mono ?_); rintro ee u3 ⟨y3, rfl, z3, t3⟩; replace z3 := hide (own_by z3); replace t3 := hide t3; have tz := t3.out.size; have xz := X2.out.size; (try simp only [World.size_alloc] at xz tz))) | (at_builtin; (refine wpl_app tBytes rfl (.tmp 30) (.tmp 33) rfl rfl (own_ext acc2.out t3.out) rfl (src_sl Tryd.underlying27 z3.out (bs_one _) (by omega)) (by unfold maxLen; have := hil.out; have := hfl.out; have := htl.out; have := hrl.out; (try simp only [List.length_append, List.length_singleton, List.length_cons, List.length_nil]); omega) (by have := hil.out; have := hfl.out; have := htl.out; have := hrl.out; (try simp only [List.length_append, List.length_singleton, List.length_cons, List.length_nil]); omega) (by omega) ?_; intro v3 w3 ho3 hg3 _; have X3 := hide (ext_grown (X2.out.trans t3.out) hg3 (fun q hq => by have := (acc2.out.lt q hq).1; simpa using this)); have acc3 := hide (own_app ho3); have Mx := M0.out.ext X3.out; have qa := Mx.cell 0 rfl; have qb := Mx.cell 1 rfl; have qc := Mx.cell 2 rfl; have qd := Mx.cell 3 rfl; have qe := Mx.cell 4 rfl; have ql := Mx.lt; haveI : In w.heap.size w3 := ⟨ql⟩; clear Mx)) | (go_at_call 21; ((with_reducible refine (hrb.out _ (hX0.out.trans X3.out)).mono ?_); rintro ee u4 ⟨y4, rfl, z4, t4⟩; replace z4 := hide (own_by z4); replace t4 := hide t4; have tz := t4.out.size; have xz := X3.out.size; (try simp only [World.size_alloc] at xz tz))) | (at_builtin; (refine wpl_app tBytes rfl (.tmp 38) (.tmp 41) rfl rfl (own_ext acc3.out t4.out) rfl (src_sl Tryd.underlying27 z4.out (bs_one _) (by omega)) (by unfold maxLen; have := hil.out; have := hfl.out; have := htl.out; have := hrl.out; (try simp only [List.length_append, List.length_singleton, List.length_cons, List.length_nil]); omega) (by have := hil.out; have := hfl.out; have := htl.out; have := hrl.out; (try simp only [List.length_append, List.length_singleton, List.length_cons, List.length_nil]); omega) (by omega) ?_; intro v4 w4 ho4 hg4 _; have X4 := hide (ext_grown (X3.out.trans t4.out) hg4 (fun q hq => by have := (acc3.out.lt q hq).1; simpa using this)); have acc4 := hide (own_app ho4); have Mx := M0.out.ext X4.out; have qa := Mx.cell 0 rfl; have qb := Mx.cell 1 rfl; have qc := Mx.cell 2 rfl; have qd := Mx.cell 3 rfl; have qe := Mx.cell 4 rfl; have ql := Mx.lt; haveI : In w.heap.size w4 := ⟨ql⟩; clear Mx)))
  go_returns
  exact ⟨_, rfl, own_base acc4.out (by omega), hX0.out.trans X4.out⟩
set_option maxHeartbeats 8000000 in
set_option maxRecDepth 100000 in
theorem refBytes2_c (i f t : Int) (l : List Vl) (hn : ∀ x ∈ l, inI x.2.1) (v : Value) (w : World) (hl : Rw w [] v l) (hm : mchk 2 i f t l = 0) : Calls Tryd.prog 6 #[mg 2 i f t v] w fun e w' => ∃ v', e = .returned v' ∧ OwnB w' w.heap.size v' ((([2] ++ numB i) ++ numB t)) ∧ Ext w w' := by
  have hck := hide (fun w' (hX : Ext w w') => refCheck_c 2 i f t l v w' (Sl.ext hl hX))
  rw [hm] at hck
  obtain ⟨hi0, hf0, ht0, -⟩ := chk2 hm
  have hi := hide (show i ≤ 9223372036854775807 by omega)
  have hf := hide (show f ≤ 9223372036854775807 by omega)
  have ht := hide (show t ≤ 9223372036854775807 by omega)
  have hil := hide (numB_len hi.out)
  have hfl := hide (numB_len hf.out)
  have htl := hide (numB_len ht.out)
  clear hi0 hf0 ht0
  have hrl := hide (rowB_len hn)
  have hrb := hide (fun w' (hX : Ext w w') => refRowBytes_c l hn v w' (Sl.ext hl hX))
  have hX0 := hide ((Ext.refl w).alloc (mO 2 i f t v))
  obtain ⟨Av, capv, rfl, -, -, -⟩ := rw_form hl
  have M0 := hide (Ob.new w 26 [.int .i64 2, .int .i64 i, .int .i64 f, .int .i64 t, .slice Av l.length capv])
  clear hl hm hn
  go_enter Tryd.func6, Tryd.ntmps6
  go_wp2_with (first | (go_at_call 19; (with_reducible refine seq_gw (hck.out _ hX0.out) ?_); intro g; have hz0 := GW.size g; simp only [World.size_alloc] at hz0; have acc0 := hide (World.ownsRow_lit (base := w.heap.size + 1) (e := 5) (size := 1) g.val #[.int .u8 2] 1 hz0 (by decide) rfl); have X0 := hide (show Ext (w.alloc (mO 2 i f t (.slice Av l.length capv))) (g.val.alloc (.cells #[.int .u8 2] 5)) from g.grown.alloc _)) | (go_at_call 20; ((with_reducible refine (refNum_c i hi.out _).mono ?_); rintro ee u1 ⟨y1, rfl, z1, t1⟩; replace z1 := hide (own_by z1); replace t1 := hide t1; have tz := t1.out.size; have xz := X0.out.size; (try simp only [World.size_alloc] at xz tz))) | (at_builtin; (refine wpl_app tBytes rfl (.tmp 14) (.tmp 17) rfl rfl (own_ext acc0.out t1.out) rfl (src_sl Tryd.underlying27 z1.out (bs_one _) (by omega)) (by unfold maxLen; have := hil.out; have := hfl.out; have := htl.out; have := hrl.out; (try simp only [List.length_append, List.length_singleton, List.length_cons, List.length_nil]); omega) (by have := hil.out; have := hfl.out; have := htl.out; have := hrl.out; (try simp only [List.length_append, List.length_singleton, List.length_cons, List.length_nil]); omega) (by omega) ?_; intro v1 w1 ho1 hg1 _; have X1 := hide (ext_grown (X0.out.trans t1.out) hg1 (fun q hq => by have := (acc0.out.lt q hq).1; simpa using this)); have acc1 := hide (own_app (l := [2]) ho1); have Mx := M0.out.ext X1.out; have qa := Mx.cell 0 rfl; have qb := Mx.cell 1 rfl; have qc := Mx.cell 2 rfl; have qd := Mx.cell 3 rfl; have qe := Mx.cell 4 rfl; have ql := Mx.lt; haveI : In w.heap.size w1 := ⟨ql⟩; clear Mx)) | (go_at_call 20; ((with_reducible refine (refNum_c t ht.out _).mono ?_); rintro ee u2 ⟨y2, rfl, z2, t2⟩; replace z2 := hide (own_by z2); replace t2 := hide t2; have tz := t2.out.size; have xz := X1.out.size; (try simp only [World.size_alloc] at xz tz))) | (at_builtin; (refine wpl_app tBytes rfl (.tmp 30) (.tmp 33) rfl rfl (own_ext acc1.out t2.out) rfl (src_sl Tryd.underlying27 z2.out (bs_one _) (by omega)) (by unfold maxLen; have := hil.out; have := hfl.out; have := htl.out; have := hrl.out; (try simp only [List.length_append, List.length_singleton, List.length_cons, List.length_nil]); omega) (by have := hil.out; have := hfl.out; have := htl.out; have := hrl.out; (try simp only [List.length_append, List.length_singleton, List.length_cons, List.length_nil]); omega) (by omega) ?_; intro v2 w2 ho2 hg2 _; have X2 := hide (ext_grown (X1.out.trans t2.out) hg2 (fun q hq => by have := (acc1.out.lt q hq).1; simpa using this)); have acc2 := hide (own_app ho2); have Mx := M0.out.ext X2.out; have qa := Mx.cell 0 rfl; have qb := Mx.cell 1 rfl; have qc := Mx.cell 2 rfl; have qd := Mx.cell 3 rfl; have qe := Mx.cell 4 rfl; have ql := Mx.lt; haveI : In w.heap.size w2 := ⟨ql⟩; clear Mx)))
  go_returns
  exact ⟨_, rfl, own_base acc2.out (by omega), hX0.out.trans X2.out⟩
set_option maxHeartbeats 8000000 in
set_option maxRecDepth 100000 in
theorem refBytes3_c (i f t : Int) (l : List Vl) (hn : ∀ x ∈ l, inI x.2.1) (v : Value) (w : World) (hl : Rw w [] v l) (hm : mchk 3 i f t l = 0) : Calls Tryd.prog 6 #[mg 3 i f t v] w fun e w' => ∃ v', e = .returned v' ∧ OwnB w' w.heap.size v' (([3] ++ numB f)) ∧ Ext w w' := by
  have hck := hide (fun w' (hX : Ext w w') => refCheck_c 3 i f t l v w' (Sl.ext hl hX))
  rw [hm] at hck
  obtain ⟨hi0, hf0, ht0, -⟩ := chk3 hm
  have hi := hide (show i ≤ 9223372036854775807 by omega)
  have hf := hide (show f ≤ 9223372036854775807 by omega)
  have ht := hide (show t ≤ 9223372036854775807 by omega)
  have hil := hide (numB_len hi.out)
  have hfl := hide (numB_len hf.out)
  have htl := hide (numB_len ht.out)
  clear hi0 hf0 ht0
  have hrl := hide (rowB_len hn)
  have hrb := hide (fun w' (hX : Ext w w') => refRowBytes_c l hn v w' (Sl.ext hl hX))
  have hX0 := hide ((Ext.refl w).alloc (mO 3 i f t v))
  obtain ⟨Av, capv, rfl, -, -, -⟩ := rw_form hl
  have M0 := hide (Ob.new w 26 [.int .i64 3, .int .i64 i, .int .i64 f, .int .i64 t, .slice Av l.length capv])
  clear hl hm hn
  go_enter Tryd.func6, Tryd.ntmps6
  go_wp2_with (first | (go_at_call 19; (with_reducible refine seq_gw (hck.out _ hX0.out) ?_); intro g; have hz0 := GW.size g; simp only [World.size_alloc] at hz0; have acc0 := hide (World.ownsRow_lit (base := w.heap.size + 1) (e := 5) (size := 1) g.val #[.int .u8 3] 1 hz0 (by decide) rfl); have X0 := hide (show Ext (w.alloc (mO 3 i f t (.slice Av l.length capv))) (g.val.alloc (.cells #[.int .u8 3] 5)) from g.grown.alloc _)) | (go_at_call 20; ((with_reducible refine (refNum_c f hf.out _).mono ?_); rintro ee u1 ⟨y1, rfl, z1, t1⟩; replace z1 := hide (own_by z1); replace t1 := hide t1; have tz := t1.out.size; have xz := X0.out.size; (try simp only [World.size_alloc] at xz tz))) | (at_builtin; (refine wpl_app tBytes rfl (.tmp 22) (.tmp 25) rfl rfl (own_ext acc0.out t1.out) rfl (src_sl Tryd.underlying27 z1.out (bs_one _) (by omega)) (by unfold maxLen; have := hil.out; have := hfl.out; have := htl.out; have := hrl.out; (try simp only [List.length_append, List.length_singleton, List.length_cons, List.length_nil]); omega) (by have := hil.out; have := hfl.out; have := htl.out; have := hrl.out; (try simp only [List.length_append, List.length_singleton, List.length_cons, List.length_nil]); omega) (by omega) ?_; intro v1 w1 ho1 hg1 _; have X1 := hide (ext_grown (X0.out.trans t1.out) hg1 (fun q hq => by have := (acc0.out.lt q hq).1; simpa using this)); have acc1 := hide (own_app (l := [3]) ho1); have Mx := M0.out.ext X1.out; have qa := Mx.cell 0 rfl; have qb := Mx.cell 1 rfl; have qc := Mx.cell 2 rfl; have qd := Mx.cell 3 rfl; have qe := Mx.cell 4 rfl; have ql := Mx.lt; haveI : In w.heap.size w1 := ⟨ql⟩; clear Mx)))
  go_returns
  exact ⟨_, rfl, own_base acc1.out (by omega), hX0.out.trans X1.out⟩
set_option maxHeartbeats 4000000 in
set_option maxRecDepth 100000 in
theorem refBytesBad_c (k i f t : Int) (l : List Vl) (v : Value) (w : World) (hl : Rw w [] v l) (hm : mchk k i f t l ≠ 0) : Calls Tryd.prog 6 #[mg k i f t v] w fun e w' => ∃ v', e = .returned v' ∧ OwnB w' w.heap.size v' [] ∧ Ext w w' := by
  have hck := hide (fun w' (hX : Ext w w') => refCheck_c k i f t l v w' (Sl.ext hl hX))
  have hX0 := hide ((Ext.refl w).alloc (mO k i f t v))
  generalize mchk k i f t l = E at *
  have hEb : (E != 0) = true := by simp [hm]
  obtain ⟨Av, capv, rfl, -, -, -⟩ := rw_form hl
  clear hl hm
  go_enter Tryd.func6, Tryd.ntmps6
  go_wp2_with (go_at_call 19; (with_reducible refine seq_gw (hck.out _ hX0.out) ?_); intro g)
  go_returns
  exact ⟨_, rfl, own_nil _ _, hX0.out.trans g.grown⟩
theorem msgBytes_c (k i f t : Int) (l : List Vl) (hn : ∀ x ∈ l, inI x.2.1) (v : Value) (w : World) (hl : Rw w [] v l) : Calls Tryd.prog 5 #[mg k i f t v] w fun e w' => ∃ v', e = .returned v' ∧ OwnB w' w.heap.size v' (mB k i f t l) ∧ Ext w w' := by
  by_cases h : mchk k i f t l = 0
  · have e : mB k i f t l = (if k = 1 then (([1] ++ numB i) ++ numB f ++ numB t) ++ rowB l else if k = 2 then ([2] ++ numB i) ++ numB t else [3] ++ numB f) := by unfold mB; rw [if_pos h]
    rw [e]
    rcases chkK h with rfl | rfl | rfl
    · exact bytes1_c i f t l hn v w hl h
    · exact bytes2_c i f t l v w hl h
    · exact bytes3_c i f t l v w hl h
  · rw [mB_bad h]; exact bytesBad_c k i f t l v w hl h
theorem refMsgBytes_c (k i f t : Int) (l : List Vl) (hn : ∀ x ∈ l, inI x.2.1) (v : Value) (w : World) (hl : Rw w [] v l) : Calls Tryd.prog 6 #[mg k i f t v] w fun e w' => ∃ v', e = .returned v' ∧ OwnB w' w.heap.size v' (mB k i f t l) ∧ Ext w w' := by
  by_cases h : mchk k i f t l = 0
  · have e : mB k i f t l = (if k = 1 then (([1] ++ numB i) ++ numB f ++ numB t) ++ rowB l else if k = 2 then ([2] ++ numB i) ++ numB t else [3] ++ numB f) := by unfold mB; rw [if_pos h]
    rw [e]
    rcases chkK h with rfl | rfl | rfl
    · exact refBytes1_c i f t l hn v w hl h
    · exact refBytes2_c i f t l hn v w hl h
    · exact refBytes3_c i f t l hn v w hl h
  · rw [mB_bad h]; exact refBytesBad_c k i f t l v w hl h
end Go.Proofs.YthidjngipkelcaaDoor
