/-
  A helper of ours: no claim of its own. Layer 8 (msg): the next message, by the code and by the document, as one function of what is left to read.
-/
import Derived.Test.YtpfcmlmljolplabDoorMsgQ
import Derived.Test.YtpfcmlmljolplabDoorMsgD
set_option linter.unusedVariables false
set_option linter.unusedSimpArgs false
namespace Go.Proofs.YtpfcmlmljolplabDoor
open Go.RowKit
theorem rsE_zero : ∀ (n : Nat) (l : List UInt8), rsE n l = 0 → (rsS n l).2 = 0
  | 0, l, _ => rfl
  | n + 1, l, h => by
    simp only [rsE, rsS] at h ⊢
    by_cases h0 : rdE l = 0
    · rw [if_pos h0] at h ⊢; exact rsE_zero n _ h
    · rw [if_neg h0] at h; exact absurd h h0
theorem rwE_zero (l : List UInt8) : rwE l = 0 → (rwS l).2 = 0 := by
  rcases l with _ | ⟨c, r⟩
  · intro h; cases h
  · simp only [rwE, rwS]
    split
    · intro h; cases h
    · exact rsE_zero _ _
/-- The next message, as a value. -/
abbrev mrT (l : List UInt8) (v : Value) : Value := mg (mrM l).1 (mrM l).2.1 (mrM l).2.2.1 (mrM l).2.2.2 v
theorem mr_bad {c : UInt8} {r : List UInt8} {x : Int} (h : mrE (c :: r) = x) (hx : x ≠ 0) : mrM (c :: r) = (0, 0, 0, 0) ∧ mrV (c :: r) = [] := by
  have h0 : mrE (c :: r) ≠ 0 := by rw [h]; exact hx
  exact ⟨by simp only [mrM]; rw [if_neg h0], by simp only [mrV]; rw [if_neg h0]⟩
theorem mr_ins {c : UInt8} {r : List UInt8} (hc : c.toNat = 1) : mrE (c :: r) = insE r ∧ mrS (c :: r) = (rwS (st3 r).1).1 ∧ (mrE (c :: r) = 0 → mrM (c :: r) = (1, (va1 r : Int), (va2 r : Int), (va3 r : Int)) ∧ mrV (c :: r) = rwV (st3 r).1) :=
  ⟨by simp only [mrE]; rw [if_pos hc], by simp only [mrS]; rw [if_pos hc], fun h => ⟨by simp only [mrM]; rw [if_pos h, if_pos hc], by simp only [mrV]; rw [if_pos h, if_pos hc]⟩⟩
theorem mr_ret {c : UInt8} {r : List UInt8} (hc : c.toNat = 2) : mrE (c :: r) = retE r ∧ mrS (c :: r) = (st2 r).1 ∧ (mrE (c :: r) = 0 → mrM (c :: r) = (2, (va1 r : Int), 0, (va2 r : Int)) ∧ mrV (c :: r) = []) := by
  have h1 : ¬ c.toNat = 1 := by omega
  exact ⟨by simp only [mrE]; rw [if_neg h1, if_pos hc], by simp only [mrS]; rw [if_neg h1, if_pos hc], fun h => ⟨by simp only [mrM]; rw [if_pos h, if_neg h1, if_pos hc], by simp only [mrV]; rw [if_pos h, if_neg h1]⟩⟩
theorem mr_cti {c : UInt8} {r : List UInt8} (hc : c.toNat = 3) : mrE (c :: r) = ctiE r ∧ mrS (c :: r) = (st1 r).1 ∧ (mrE (c :: r) = 0 → mrM (c :: r) = (3, 0, (va1 r : Int), 0) ∧ mrV (c :: r) = []) := by
  have h1 : ¬ c.toNat = 1 := by omega
  have h2 : ¬ c.toNat = 2 := by omega
  exact ⟨by simp only [mrE]; rw [if_neg h1, if_neg h2, if_pos hc], by simp only [mrS]; rw [if_neg h1, if_neg h2], fun h => ⟨by simp only [mrM]; rw [if_pos h, if_neg h1, if_neg h2], by simp only [mrV]; rw [if_pos h, if_neg h1]⟩⟩
theorem mr_none {c : UInt8} {r : List UInt8} (n1 : c.toNat ≠ 1) (n2 : c.toNat ≠ 2) (n3 : c.toNat ≠ 3) : mrE (c :: r) = 4 := by
  simp only [mrE]; rw [if_neg n1, if_neg n2, if_neg n3]
/-- What is read is one. -/
theorem mr_chk (l : List UInt8) (h : mrE l = 0) : mchk (mrM l).1 (mrM l).2.1 (mrM l).2.2.1 (mrM l).2.2.2 (mrV l) = 0 := by
  rcases l with _ | ⟨c, r⟩
  · cases h
  by_cases h1 : c.toNat = 1
  · obtain ⟨a, -, b⟩ := mr_ins (r := r) h1
    obtain ⟨b1, b2⟩ := b h
    rw [b1, b2]
    rw [a] at h
    unfold insE at h
    by_cases x : (st3 r).2 = 0
    · rw [if_pos x] at h
      by_cases y : rwE (st3 r).1 = 0
      · rw [if_pos y] at h; exact h
      · rw [if_neg y] at h; exact absurd h y
    · rw [if_neg x] at h; exact absurd h x
  by_cases h2 : c.toNat = 2
  · obtain ⟨a, -, b⟩ := mr_ret (r := r) h2
    obtain ⟨b1, b2⟩ := b h
    rw [b1, b2]
    rw [a] at h
    unfold retE at h
    by_cases x : (st2 r).2 = 0
    · rw [if_pos x] at h; exact h
    · rw [if_neg x] at h; exact absurd h x
  by_cases h3 : c.toNat = 3
  · obtain ⟨a, -, b⟩ := mr_cti (r := r) h3
    obtain ⟨b1, b2⟩ := b h
    rw [b1, b2]
    rw [a] at h
    unfold ctiE at h
    by_cases x : (st1 r).2 = 0
    · rw [if_pos x] at h; exact h
    · rw [if_neg x] at h; exact absurd h x
  · rw [mr_none h1 h2 h3] at h; cases h
theorem mread_c (S : List Nat) (b : Nat) (l : List UInt8) (w : World) (h : Rdr w S b (l, 0)) : Calls Tryd.prog 22 #[.pointer (some ⟨b, 0, none⟩)] w fun z w' => ∃ v' st, z = .returned (.tuple #[mrT l v', .int .i64 (mrE l)]) ∧ OwnR w' w.heap.size v' (mrV l) ∧ Rdr w' S b st ∧ (mrE l = 0 → st = (mrS l, 0)) ∧ Fr [b] w w' := by
  rcases l with _ | ⟨c, r⟩
  · exact (mread_nil S b w h).mono (by rintro z w' ⟨q1, q2, q3⟩; exact ⟨_, _, q1, World.ownsRow_nil _ _ _ _, q2, (fun hz => by cases hz), q3⟩)
  by_cases hc : c.toNat = 1
  · have hci : (c.toNat : Int) = 1 := by omega
    by_cases x : (st3 r).2 = 0
    · have hf : Hid (FieldsW b r c.toNat 1 (va1 r) (va2 r) (va3 r) (rwV (st3 r).1) (rwE (st3 r).1) (rwS (st3 r).1)) := hide (by rw [hci]; exact fun S' w' h' => fields_ins S' b r (va1 r) (st1 r).1 (st1 r).2 (hide rfl) (hide rfl) (va2 r) (st2 r).1 (st2 r).2 (hide rfl) (hide rfl) (va3 r) (st3 r).1 (st3 r).2 (hide rfl) (hide rfl) _ _ _ (hide (fun S' w' h' => rowRead_c S' b _ w' (by rw [x] at h'; exact h'))) w' h')
      by_cases y : rwE (st3 r).1 = 0
      · by_cases u : mchk 1 (va1 r) (va2 r) (va3 r) (rwV (st3 r).1) = 0
        · have e : mrE (c :: r) = 0 := by rw [(mr_ins (r := r) hc).1]; unfold insE; rw [if_pos x, if_pos y]; exact u
          obtain ⟨-, e3, e2⟩ := mr_ins (r := r) hc
          obtain ⟨e1, e2⟩ := e2 e
          unfold mrT
          rw [e1, e2, e, e3]
          exact (mread_ok S b c r _ _ _ _ _ _ _ hf (hide u) y w h).mono (by rintro z w' ⟨v', q1, q2, q3, q4⟩; exact ⟨v', _, q1, q2, q3, fun _ => Prod.ext rfl (rwE_zero _ y), q4⟩)
        · have e : mrE (c :: r) = mchk 1 (va1 r) (va2 r) (va3 r) (rwV (st3 r).1) := by rw [(mr_ins (r := r) hc).1]; unfold insE; rw [if_pos x, if_pos y]
          obtain ⟨e1, e2⟩ := mr_bad e u
          unfold mrT
          rw [e1, e2, e]
          exact (mread_chk S b c r _ _ _ _ _ _ _ hf _ (hide rfl) u y w h).mono (by rintro z w' ⟨v', q1, q2, q3, q4⟩; exact ⟨v', _, q1, q2, q3, fun hz => absurd hz u, q4⟩)
      · have e : mrE (c :: r) = rwE (st3 r).1 := by rw [(mr_ins (r := r) hc).1]; unfold insE; rw [if_pos x, if_neg y]
        obtain ⟨e1, e2⟩ := mr_bad e y
        unfold mrT
        rw [e1, e2, e]
        exact (mread_err S b c r _ _ _ _ _ _ _ hf y w h).mono (by rintro z w' ⟨v', q1, q2, q3, q4⟩; exact ⟨v', _, q1, q2, q3, fun hz => absurd hz y, q4⟩)
    · have hf : Hid (FieldsW b r c.toNat 1 (va1 r) (va2 r) (va3 r) ([]) ((st3 r).2) (((st3 r).1, (st3 r).2))) := hide (by rw [hci]; exact fun S' w' h' => fields_ins S' b r (va1 r) (st1 r).1 (st1 r).2 (hide rfl) (hide rfl) (va2 r) (st2 r).1 (st2 r).2 (hide rfl) (hide rfl) (va3 r) (st3 r).1 (st3 r).2 (hide rfl) (hide rfl) _ _ _ (hide (fun S' w' h' => rowRead_bad S' b _ _ x w' h')) w' h')
      have e : mrE (c :: r) = (st3 r).2 := by rw [(mr_ins (r := r) hc).1]; unfold insE; rw [if_neg x]
      obtain ⟨e1, e2⟩ := mr_bad e x
      unfold mrT
      rw [e1, e2, e]
      exact (mread_err S b c r _ _ _ _ _ _ _ hf x w h).mono (by rintro z w' ⟨v', q1, q2, q3, q4⟩; exact ⟨v', _, q1, q2, q3, fun hz => absurd hz x, q4⟩)
  have n1 := hc
  clear hc
  by_cases hc : c.toNat = 2
  · have hci : (c.toNat : Int) = 2 := by omega
    have hf : Hid (FieldsW b r c.toNat 2 (va1 r) 0 (va2 r) [] ((st2 r).2) (((st2 r).1, (st2 r).2))) := hide (by rw [hci]; exact fun S' w' h' => (fields_ret S' b r (va1 r) (st1 r).1 (st1 r).2 (hide rfl) (hide rfl) (va2 r) (st2 r).1 (st2 r).2 (hide rfl) (hide rfl) w' h').mono (by rintro z w'' ⟨q1, q2, q3⟩; exact ⟨_, q1, World.ownsRow_nil _ _ _ _, q2, q3⟩))
    by_cases x : (st2 r).2 = 0
    · by_cases u : mchk 2 (va1 r) 0 (va2 r) [] = 0
      · have e : mrE (c :: r) = 0 := by rw [(mr_ret (r := r) hc).1]; unfold retE; rw [if_pos x]; exact u
        obtain ⟨-, e3, e2⟩ := mr_ret (r := r) hc
        obtain ⟨e1, e2⟩ := e2 e
        unfold mrT
        rw [e1, e2, e, e3]
        exact (mread_ok S b c r _ _ _ _ _ _ _ hf (hide u) x w h).mono (by rintro z w' ⟨v', q1, q2, q3, q4⟩; exact ⟨v', _, q1, q2, q3, fun _ => Prod.ext rfl x, q4⟩)
      · have e : mrE (c :: r) = mchk 2 (va1 r) 0 (va2 r) [] := by rw [(mr_ret (r := r) hc).1]; unfold retE; rw [if_pos x]
        obtain ⟨e1, e2⟩ := mr_bad e u
        unfold mrT
        rw [e1, e2, e]
        exact (mread_chk S b c r _ _ _ _ _ _ _ hf _ (hide rfl) u x w h).mono (by rintro z w' ⟨v', q1, q2, q3, q4⟩; exact ⟨v', _, q1, q2, q3, fun hz => absurd hz u, q4⟩)
    · have e : mrE (c :: r) = (st2 r).2 := by rw [(mr_ret (r := r) hc).1]; unfold retE; rw [if_neg x]
      obtain ⟨e1, e2⟩ := mr_bad e x
      unfold mrT
      rw [e1, e2, e]
      exact (mread_err S b c r _ _ _ _ _ _ _ hf x w h).mono (by rintro z w' ⟨v', q1, q2, q3, q4⟩; exact ⟨v', _, q1, q2, q3, fun hz => absurd hz x, q4⟩)
  have n2 := hc
  clear hc
  by_cases hc : c.toNat = 3
  · have hci : (c.toNat : Int) = 3 := by omega
    have hf : Hid (FieldsW b r c.toNat 3 0 (va1 r) 0 [] ((st1 r).2) (((st1 r).1, (st1 r).2))) := hide (by rw [hci]; exact fun S' w' h' => (fields_cti S' b r (va1 r) (st1 r).1 (st1 r).2 (hide rfl) (hide rfl) w' h').mono (by rintro z w'' ⟨q1, q2, q3⟩; exact ⟨_, q1, World.ownsRow_nil _ _ _ _, q2, q3⟩))
    by_cases x : (st1 r).2 = 0
    · by_cases u : mchk 3 0 (va1 r) 0 [] = 0
      · have e : mrE (c :: r) = 0 := by rw [(mr_cti (r := r) hc).1]; unfold ctiE; rw [if_pos x]; exact u
        obtain ⟨-, e3, e2⟩ := mr_cti (r := r) hc
        obtain ⟨e1, e2⟩ := e2 e
        unfold mrT
        rw [e1, e2, e, e3]
        exact (mread_ok S b c r _ _ _ _ _ _ _ hf (hide u) x w h).mono (by rintro z w' ⟨v', q1, q2, q3, q4⟩; exact ⟨v', _, q1, q2, q3, fun _ => Prod.ext rfl x, q4⟩)
      · have e : mrE (c :: r) = mchk 3 0 (va1 r) 0 [] := by rw [(mr_cti (r := r) hc).1]; unfold ctiE; rw [if_pos x]
        obtain ⟨e1, e2⟩ := mr_bad e u
        unfold mrT
        rw [e1, e2, e]
        exact (mread_chk S b c r _ _ _ _ _ _ _ hf _ (hide rfl) u x w h).mono (by rintro z w' ⟨v', q1, q2, q3, q4⟩; exact ⟨v', _, q1, q2, q3, fun hz => absurd hz u, q4⟩)
    · have e : mrE (c :: r) = (st1 r).2 := by rw [(mr_cti (r := r) hc).1]; unfold ctiE; rw [if_neg x]
      obtain ⟨e1, e2⟩ := mr_bad e x
      unfold mrT
      rw [e1, e2, e]
      exact (mread_err S b c r _ _ _ _ _ _ _ hf x w h).mono (by rintro z w' ⟨v', q1, q2, q3, q4⟩; exact ⟨v', _, q1, q2, q3, fun hz => absurd hz x, q4⟩)
  have hf : Hid (FieldsW b r c.toNat c.toNat 0 0 0 [] 4 (r, 0)) := hide (fun S' w' h' => (fields_none S' b r c.toNat (by omega) (by omega) (by omega) w' h').mono (by rintro z w'' ⟨q1, q2, q3⟩; exact ⟨_, q1, World.ownsRow_nil _ _ _ _, q2, q3⟩))
  have e : mrE (c :: r) = 4 := by exact mr_none n1 n2 hc
  obtain ⟨e1, e2⟩ := mr_bad e (by decide : (4 : Int) ≠ 0)
  unfold mrT
  rw [e1, e2, e]
  exact (mread_err S b c r _ _ _ _ _ _ _ hf (by decide) w h).mono (by rintro z w' ⟨v', q1, q2, q3, q4⟩; exact ⟨v', _, q1, q2, q3, fun hz => absurd hz (by decide : (4 : Int) ≠ 0), q4⟩)
theorem dread_c (S : List Nat) (b : Nat) (l : List UInt8) (w : World) (h : Qdr w S b (l, 0)) : Calls Tryd.prog 24 #[.pointer (some ⟨b, 0, none⟩)] w fun z w' => ∃ v' st, z = .returned (.tuple #[mrT l v', .int .i64 (mrE l)]) ∧ OwnR w' w.heap.size v' (mrV l) ∧ Qdr w' S b st ∧ (mrE l = 0 → st = (mrS l, 0)) ∧ Fr [b] w w' := by
  rcases l with _ | ⟨c, r⟩
  · exact (dread_nil S b w h).mono (by rintro z w' ⟨q1, q2, q3⟩; exact ⟨_, _, q1, World.ownsRow_nil _ _ _ _, q2, (fun hz => by cases hz), q3⟩)
  by_cases hc : c.toNat = 1
  · by_cases x : (st3 r).2 = 0
    · by_cases y : rwE (st3 r).1 = 0
      · by_cases u : mchk 1 (va1 r) (va2 r) (va3 r) (rwV (st3 r).1) = 0
        · have e : mrE (c :: r) = 0 := by rw [(mr_ins (r := r) hc).1]; unfold insE; rw [if_pos x, if_pos y]; exact u
          obtain ⟨-, e3, e2⟩ := mr_ins (r := r) hc
          obtain ⟨e1, e2⟩ := e2 e
          unfold mrT
          rw [e1, e2, e, e3]
          exact (dins_ok S b c r hc (va1 r) (st1 r).1 (st1 r).2 (hide rfl) (hide rfl) (va2 r) (st2 r).1 (st2 r).2 (hide rfl) (hide rfl) (va3 r) (st3 r).1 (st3 r).2 (hide rfl) (hide rfl) _ _ _ (hide rfl) (hide rfl) (hide rfl) (hide u) x y w h).mono (by rintro z w' ⟨v', q1, q2, q3, q4⟩; exact ⟨v', _, q1, q2, q3, fun _ => Prod.ext rfl (rwE_zero _ y), q4⟩)
        · have e : mrE (c :: r) = mchk 1 (va1 r) (va2 r) (va3 r) (rwV (st3 r).1) := by rw [(mr_ins (r := r) hc).1]; unfold insE; rw [if_pos x, if_pos y]
          obtain ⟨e1, e2⟩ := mr_bad e u
          unfold mrT
          rw [e1, e2, e]
          exact (dins_chk S b c r hc (va1 r) (st1 r).1 (st1 r).2 (hide rfl) (hide rfl) (va2 r) (st2 r).1 (st2 r).2 (hide rfl) (hide rfl) (va3 r) (st3 r).1 (st3 r).2 (hide rfl) (hide rfl) _ _ _ (hide rfl) (hide rfl) (hide rfl) _ (hide rfl) x u y w h).mono (by rintro z w' ⟨q1, q3, q4⟩; exact ⟨_, _, q1, World.ownsRow_nil _ _ _ _, q3, fun hz => absurd hz u, q4⟩)
      · have e : mrE (c :: r) = rwE (st3 r).1 := by rw [(mr_ins (r := r) hc).1]; unfold insE; rw [if_pos x, if_neg y]
        obtain ⟨e1, e2⟩ := mr_bad e y
        unfold mrT
        rw [e1, e2, e]
        exact (dins_row S b c r hc (va1 r) (st1 r).1 (st1 r).2 (hide rfl) (hide rfl) (va2 r) (st2 r).1 (st2 r).2 (hide rfl) (hide rfl) (va3 r) (st3 r).1 (st3 r).2 (hide rfl) (hide rfl) _ _ _ (hide rfl) (hide rfl) (hide rfl) x y w h).mono (by rintro z w' ⟨q1, q3, q4⟩; exact ⟨_, _, q1, World.ownsRow_nil _ _ _ _, q3, fun hz => absurd hz y, q4⟩)
    · have e : mrE (c :: r) = (st3 r).2 := by rw [(mr_ins (r := r) hc).1]; unfold insE; rw [if_neg x]
      obtain ⟨e1, e2⟩ := mr_bad e x
      unfold mrT
      rw [e1, e2, e]
      exact (dins_err S b c r hc (va1 r) (st1 r).1 (st1 r).2 (hide rfl) (hide rfl) (va2 r) (st2 r).1 (st2 r).2 (hide rfl) (hide rfl) (va3 r) (st3 r).1 (st3 r).2 (hide rfl) (hide rfl) x w h).mono (by rintro z w' ⟨q1, q3, q4⟩; exact ⟨_, _, q1, World.ownsRow_nil _ _ _ _, q3, fun hz => absurd hz x, q4⟩)
  have n1 := hc
  clear hc
  by_cases hc : c.toNat = 2
  · by_cases x : (st2 r).2 = 0
    · by_cases u : mchk 2 (va1 r) 0 (va2 r) [] = 0
      · have e : mrE (c :: r) = 0 := by rw [(mr_ret (r := r) hc).1]; unfold retE; rw [if_pos x]; exact u
        obtain ⟨-, e3, e2⟩ := mr_ret (r := r) hc
        obtain ⟨e1, e2⟩ := e2 e
        unfold mrT
        rw [e1, e2, e, e3]
        exact (dret_ok S b c r hc (va1 r) (st1 r).1 (st1 r).2 (hide rfl) (hide rfl) (va2 r) (st2 r).1 (st2 r).2 (hide rfl) (hide rfl) (hide u) x w h).mono (by rintro z w' ⟨q1, q3, q4⟩; exact ⟨_, _, q1, World.ownsRow_nil _ _ _ _, q3, fun _ => rfl, q4⟩)
      · have e : mrE (c :: r) = mchk 2 (va1 r) 0 (va2 r) [] := by rw [(mr_ret (r := r) hc).1]; unfold retE; rw [if_pos x]
        obtain ⟨e1, e2⟩ := mr_bad e u
        unfold mrT
        rw [e1, e2, e]
        exact (dret_chk S b c r hc (va1 r) (st1 r).1 (st1 r).2 (hide rfl) (hide rfl) (va2 r) (st2 r).1 (st2 r).2 (hide rfl) (hide rfl) _ (hide rfl) x u w h).mono (by rintro z w' ⟨q1, q3, q4⟩; exact ⟨_, _, q1, World.ownsRow_nil _ _ _ _, q3, fun hz => absurd hz u, q4⟩)
    · have e : mrE (c :: r) = (st2 r).2 := by rw [(mr_ret (r := r) hc).1]; unfold retE; rw [if_neg x]
      obtain ⟨e1, e2⟩ := mr_bad e x
      unfold mrT
      rw [e1, e2, e]
      exact (dret_err S b c r hc (va1 r) (st1 r).1 (st1 r).2 (hide rfl) (hide rfl) (va2 r) (st2 r).1 (st2 r).2 (hide rfl) (hide rfl) x w h).mono (by rintro z w' ⟨q1, q3, q4⟩; exact ⟨_, _, q1, World.ownsRow_nil _ _ _ _, q3, fun hz => absurd hz x, q4⟩)
  have n2 := hc
  clear hc
  by_cases hc : c.toNat = 3
  · by_cases x : (st1 r).2 = 0
    · by_cases u : mchk 3 0 (va1 r) 0 [] = 0
      · have e : mrE (c :: r) = 0 := by rw [(mr_cti (r := r) hc).1]; unfold ctiE; rw [if_pos x]; exact u
        obtain ⟨-, e3, e2⟩ := mr_cti (r := r) hc
        obtain ⟨e1, e2⟩ := e2 e
        unfold mrT
        rw [e1, e2, e, e3]
        exact (dcti_ok S b c r hc (va1 r) (st1 r).1 (st1 r).2 (hide rfl) (hide rfl) (hide u) x w h).mono (by rintro z w' ⟨q1, q3, q4⟩; exact ⟨_, _, q1, World.ownsRow_nil _ _ _ _, q3, fun _ => rfl, q4⟩)
      · have e : mrE (c :: r) = mchk 3 0 (va1 r) 0 [] := by rw [(mr_cti (r := r) hc).1]; unfold ctiE; rw [if_pos x]
        obtain ⟨e1, e2⟩ := mr_bad e u
        unfold mrT
        rw [e1, e2, e]
        exact (dcti_chk S b c r hc (va1 r) (st1 r).1 (st1 r).2 (hide rfl) (hide rfl) _ (hide rfl) x u w h).mono (by rintro z w' ⟨q1, q3, q4⟩; exact ⟨_, _, q1, World.ownsRow_nil _ _ _ _, q3, fun hz => absurd hz u, q4⟩)
    · have e : mrE (c :: r) = (st1 r).2 := by rw [(mr_cti (r := r) hc).1]; unfold ctiE; rw [if_neg x]
      obtain ⟨e1, e2⟩ := mr_bad e x
      unfold mrT
      rw [e1, e2, e]
      exact (dcti_err S b c r hc (va1 r) (st1 r).1 (st1 r).2 (hide rfl) (hide rfl) x w h).mono (by rintro z w' ⟨q1, q3, q4⟩; exact ⟨_, _, q1, World.ownsRow_nil _ _ _ _, q3, fun hz => absurd hz x, q4⟩)
  have e : mrE (c :: r) = 4 := by exact mr_none n1 n2 hc
  obtain ⟨e1, e2⟩ := mr_bad e (by decide : (4 : Int) ≠ 0)
  unfold mrT
  rw [e1, e2, e]
  exact (dread_none S b c r n1 n2 hc w h).mono (by rintro z w' ⟨q1, q3, q4⟩; exact ⟨_, _, q1, World.ownsRow_nil _ _ _ _, q3, fun hz => absurd hz (by decide : (4 : Int) ≠ 0), q4⟩)
end Go.Proofs.YtpfcmlmljolplabDoor
