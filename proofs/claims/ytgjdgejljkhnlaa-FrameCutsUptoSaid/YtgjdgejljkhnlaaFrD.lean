/-
  A helper of ours: no claim of its own. Layer 4 (frame): the cutter's state as the bytes that wait.
-/
import Derived.Test.YtgjdgejljkhnlaaFrC
set_option linter.unusedVariables false
set_option linter.unusedSimpArgs false
namespace Go.Proofs.Ytgjdgejljkhnlaa
open Go.RowKit
attribute [local go_sem] GW.cell GW.frozen In.eq_true In.le_true In.ne In.ne' In.ne_add In.ne_add' In.lt_add Upto.le_true Upto.le_add Upto.lt_add
/-- The length that a head names. -/
def flen (x y : UInt8) : Nat := x.toNat * 256 + y.toNat
/-- What the body holds of the bytes behind the head. -/
def held (x y : UInt8) (r : List UInt8) : List UInt8 := if flen x y ≤ 4096 then r else []
/-- The cutter in block b has the bytes p of a frame that has not ended. -/
def St (w : World) (B b : Nat) : List UInt8 → Prop
  | [] => ∃ h0 h1, Cu w b 0 h0 h1 (.slice none 0 0) ∧ (0 ≤ h0 ∧ h0 ≤ 255) ∧ (0 ≤ h1 ∧ h1 ≤ 255)
  | [x] => ∃ h1, Cu w b 1 x.toNat h1 (.slice none 0 0) ∧ (0 ≤ h1 ∧ h1 ≤ 255)
  | x :: y :: r => r.length ≤ flen x y ∧ ∃ body, Cu w b ((2 : Int) + r.length) x.toNat y.toNat body ∧ OwnB w B body (held x y r)
/-- How many bytes are missing of the head, or of the frame. -/
def miss : List UInt8 → Nat
  | [] => 2
  | [_] => 1
  | x :: y :: r => flen x y - r.length
theorem byte_le (x : UInt8) : (0 : Int) ≤ x.toNat ∧ (x.toNat : Int) ≤ 255 := by have := x.toNat_lt; omega
theorem st_ext {w w' : World} {B b : Nat} {p : List UInt8} (h : St w B b p) (k : Ext w w') : St w' B b p := by
  match p, h with
  | [], ⟨h0, h1, h, b0, b1⟩ => exact ⟨h0, h1, h.ext k, b0, b1⟩
  | [x], ⟨h1, h, b1⟩ => exact ⟨h1, h.ext k, b1⟩
  | x :: y :: r, ⟨hr, body, h, ho⟩ => exact ⟨hr, body, h.ext k, own_ext ho k⟩
theorem st_missing {w : World} {B b : Nat} {p : List UInt8} (h : St w B b p) : Calls Try.prog 15 #[.pointer (some ⟨b, 0, none⟩)] w fun e w' => e = .returned (.int .i64 (miss p)) ∧ Ext w w' := by
  match p, h with
  | [], ⟨h0, h1, h, b0, b1⟩ => exact missing_lt w b 0 h0 h1 _ h (by omega)
  | [x], ⟨h1, h, b1⟩ => exact missing_lt w b 1 _ h1 _ h (by omega)
  | x :: y :: r, ⟨hr, body, h, ho⟩ =>
    have hf : (flen x y : Int) = (x.toNat : Int) * 256 + y.toNat := by unfold flen; omega
    have := missing_ge w b ((2 : Int) + r.length) x.toNat y.toNat body h (byte_le x) (byte_le y) (by omega)
    rwa [show (2 : Int) + ((x.toNat : Int) * 256 + y.toNat) - (2 + r.length) = (miss (x :: y :: r) : Int) by show _ = ((flen x y - r.length : Nat) : Int); omega] at this
theorem st_held {w : World} {B b : Nat} {p : List UInt8} (h : St w B b p) : Calls Try.prog 14 #[.pointer (some ⟨b, 0, none⟩)] w fun e w' => e = .returned (.int .i64 p.length) ∧ w' = w := by
  match p, h with
  | [], ⟨h0, h1, h, b0, b1⟩ => exact held_c w b 0 h0 h1 _ h
  | [x], ⟨h1, h, b1⟩ => exact held_c w b 1 _ h1 _ h
  | x :: y :: r, ⟨hr, body, h, ho⟩ =>
    have := held_c w b _ _ _ _ h
    rwa [show (2 : Int) + r.length = ((x :: y :: r).length : Int) by simp; omega] at this
theorem own_fr {w w' : World} {B e size n b : Nat} {v : Value} {xs : List Value} (h : w.ownsRow B e size v n xs) (k : Fr [b] w w') (hne : v.ownBlock ≠ some b) : w'.ownsRow B e size v n xs :=
  h.kept (World.grownBy.mk (row := some b) k.os k.tape k.output k.size fun i hi hn => k.block i hi (by simp; intro e; exact hn (by rw [e]))) (.inr hne)
theorem held_nil (x y : UInt8) : held x y [] = [] := by unfold held; split <;> rfl
theorem st_take {w : World} {B b : Nat} {p : List UInt8} (h : St w B b p) {v : Value} {S : List Nat} {l : List UInt8} (hv : By w S v l) (hl : l ≠ []) (hm : l.length ≤ miss p) (hB : B ≤ w.heap.size) :
    Calls Try.prog 16 #[.pointer (some ⟨b, 0, none⟩), v] w fun e w' => e = .returned (.tuple #[]) ∧ St w' B b (p ++ l) ∧ ∃ T : List Nat, (∀ t, t ∈ T → B ≤ t) ∧ Fr (b :: T) w w' := by
  match p, h with
  | [], ⟨h0, h1, h, b0, b1⟩ =>
    match l, hv, hl, hm with
    | [x], hv, _, _ => exact (take_h1 w b h0 h1 _ _ _ h v S x hv).mono fun e w' ⟨he, hc, hF⟩ => ⟨he, ⟨h1, hc, b1⟩, [], by simp, hF⟩
    | [x, y], hv, _, _ => exact (take_h2 w b h0 h1 _ _ _ h v S x y hv).mono fun e w' ⟨he, hc, hF⟩ => ⟨he, ⟨Nat.zero_le _, _, hc, by rw [held_nil]; exact World.ownsRow_nil _ _ _ _⟩, [], by simp, hF⟩
    | _ :: _ :: _ :: _, _, _, hm => simp [miss] at hm
  | [x], ⟨h1, h, b1⟩ =>
    match l, hv, hl, hm with
    | [y], hv, _, _ => exact (take_h3 w b _ h1 _ _ _ h v S y hv).mono fun e w' ⟨he, hc, hF⟩ => ⟨he, ⟨Nat.zero_le _, _, hc, by rw [held_nil]; exact World.ownsRow_nil _ _ _ _⟩, [], by simp, hF⟩
    | _ :: _ :: _, _, _, hm => simp [miss] at hm
  | x :: y :: r, ⟨hr, body, h, ho⟩ =>
    have hf : (flen x y : Int) = (x.toNat : Int) * 256 + y.toNat := by unfold flen; omega
    have bx := byte_le x
    have by' := byte_le y
    replace hm : l.length ≤ flen x y - r.length := hm
    have hrl : (r ++ l).length ≤ flen x y := by rw [List.length_append]; omega
    have e2 : (2 : Int) + r.length + l.length = (2 : Int) + (r ++ l).length := by rw [List.length_append]; omega
    by_cases hn : flen x y ≤ 4096
    · have e1 : held x y r = r := by unfold held; rw [if_pos hn]
      have e3 : held x y (r ++ l) = r ++ l := by unfold held; rw [if_pos hn]
      rw [e1] at ho
      refine (take_more w b B _ _ _ body r h ho hB bx by' (by omega) (by omega) v S l (by omega) (by omega) hv).mono fun e w' ⟨he, ⟨body', hc, ho', _⟩, hF⟩ => ⟨he, ⟨hrl, body', ?_, ?_⟩, body.ownBlock.toList, fun t ht => ?_, hF⟩
      · rw [e2] at hc; exact hc
      · rw [← e3] at ho'; exact ho'
      · exact (ho.lt t (by simpa using ht)).1
    · have e1 : held x y r = [] := by unfold held; rw [if_neg hn]
      have e3 : held x y (r ++ l) = [] := by unfold held; rw [if_neg hn]
      rw [e1] at ho
      have hnob : body.ownBlock ≠ some b := h.not_own ho (by decide)
      obtain ⟨A, c, rfl⟩ := own_form ho
      refine (take_skip w b _ _ _ _ _ _ h bx by' (by omega) (by omega) v S l (by omega) hv).mono fun e w' ⟨he, hc, hF⟩ => ⟨he, ⟨hrl, .slice A 0 c, ?_, ?_⟩, [], by simp, hF⟩
      · rw [e2] at hc; exact hc
      · have ho' : OwnB w' B (.slice A 0 c) [] := own_fr ho hF hnob
        have e4 : ∀ q : List UInt8, q = [] → OwnB w' B (.slice A 0 c) q := fun q e => by rw [e]; exact ho'
        exact e4 _ e3
/-- What a frame's error is. -/
def ferr (x y : UInt8) : Int := if 4096 < flen x y then 6 else 0
theorem st_cut {w : World} {B b : Nat} {x y : UInt8} {r : List UInt8} (h : St w B b (x :: y :: r)) :
    Calls Try.prog 17 #[.pointer (some ⟨b, 0, none⟩)] w fun e w' => ∃ body, e = .returned (.agg #[body, .int .i64 (ferr x y)]) ∧ OwnB w' B body (held x y r) ∧ body.ownBlock ≠ some b ∧ St w' B b [] ∧ Fr [b] w w' := by
  obtain ⟨hr, body, h, ho⟩ := h
  have hnob : body.ownBlock ≠ some b := h.not_own ho (by decide)
  have hf : (flen x y : Int) = (x.toNat : Int) * 256 + y.toNat := by unfold flen; omega
  have e1 : (if (4096 : Int) < (x.toNat : Int) * 256 + y.toNat then (6 : Int) else 0) = ferr x y := by
    unfold ferr
    by_cases h : 4096 < flen x y
    · rw [if_pos h, if_pos (by omega)]
    · rw [if_neg h, if_neg (by omega)]
  obtain ⟨A, c, eb⟩ := own_form ho
  rw [eb] at h
  refine (cut_c w b _ _ _ A _ c h (byte_le x) (byte_le y)).mono fun e w' ⟨he, hc, hF⟩ => ⟨body, ?_, own_fr ho hF hnob, hnob, ⟨0, 0, hc, by omega, by omega⟩, hF⟩
  rw [he, e1, eb]
set_option maxHeartbeats 1000000 in
theorem new_c (w : World) (B : Nat) : Calls Try.prog 10 #[] w fun e w' => ∃ b, e = .returned (.pointer (some ⟨b, 0, none⟩)) ∧ w.heap.size ≤ b ∧ St w' B b [] ∧ Ext w w' := by
  go_enter Try.func10, Try.ntmps10
  go_wp2_with fail
  go_returns
  exact ⟨w.heap.size, rfl, Nat.le_refl _, ⟨0, 0, Ob.new w 46 [.int .i64 0, .int .u8 0, .int .u8 0, .slice none 0 0], by omega, by omega⟩, (Ext.refl w).alloc _⟩
end Go.Proofs.Ytgjdgejljkhnlaa
