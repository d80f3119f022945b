/-
  A helper of ours: no claim of its own. Layer 5 (value): every value written, on both sides; what is written is read, and only what is written so.
-/
import Derived.Test.YthidjngipkelcaaDoorNumR
import Derived.Test.YthidjngipkelcaaDoorMem
import Derived.Lib.ItoaLen
import Derived.Lib.ItoaMem
import Derived.Test.YthidjngipkelcaaDoorValD
import Derived.Lib.Bytealg
import Derived.Test.YthidjngipkelcaaDoorValG
import Derived.Test.YthidjngipkelcaaDoorShelf
import Derived.Test.YthidjngipkelcaaDoorValC
set_option linter.unusedVariables false
set_option linter.unusedSimpArgs false
namespace Go.Proofs.YthidjngipkelcaaDoor
open Go.RowKit
attribute [local go_sem] GW.cell GW.frozen In.eq_true In.le_true In.ne In.ne' In.ne_add In.ne_add' In.lt_add Upto.le_true Upto.le_add Upto.lt_add
/-- The digits ahead of the last. -/
def preD (m : Nat) : List UInt8 := if m < 10 then [] else Lib.decDigits (m / 10)
def dig (m : Nat) : UInt8 := UInt8.ofNat (48 + m % 10)
theorem dig_toNat (m : Nat) : (dig m).toNat = 48 + m % 10 := by unfold dig; simp; omega
theorem dec_pre (m : Nat) : Lib.decDigits m = preD m ++ [dig m] := by
  unfold preD dig
  by_cases h : m < 10
  · rw [if_pos h, Lib.decDigits_one h, Nat.mod_eq_of_lt h]; rfl
  · rw [if_neg h]; rw [Lib.decDigits, dif_neg h]
theorem pre_step {m : Nat} (h : 10 ≤ m) (l : List UInt8) : preD m ++ l = preD (m / 10) ++ (dig (m / 10) :: l) := by
  have : preD m = Lib.decDigits (m / 10) := by unfold preD; rw [if_neg (by omega)]
  rw [this, dec_pre (m / 10)]; simp
theorem pre_small {m : Nat} (h : m < 10) : preD m = [] := by unfold preD; rw [if_pos h]
theorem str_app (c : UInt8) (l : List UInt8) : (⟨[c].toArray⟩ : ByteArray) ++ ⟨l.toArray⟩ = ⟨(c :: l).toArray⟩ := by
  apply ByteArray.ext; simp [ByteArray.append]
theorem conv_one (c : UInt8) (w : World) (x : Int) (t : TypeId) (hc : (c.toNat : Int) = x) :
    (convert 27 9 (.slice (some ⟨w.heap.size, 0, none⟩) 1 1)).run Tryd.prog (w.alloc (.cells #[.int .u8 x] t)) = .ok (.string ⟨[c].toArray⟩) (w.alloc (.cells #[.int .u8 x] t)) := by
  have h := run_convert_bytes_arg (P := Tryd.prog) (w.alloc (.cells #[.int .u8 x] t)) 27 5 Tryd.underlying27 Tryd.underlying5 w.heap.size 0 1 1 [x] rfl (fun i hi => by
    obtain rfl : i = 0 := by omega
    simp only [World.cell?, World.alloc, Array.getElem?_push, if_true]; simp) 9 Tryd.underlying9
  rw [h, ← hc]
  simp [strOfNums]
set_option maxHeartbeats 4000000 in
theorem refShowN_c (n : Nat) (hn : n ≤ 9223372036854775807) (w : World) : Calls Tryd.prog 26 #[.int .i64 (n : Int)] w fun e w' => e = .returned (.string ⟨(Lib.itoa n).toArray⟩) ∧ Ext w w' := by
  have hI : Lib.itoa (n : Int) = Lib.decDigits n := Lib.itoa_nonneg n
  have hlen := hide (Lib.itoa_length_le (n : Int) (by omega) (by omega))
  rw [hI] at hlen
  rw [hI]
  have hpre := hide (dec_pre n)
  have e0 : ((n : Int) == -9223372036854775808) = false := by first | (simp; done) | (simp; omega)
  go_enter Tryd.func26, Tryd.ntmps26
  go_wp2_with (rw [conv_one (dig n) _ _ _ (by rw [dig_toNat]; omega)]; simp only [Result.andThen, Oper.upon_value])
  go_loopw [0, 3] (fun x v wr => ∃ (m : Nat) (l : List UInt8), x = .int .i64 (m : Int) ∧ v = .string ⟨l.toArray⟩ ∧ m ≤ n ∧ Hid (Lib.decDigits n = preD m ++ l) ∧ Ext w wr) (fun x _ _ => (intOf x).toNat)
  case atStart => exact ⟨n, _, rfl, rfl, Nat.le_refl _, hpre, (Ext.refl _).alloc _⟩
  case round =>
    obtain ⟨m, l, rfl, rfl, hm, hl, hX⟩ := hrel
    have hle : l.length ≤ 21 := by
      have h1 := hlen.out
      rw [hl.out, List.length_append] at h1; omega
    by_cases h10 : 10 ≤ m
    · have hl' := hide (hl.out.trans (pre_step h10 l))
      replace h10 : (10 : Int) ≤ (m : Int) := by omega
      have hsz : (⟨l.toArray⟩ : ByteArray).size ≤ 21 := hle
      go_wp2_with (rw [conv_one (dig (m / 10)) _ _ _ (by rw [dig_toNat]; omega)]; simp only [Result.andThen, Oper.upon_value])
      go_roundw
      case rel => exact ⟨m / 10, dig (m / 10) :: l, by go_num, by rw [str_app], by omega, hl', hX.alloc _⟩
      case measure => simp [intOf]; omega
    · have hf := hl.out
      rw [pre_small (by omega), List.nil_append] at hf
      replace h10 : (m : Int) < 10 := by omega
      clear hl hpre hlen hI
      replace hf := hide hf
      go_wp2_with fail
      go_returns
      exact ⟨by rw [hf.out]; rfl, hX⟩
theorem least_digs : Lib.itoa (-9223372036854775808) = [45, 57, 50, 50, 51, 51, 55, 50, 48, 51, 54, 56, 53, 52, 55, 55, 53, 56, 48, 56] := by
  have h := dec_of [57, 50, 50, 51, 51, 55, 50, 48, 51, 54, 56, 53, 52, 55, 55, 53, 56, 48, 56] _ rfl (by decide +kernel) (by simp) (.inl (by decide +kernel))
  have e : dval 0 [57, 50, 50, 51, 51, 55, 50, 48, 51, 54, 56, 53, 52, 55, 55, 53, 56, 48, 56] = 9223372036854775808 := by decide +kernel
  rw [e] at h
  have := Lib.itoa_neg 9223372036854775808 (by omega)
  rw [h] at this
  exact this
theorem str_minus (l : List UInt8) : ({ data := #[45] } : ByteArray) ++ ⟨l.toArray⟩ = ⟨(45 :: l).toArray⟩ := str_app 45 l
set_option maxHeartbeats 4000000 in
theorem refShow_c (n : Int) (h : -9223372036854775808 ≤ n ∧ n ≤ 9223372036854775807) (w : World) : Calls Tryd.prog 26 #[.int .i64 n] w fun e w' => e = .returned (.string ⟨(Lib.itoa n).toArray⟩) ∧ Ext w w' := by
  by_cases h0 : 0 ≤ n
  · obtain ⟨k, rfl⟩ := Int.eq_ofNat_of_zero_le h0
    exact refShowN_c k (by omega) w
  by_cases hm : n = -9223372036854775808
  · subst hm
    have e := hide least_digs
    clear h h0
    go_enter Tryd.func26, Tryd.ntmps26
    go_wp2_with fail
    go_returns
    exact ⟨by rw [e.out]; rfl, Ext.refl _⟩
  · obtain ⟨k, rfl⟩ : ∃ k : Nat, n = -(k : Int) := ⟨n.natAbs, by omega⟩
    have hk : k ≤ 9223372036854775807 := by omega
    have h1 : 1 ≤ k := by omega
    have e := hide (Lib.itoa_neg k h1)
    have hc := hide (refShowN_c k hk)
    have hl := Lib.itoa_length_le (k : Int) (by omega) (by omega)
    rw [Lib.itoa_nonneg] at hl
    rw [Lib.itoa_nonneg] at hc
    have hsz : (⟨(Lib.decDigits k).toArray⟩ : ByteArray).size ≤ 21 := hl
    have e0 : (-(k : Int) == -9223372036854775808) = false := by simp; omega
    have e1 : -(k : Int) < 0 := by omega
    clear hm h0 h
    go_enter Tryd.func26, Tryd.ntmps26
    go_wp2_with (go_at_call 26; (first | (with_reducible refine seq_gw' (hc.out _) ?_) | (with_reducible refine seq_gw (hc.out _) ?_)); intro g)
    go_returns
    refine ⟨by rw [e.out]; simp only [Array.getD_eq_getD_getElem?]; simp [str_minus], ?_⟩
    repeat (first | exact Ext.refl _ | with_reducible assumption | refine Ext.alloc ?_ _ | refine Ext.drew ?_ | refine ext_gw ?_ _)
end Go.Proofs.YthidjngipkelcaaDoor
set_option linter.unusedVariables false
set_option linter.unusedSimpArgs false
namespace Go.Proofs.YthidjngipkelcaaDoor
open Go.RowKit
/-- Which digit a byte is. -/
def hexAt (c : UInt8) : Option Nat := if 48 ≤ c.toNat ∧ c.toNat ≤ 57 then some (c.toNat - 48) else if 97 ≤ c.toNat ∧ c.toNat ≤ 102 then some (c.toNat - 87) else none
theorem hexAt_lt {c : UInt8} {n : Nat} (h : hexAt c = some n) : n < 16 := by
  unfold hexAt at h
  split at h
  · cases h; omega
  · split at h
    · cases h; omega
    · cases h
theorem hexAt_hexd : ∀ n : Fin 16, hexAt (hexd n.val) = some n.val := by decide +kernel
theorem hexd_hexAt_all : ∀ c : Fin 256, ∀ n : Fin 16, hexAt (UInt8.ofNat c.val) = some n.val → UInt8.ofNat c.val = hexd n.val := by decide +kernel
theorem hexd_hexAt {c : UInt8} {n : Nat} (h : hexAt c = some n) : c = hexd n := by
  have hl := hexAt_lt h
  have hc : c.toNat < 256 := c.toNat_lt
  have e : UInt8.ofNat c.toNat = c := UInt8.ofNat_toNat
  have := hexd_hexAt_all ⟨c.toNat, hc⟩ ⟨n, hl⟩ (by show hexAt (UInt8.ofNat c.toNat) = some n; rw [e]; exact h)
  simpa [e] using this
def hexV (a b : Nat) : UInt8 := UInt8.ofNat (16 * a + b)
/-- The byte that two digits write. -/
def pair1 : List UInt8 → Option UInt8
  | h :: l :: _ => (match hexAt h, hexAt l with
    | some a, some b => if plainB (hexV a b) then none else some (hexV a b)
    | _, _ => none)
  | _ => none
/-- The library's search among the digits. -/
def hexI : Option Nat → Int
  | some n => n
  | none => -1
theorem index_hex_all : ∀ c : Fin 256, Lib.indexByte [48, 49, 50, 51, 52, 53, 54, 55, 56, 57, 97, 98, 99, 100, 101, 102] (UInt8.ofNat c.val) = hexI (hexAt (UInt8.ofNat c.val)) := by decide +kernel
theorem index_hex (c : UInt8) : Lib.indexByte hexS.data.toList c = hexI (hexAt c) := by
  have e : UInt8.ofNat c.toNat = c := UInt8.ofNat_toNat
  have := index_hex_all ⟨c.toNat, c.toNat_lt⟩
  rw [e] at this
  exact this
/-- The byte that is written first, and how many bytes it takes. -/
def first1 : List UInt8 → Option (UInt8 × Nat)
  | [] => none
  | c :: r => if plainB c then some (c, 1) else if c.toNat = 92 then (pair1 r).map (fun d => (d, 3)) else none
theorem first1_cons (c : UInt8) (r : List UInt8) : first1 (c :: r) = if plainB c then some (c, 1) else if c.toNat = 92 then (pair1 r).map (fun d => (d, 3)) else none := rfl
theorem pair1_cons (h l : UInt8) (q : List UInt8) {a b : Nat} (ha : hexAt h = some a) (hb : hexAt l = some b) : pair1 (h :: l :: q) = if plainB (hexV a b) then none else some (hexV a b) := by
  simp only [pair1, ha, hb]
theorem pair1_some {r : List UInt8} {d : UInt8} (h : pair1 r = some d) : ∃ x y q a b, r = x :: y :: q ∧ hexAt x = some a ∧ hexAt y = some b ∧ d = hexV a b ∧ ¬ plainB d = true := by
  rcases r with _ | ⟨x, _ | ⟨y, q⟩⟩
  · cases h
  · cases h
  · cases ha : hexAt x with
    | none => simp only [pair1, ha] at h; cases h
    | some a =>
      cases hb : hexAt y with
      | none => simp only [pair1, ha, hb] at h; cases h
      | some b =>
        rw [pair1_cons x y q ha hb] at h
        by_cases hp : plainB (hexV a b) = true
        · rw [if_pos hp] at h; cases h
        · rw [if_neg hp] at h
          cases h
          exact ⟨x, y, q, a, b, rfl, ha, hb, rfl, hp⟩
theorem first1_esc (c : UInt8) (r : List UInt8) : first1 (esc c ++ r) = some (c, (esc c).length) := by
  unfold esc
  by_cases hp : plainB c = true
  · rw [if_pos hp]
    show first1 (c :: r) = _
    rw [first1_cons, if_pos hp]; rfl
  · have hc : c.toNat < 256 := c.toNat_lt
    have e : hexV (c.toNat / 16) (c.toNat % 16) = c := by
      unfold hexV
      rw [Nat.div_add_mod]; exact UInt8.ofNat_toNat
    have a1 : hexAt (hexd (c.toNat / 16)) = some (c.toNat / 16) := hexAt_hexd ⟨c.toNat / 16, by omega⟩
    have a2 : hexAt (hexd (c.toNat % 16)) = some (c.toNat % 16) := hexAt_hexd ⟨c.toNat % 16, by omega⟩
    rw [if_neg hp]
    show first1 (92 :: hexd (c.toNat / 16) :: hexd (c.toNat % 16) :: r) = some (c, 3)
    rw [first1_cons, if_neg (by decide), if_pos (by decide), pair1_cons _ _ _ a1 a2, e, if_neg hp]; rfl
theorem first1_some {l : List UInt8} {c : UInt8} {n : Nat} (h : first1 l = some (c, n)) : n = (esc c).length ∧ l = esc c ++ l.drop n := by
  rcases l with _ | ⟨d, r⟩
  · cases h
  · rw [first1_cons] at h
    by_cases hp : plainB d = true
    · rw [if_pos hp] at h
      cases h
      simp [esc, hp]
    · rw [if_neg hp] at h
      by_cases h92 : d.toNat = 92
      · rw [if_pos h92, Option.map_eq_some_iff] at h
        obtain ⟨d', hd, e⟩ := h
        cases e
        obtain ⟨x, y, q, a, b, rfl, ha, hb, rfl, hq⟩ := pair1_some hd
        have la := hexAt_lt ha
        have lb := hexAt_lt hb
        have et : (hexV a b).toNat = 16 * a + b := by
          unfold hexV
          rw [UInt8.toNat_ofNat']; exact Nat.mod_eq_of_lt (by omega)
        have ed : (16 * a + b) / 16 = a := by omega
        have em : (16 * a + b) % 16 = b := by omega
        have e9 : d = 92 := by
          apply UInt8.toNat_inj.1; rw [h92]; rfl
        unfold esc
        rw [if_neg hq, et, ed, em, ← hexd_hexAt ha, ← hexd_hexAt hb, e9]
        exact ⟨rfl, rfl⟩
      · rw [if_neg h92] at h; cases h
theorem esc_pos (c : UInt8) : 1 ≤ (esc c).length := by unfold esc; split <;> simp
theorem first1_len {l : List UInt8} {c : UInt8} {n : Nat} (h : first1 l = some (c, n)) : 1 ≤ n ∧ n ≤ 3 ∧ n ≤ l.length := by
  obtain ⟨h1, h2⟩ := first1_some h
  have h3 := esc_pos c
  have h4 := esc_len c
  refine ⟨by omega, by omega, ?_⟩
  have := congrArg List.length h2
  rw [List.length_append] at this
  omega
/-- What is meant; none, if not all of it is as it is shown. -/
def unqF : Nat → List UInt8 → Option (List UInt8)
  | _, [] => some []
  | 0, _ :: _ => none
  | f + 1, c :: r => match first1 (c :: r) with
    | none => none
    | some (d, n) => (unqF f ((c :: r).drop n)).map (d :: ·)
def unq (l : List UInt8) : Option (List UInt8) := unqF l.length l
theorem unqF_more : ∀ (f g : Nat) (l : List UInt8), l.length ≤ f → l.length ≤ g → unqF f l = unqF g l := by
  intro f
  induction f with
  | zero =>
    intro g l h _
    have : l = [] := List.length_eq_zero_iff.1 (by omega)
    subst this
    cases g <;> rfl
  | succ f ih =>
    intro g l h hg
    rcases l with _ | ⟨c, r⟩
    · cases g <;> rfl
    · rcases g with _ | g
      · simp at hg
      · simp only [unqF]
        cases h1 : first1 (c :: r) with
        | none => rfl
        | some p =>
          obtain ⟨d, n⟩ := p
          have hn := first1_len h1
          have hd : ((c :: r).drop n).length ≤ r.length := by
            rw [List.length_drop, List.length_cons]; omega
          simp only [List.length_cons] at h hg
          show (unqF f ((c :: r).drop n)).map (d :: ·) = (unqF g ((c :: r).drop n)).map (d :: ·)
          rw [ih g _ (by omega) (by omega)]
theorem unq_cons (l : List UInt8) (hl : l ≠ []) : unq l = (match first1 l with
    | none => none
    | some (d, n) => (unq (l.drop n)).map (d :: ·)) := by
  rcases l with _ | ⟨c, r⟩
  · exact absurd rfl hl
  · unfold unq
    simp only [List.length_cons, unqF]
    cases h1 : first1 (c :: r) with
    | none => rfl
    | some p =>
      obtain ⟨d, n⟩ := p
      have hn := first1_len h1
      show (unqF r.length ((c :: r).drop n)).map (d :: ·) = (unqF ((c :: r).drop n).length ((c :: r).drop n)).map (d :: ·)
      rw [unqF_more r.length ((c :: r).drop n).length _ (by rw [List.length_drop, List.length_cons]; omega) (Nat.le_refl _)]
theorem unq_esc : ∀ t : List UInt8, unq (t.flatMap esc) = some t := by
  intro t
  induction t with
  | nil => rfl
  | cons c t ih =>
    rw [List.flatMap_cons]
    have h1 := first1_esc c (t.flatMap esc)
    have hp := esc_pos c
    rw [unq_cons _ (by intro e; have := congrArg List.length e; rw [List.length_append, List.length_nil] at this; omega), h1]
    simp only [List.drop_left, ih, Option.map_some]
theorem unq_some : ∀ (n : Nat) (l t : List UInt8), l.length ≤ n → unq l = some t → l = t.flatMap esc := by
  intro n
  induction n with
  | zero =>
    intro l t h hu
    have : l = [] := List.length_eq_zero_iff.1 (by omega)
    subst this
    cases hu; rfl
  | succ n ih =>
    intro l t h hu
    by_cases hl : l = []
    · subst hl; cases hu; rfl
    · rw [unq_cons l hl] at hu
      cases h1 : first1 l with
      | none => rw [h1] at hu; cases hu
      | some p =>
        obtain ⟨d, k⟩ := p
        rw [h1] at hu
        simp only [Option.map_eq_some_iff] at hu
        obtain ⟨q, hq, rfl⟩ := hu
        have hk := first1_len h1
        have := ih (l.drop k) q (by rw [List.length_drop]; omega) hq
        obtain ⟨_, h2⟩ := first1_some h1
        rw [List.flatMap_cons, ← this]
        exact h2
end Go.Proofs.YthidjngipkelcaaDoor
set_option linter.unusedVariables false
set_option linter.unusedSimpArgs false
namespace Go.Proofs.YthidjngipkelcaaDoor
open Go.RowKit
attribute [local go_sem] GW.cell GW.frozen In.eq_true In.le_true In.ne In.ne' In.ne_add In.ne_add' In.lt_add Upto.le_true Upto.le_add Upto.lt_add
/-- The byte that is written first, and how many bytes it takes. -/
def fb (l : List UInt8) : UInt8 × Nat := (first1 l).getD (0, 0)
theorem str_at {s : ByteArray} {i : Nat} {c : UInt8} (h : s.data.toList[i]? = some c) : ∃ hi : i < s.size, s[i] = c := by
  have hi := (List.getElem?_eq_some_iff.1 h).1
  have hi' : i < s.size := by rw [← size_lst]; exact hi
  rw [List.getElem?_eq_getElem hi] at h
  exact ⟨hi', Option.some.inj h⟩
theorem shl4_all : ∀ a b : Fin 16, bits .or .i64 ((a.val : Int) * 16) (b.val : Int) % 256 = ((16 * a.val + b.val : Nat) : Int) := by decide +kernel
theorem hexI_neg {x : Option Nat} (h : x = none) : decide (hexI x < 0) = true := by subst h; rfl
theorem hexI_pos {x : Option Nat} {n : Nat} (h : x = some n) : decide (hexI x < 0) = false := by subst h; show decide ((n : Int) < 0) = false; rw [decide_eq_false_iff_not]; omega
/-- What stands between the quotes. -/
def mid (l : List UInt8) : List UInt8 := (l.drop 1).take (l.length - 1 - 1)
/-- What a text in quotes means. -/
def unqT (l : List UInt8) : Option (List UInt8) := if l.length < 2 then none else if (l.getD (l.length - 1) 0).toNat = 39 then unq (mid l) else none
def optS : Option (List UInt8) → Value
  | some t => .tuple #[.string ⟨t.toArray⟩, .bool true]
  | none => .tuple #[.string ⟨#[]⟩, .bool false]
theorem last_at {s : ByteArray} (hi : s.size - 1 < s.size) : s[s.size - 1] = s.data.toList.getD (s.size - 1) 0 := by
  rw [List.getD_eq_getElem?_getD, List.getElem?_eq_getElem (by rw [size_lst]; omega)]
  rfl
theorem mid_str (s : ByteArray) : (s.extract 1 (s.size - 1)).data.toList = mid s.data.toList := by
  rw [Lib.extract_data]
  unfold mid
  rw [size_lst]
theorem fb_some {l : List UInt8} {c : UInt8} {n : Nat} (h : first1 l = some (c, n)) : fb l = (c, n) := by unfold fb; rw [h]; rfl
theorem fb_none {l : List UInt8} (h : first1 l = none) : fb l = (0, 0) := by unfold fb; rw [h]; rfl
theorem esc_13 (c : UInt8) : (esc c).length = 1 ∨ (esc c).length = 3 := by unfold esc; split <;> simp
end Go.Proofs.YthidjngipkelcaaDoor
set_option linter.unusedVariables false
set_option linter.unusedSimpArgs false
namespace Go.Proofs.YthidjngipkelcaaDoor
open Go.RowKit
attribute [local go_sem] GW.cell GW.frozen In.eq_true In.le_true In.ne In.ne' In.ne_add In.ne_add' In.lt_add Upto.le_true Upto.le_add Upto.lt_add
/-- What a text in quotes is as a value, and what is wrong with it. -/
def ptE (o : Option (List UInt8)) : Int := match o with | none => 4 | some t => if t.length ≤ 64 then 0 else 6
def ptV (o : Option (List UInt8)) : Vl := match o with | none => (0, 0, ⟨#[]⟩) | some t => if t.length ≤ 64 then (2, 0, ⟨t.toArray⟩) else (0, 0, ⟨#[]⟩)
/-- A text as a value, and what is wrong with it. -/
def paE (l : List UInt8) : Int := if l.head? = some 39 then ptE (unqT l) else readE l
def paV (l : List UInt8) : Vl := if l.head? = some 39 then ptV (unqT l) else if readE l = 0 then (1, readV l, ⟨#[]⟩) else (0, 0, ⟨#[]⟩)
abbrev vlv (a : Vl) : Value := val a.1 a.2.1 a.2.2
end Go.Proofs.YthidjngipkelcaaDoor
set_option linter.unusedVariables false
set_option linter.unusedSimpArgs false
namespace Go.Proofs.YthidjngipkelcaaDoor
open Go.RowKit
attribute [local go_sem] GW.cell GW.frozen In.eq_true In.le_true In.ne In.ne' In.ne_add In.ne_add' In.lt_add Upto.le_true Upto.le_add Upto.lt_add
theorem run_quo16 (c : UInt8) (w : World) : (binOp .quo 5 (.int .u8 c.toNat) (.int .u8 16)).run Tryd.prog w = .ok (.int .u8 ((c.toNat / 16 : Nat) : Int)) w := by
  have h := c.toNat_lt
  have e : IntKind.u8.wrap ((c.toNat : Int) / 16) = (c.toNat : Int) / 16 := by
    simp only [IntKind.wrap, IntKind.bits, IntKind.signed]; simp; omega
  simp [go_sem, e]
theorem run_rem16 (c : UInt8) (w : World) : (binOp .rem 5 (.int .u8 c.toNat) (.int .u8 16)).run Tryd.prog w = .ok (.int .u8 ((c.toNat % 16 : Nat) : Int)) w := by
  have h := c.toNat_lt
  have e : (c.toNat : Int).tmod 16 = (c.toNat : Int) % 16 := Int.tmod_eq_emod_of_nonneg (by omega)
  simp [go_sem, e]
theorem run_addS (a b : ByteArray) (h : a.size + b.size ≤ 4000) (w : World) : (binOp .add 9 (.string a) (.string b)).run Tryd.prog w = .ok (.string (a ++ b)) w := by
  first | (simp [go_sem]; done) | (simp [go_sem, Op.stringOp]; omega) | (simp [go_sem, Op.stringOp, maxLen]; omega)
theorem build2 (x y : Int) (w : World) : (Instr.buildSlice 27 2 #[(0, .int .u8 x), (1, .int .u8 y)]).run Tryd.prog w = .ok (.slice (some ⟨w.heap.size, 0, none⟩) 2 2) (w.alloc (.cells #[.int .u8 x, .int .u8 y] 5)) := by
  simp [go_sem]
theorem str_snoc (a : List UInt8) (b : List UInt8) : (⟨a.toArray⟩ : ByteArray) ++ ⟨b.toArray⟩ = ⟨(a ++ b).toArray⟩ := by
  apply ByteArray.ext; simp [ByteArray.append]
/-- Which bytes are not plain: the tests in their order. -/
theorem not_plain {c : UInt8} (h : plainB c = false) : c.toNat < 32 ∨ (¬ c.toNat < 32 ∧ 126 < c.toNat) ∨ (¬ c.toNat < 32 ∧ ¬ 126 < c.toNat ∧ c.toNat = 39) ∨ (¬ c.toNat < 32 ∧ ¬ 126 < c.toNat ∧ c.toNat ≠ 39 ∧ c.toNat = 92) := by
  unfold plainB at h
  rw [decide_eq_false_iff_not] at h
  omega
theorem is_plain {c : UInt8} (h : plainB c = true) : ¬ c.toNat < 32 ∧ ¬ 126 < c.toNat ∧ c.toNat ≠ 39 ∧ c.toNat ≠ 92 := by
  unfold plainB at h
  rw [decide_eq_true_iff] at h
  omega
set_option maxHeartbeats 8000000 in
set_option maxRecDepth 100000 in
theorem refShowT_c (s : ByteArray) (hs : s.size ≤ 64) (w : World) : Calls Tryd.prog 55 #[val 2 0 s] w fun e w' => e = .returned (.string ⟨(showB s.data.toList).toArray⟩) ∧ Ext w w' := by
  have hm := hide (fun w => refMay_c 2 0 s w)
  rw [may_text hs] at hm
  have hXw := hide (show Ext w (w.alloc (obV 2 0 s)) from (Ext.refl w).alloc _)
  have O0 := hide (Ob.new w 58 [.int .i64 2, .int .i64 0, .string s])
  go_enter Tryd.func55, Tryd.ntmps55
  go_wp2_with (go_at_call 68; (with_reducible refine seq_gw (hm.out _) ?_); intro g)
  have hX0 : Ext (w.alloc (obV 2 0 s)) g.val := g.grown
  go_loopg [3, 4] s.size (fun gh x i wr => ∃ (k : Nat) (a : List UInt8), x = .string ⟨a.toArray⟩ ∧ i = .int .i64 k ∧ k + gh = s.size ∧ a.length ≤ 1 + 3 * k ∧ Hid (a = 39 :: (s.data.toList.take k).flatMap esc) ∧ Ext (w.alloc (obV 2 0 s)) wr)
  case atStart => exact ⟨0, [39], rfl, rfl, by omega, by simp, rfl, hX0⟩
  case round =>
    obtain ⟨k, a, rfl, rfl, hk, hl, hL, hX⟩ := hrel
    clear hX0 g
    have O1 := O0.out.ext hX
    have k2 := O1.cell 2 rfl
    have hlt1 := O1.lt
    haveI : In w.heap.size wr := ⟨hlt1⟩
    have hsz : (⟨a.toArray⟩ : ByteArray).size ≤ 200 := by show a.toArray.size ≤ 200; simp; omega
    by_cases hlt : k < s.size
    · obtain ⟨c, hc⟩ : ∃ c, c = s[k] := ⟨_, rfl⟩
      have hck : s.data.toList[k]? = some c := by rw [hc, List.getElem?_eq_getElem (by rw [Array.length_toList]; exact hlt)]; rfl
      have hL' := hide (show a ++ esc c = 39 :: (s.data.toList.take (k + 1)).flatMap esc by rw [List.take_add_one, hck, hL.out, List.flatMap_append]; simp)
      have hcc : Hid (s[k] = c) := hc.symm
      have hcu : s[k].toNat = c.toNat := by rw [hc]
      clear hck
      cases hp : plainB c
      · have he : esc c = [92, hexd (c.toNat / 16), hexd (c.toNat % 16)] := by unfold esc; rw [hp]; rfl
        rw [he] at hL'
        clear he
        have hd16 : c.toNat / 16 < 16 := by have := c.toNat_lt; omega
        have hm16 : c.toNat % 16 < 16 := by omega
        have hways := not_plain hp
        clear hp hL
        rcases hways with h1 | ⟨h1, h2⟩ | ⟨h1, h2, h3⟩ | ⟨h1, h2, h3, h4⟩
        · have t1 : decide ((s[k].toNat : Int) < 32) = true := by rw [decide_eq_true_iff]; omega
          clear h1
          clear hc
          replace hcu := hide hcu
          go_wp2_with fail
          refine wp_region_list_tail 11 [.is (.string ⟨a.toArray⟩), .is (.string (⟨a.toArray⟩ ++ ⟨#[92]⟩)), .is (.int .u8 c.toNat), .is (.int .u8 ((c.toNat / 16 : Nat) : Int)), .is (.int .u8 (hexd (c.toNat / 16)).toNat), .is (.int .u8 c.toNat), .is (.int .u8 ((c.toNat % 16 : Nat) : Int)), .is (.int .u8 (hexd (c.toNat % 16)).toNat), .bytes [hexd (c.toNat / 16), hexd (c.toNat % 16)], .is (.string ⟨[hexd (c.toNat / 16), hexd (c.toNat % 16)].toArray⟩), .is (.string (⟨a.toArray⟩ ++ ⟨#[92]⟩ ++ ⟨[hexd (c.toNat / 16), hexd (c.toNat % 16)].toArray⟩))] (by kernel_rfl) (by kernel_rfl) (by kernel_rfl) (by kernel_rfl) (by kernel_rfl) (by kernel_rfl) (by kernel_rfl) ?_ ?_
          · refine ⟨?_, ?_, ?_, ?_, ?_, ?_, ?_, ?_, ?_, ?_, ?_, trivial⟩
            · intro b w' h hE
              have f3 : b.tmps.getD 3 undef = .string ⟨a.toArray⟩ := hE 3 (of_decide_eq_true (by kernel_rfl))
              exact good_move (wanted_none rfl) rfl f3
            · intro b w' h hE
              have f40 : b.tmps.getD 40 undef = (.string ⟨a.toArray⟩) := h.dep 0 _ 40 (by kernel_rfl) rfl rfl
              exact good_bin (wanted_none rfl) rfl f40 rfl (guard_str _) (run_addS _ _ (by show _ + 1 ≤ 4000; omega) _) rfl
            · intro b w' h hE
              have f5 : b.tmps.getD 5 undef = .int .u8 c.toNat := (hE 5 (of_decide_eq_true (by kernel_rfl))).trans (by rw [← hcu.out]; rfl)
              exact good_move (wanted_none rfl) rfl f5
            · intro b w' h hE
              have f42 : b.tmps.getD 42 undef = (.int .u8 c.toNat) := h.dep 2 _ 42 (by kernel_rfl) rfl rfl
              exact good_bin (wanted_none rfl) rfl f42 rfl (guard_int _) (run_quo16 c _) rfl
            · intro b w' h hE
              have f43 : b.tmps.getD 43 undef = (.int .u8 ((c.toNat / 16 : Nat) : Int)) := h.dep 3 _ 43 (by kernel_rfl) rfl rfl
              exact good_indexS (wanted_none rfl) rfl rfl f43 (hex_at _ hd16 _) rfl
            · intro b w' h hE
              have f5 : b.tmps.getD 5 undef = .int .u8 c.toNat := (hE 5 (of_decide_eq_true (by kernel_rfl))).trans (by rw [← hcu.out]; rfl)
              exact good_move (wanted_none rfl) rfl f5
            · intro b w' h hE
              have f45 : b.tmps.getD 45 undef = (.int .u8 c.toNat) := h.dep 5 _ 45 (by kernel_rfl) rfl rfl
              exact good_bin (wanted_none rfl) rfl f45 rfl (guard_int _) (run_rem16 c _) rfl
            · intro b w' h hE
              have f46 : b.tmps.getD 46 undef = (.int .u8 ((c.toNat % 16 : Nat) : Int)) := h.dep 6 _ 46 (by kernel_rfl) rfl rfl
              exact good_indexS (wanted_none rfl) rfl rfl f46 (hex_at _ hm16 _) rfl
            · intro b w' h hE
              have f44 : b.tmps.getD 44 undef = (.int .u8 (hexd (c.toNat / 16)).toNat) := h.dep 4 _ 44 (by kernel_rfl) rfl rfl
              have f47 : b.tmps.getD 47 undef = (.int .u8 (hexd (c.toNat % 16)).toNat) := h.dep 7 _ 47 (by kernel_rfl) rfl rfl
              refine good_grow (w' := w'.alloc (.cells #[.int .u8 (hexd (c.toNat / 16)).toNat, .int .u8 (hexd (c.toNat % 16)).toNat] 5)) (v := .slice (some ⟨w'.heap.size, 0, none⟩) 2 2) (wanted_none rfl) ?_ ?_ ((Ext.refl _).alloc _)
              · have g44 : b.tmps[44]?.getD undef = .int .u8 (hexd (c.toNat / 16)).toNat := by rw [← Array.getD_eq_getD_getElem?]; exact f44
                have g47 : b.tmps[47]?.getD undef = .int .u8 (hexd (c.toNat % 16)).toNat := by rw [← Array.getD_eq_getD_getElem?]; exact f47
                have := build2 (hexd (c.toNat / 16)).toNat (hexd (c.toNat % 16)).toNat w'
                simp [execOp, Act.eval, g44, g47, this, Sem.run_bind, Sem.run_pure, Result.andThen_ok]
              · exact Sl.own (World.ownsRow_lit (base := w'.heap.size) (e := 5) (size := 1) w' #[.int .u8 (hexd (c.toNat / 16)).toNat, .int .u8 (hexd (c.toNat % 16)).toNat] 2 (Nat.le_refl _) (by decide) rfl) (by simp)
            · intro b w' h hE
              have f48 := h.dep 8 _ 48 (by kernel_rfl) rfl rfl
              exact good_convert (wanted_none rfl) rfl (run_str Tryd.underlying27 Tryd.underlying5 Tryd.underlying9 f48) rfl
            · intro b w' h hE
              have f41 : b.tmps.getD 41 undef = (.string (⟨a.toArray⟩ ++ ⟨#[92]⟩)) := h.dep 1 _ 41 (by kernel_rfl) rfl rfl
              have f49 : b.tmps.getD 49 undef = (.string ⟨[hexd (c.toNat / 16), hexd (c.toNat % 16)].toArray⟩) := h.dep 9 _ 49 (by kernel_rfl) rfl rfl
              exact good_bin (wanted_none rfl) rfl f41 f49 (guard_str _) (run_addS _ _ (by rw [str_snoc a [92]]; show (a ++ [92]).toArray.size + 2 ≤ 4000; simp; omega) _) rfl
          · intro b w2 hX2 hd hz he' hf
            have f3 : b.tmps.getD 50 undef = (.string (⟨a.toArray⟩ ++ ⟨#[92]⟩ ++ ⟨[hexd (c.toNat / 16), hexd (c.toNat % 16)].toArray⟩)) := hf 10 _ 50 (by omega) rfl rfl
            have e := frame_puts hd hz he'
            obtain ⟨x, hx⟩ : ∃ x : Nat → Value, ∀ d, b.tmps.getD d undef = x d := ⟨_, fun _ => rfl⟩
            rw [show dstsOf _ = [40, 41, 42, 43, 44, 45, 46, 47, 48, 49, 50] from rfl] at e
            simp only [List.foldl_cons, List.foldl_nil, hx, Act.put, List.setIfInBounds_toArray, List.set_cons_succ, List.set_cons_zero] at e f3
            rw [f3] at e
            clear hf he' hz hd hx f3
            subst e
            have hsa := hide (show (⟨a.toArray⟩ : ByteArray) ++ ⟨#[92]⟩ ++ ⟨[hexd (c.toNat / 16), hexd (c.toNat % 16)].toArray⟩ = ⟨(a ++ [92, hexd (c.toNat / 16), hexd (c.toNat % 16)]).toArray⟩ by rw [str_snoc a [92], str_snoc]; simp)
            rw [hsa.out]
            simp only [List.drop_succ_cons, List.drop_zero]
            go_wp2_with fail
            go_roundg (s.size - (k + 1))
            case measure => omega
            case rel => exact ⟨k + 1, a ++ [92, hexd (c.toNat / 16), hexd (c.toNat % 16)], rfl, by go_num, by omega, by simp; omega, hL', hX.trans hX2⟩
        · have t1 : decide ((s[k].toNat : Int) < 32) = false := by rw [decide_eq_false_iff_not]; omega
          have t2 : decide ((126 : Int) < s[k].toNat) = true := by rw [decide_eq_true_iff]; omega
          clear h1 h2
          clear hc
          replace hcu := hide hcu
          go_wp2_with fail
          refine wp_region_list_tail 11 [.is (.string ⟨a.toArray⟩), .is (.string (⟨a.toArray⟩ ++ ⟨#[92]⟩)), .is (.int .u8 c.toNat), .is (.int .u8 ((c.toNat / 16 : Nat) : Int)), .is (.int .u8 (hexd (c.toNat / 16)).toNat), .is (.int .u8 c.toNat), .is (.int .u8 ((c.toNat % 16 : Nat) : Int)), .is (.int .u8 (hexd (c.toNat % 16)).toNat), .bytes [hexd (c.toNat / 16), hexd (c.toNat % 16)], .is (.string ⟨[hexd (c.toNat / 16), hexd (c.toNat % 16)].toArray⟩), .is (.string (⟨a.toArray⟩ ++ ⟨#[92]⟩ ++ ⟨[hexd (c.toNat / 16), hexd (c.toNat % 16)].toArray⟩))] (by kernel_rfl) (by kernel_rfl) (by kernel_rfl) (by kernel_rfl) (by kernel_rfl) (by kernel_rfl) (by kernel_rfl) ?_ ?_
          · refine ⟨?_, ?_, ?_, ?_, ?_, ?_, ?_, ?_, ?_, ?_, ?_, trivial⟩
            · intro b w' h hE
              have f3 : b.tmps.getD 3 undef = .string ⟨a.toArray⟩ := hE 3 (of_decide_eq_true (by kernel_rfl))
              exact good_move (wanted_none rfl) rfl f3
            · intro b w' h hE
              have f40 : b.tmps.getD 40 undef = (.string ⟨a.toArray⟩) := h.dep 0 _ 40 (by kernel_rfl) rfl rfl
              exact good_bin (wanted_none rfl) rfl f40 rfl (guard_str _) (run_addS _ _ (by show _ + 1 ≤ 4000; omega) _) rfl
            · intro b w' h hE
              have f5 : b.tmps.getD 5 undef = .int .u8 c.toNat := (hE 5 (of_decide_eq_true (by kernel_rfl))).trans (by rw [← hcu.out]; rfl)
              exact good_move (wanted_none rfl) rfl f5
            · intro b w' h hE
              have f42 : b.tmps.getD 42 undef = (.int .u8 c.toNat) := h.dep 2 _ 42 (by kernel_rfl) rfl rfl
              exact good_bin (wanted_none rfl) rfl f42 rfl (guard_int _) (run_quo16 c _) rfl
            · intro b w' h hE
              have f43 : b.tmps.getD 43 undef = (.int .u8 ((c.toNat / 16 : Nat) : Int)) := h.dep 3 _ 43 (by kernel_rfl) rfl rfl
              exact good_indexS (wanted_none rfl) rfl rfl f43 (hex_at _ hd16 _) rfl
            · intro b w' h hE
              have f5 : b.tmps.getD 5 undef = .int .u8 c.toNat := (hE 5 (of_decide_eq_true (by kernel_rfl))).trans (by rw [← hcu.out]; rfl)
              exact good_move (wanted_none rfl) rfl f5
            · intro b w' h hE
              have f45 : b.tmps.getD 45 undef = (.int .u8 c.toNat) := h.dep 5 _ 45 (by kernel_rfl) rfl rfl
              exact good_bin (wanted_none rfl) rfl f45 rfl (guard_int _) (run_rem16 c _) rfl
            · intro b w' h hE
              have f46 : b.tmps.getD 46 undef = (.int .u8 ((c.toNat % 16 : Nat) : Int)) := h.dep 6 _ 46 (by kernel_rfl) rfl rfl
              exact good_indexS (wanted_none rfl) rfl rfl f46 (hex_at _ hm16 _) rfl
            · intro b w' h hE
              have f44 : b.tmps.getD 44 undef = (.int .u8 (hexd (c.toNat / 16)).toNat) := h.dep 4 _ 44 (by kernel_rfl) rfl rfl
              have f47 : b.tmps.getD 47 undef = (.int .u8 (hexd (c.toNat % 16)).toNat) := h.dep 7 _ 47 (by kernel_rfl) rfl rfl
              refine good_grow (w' := w'.alloc (.cells #[.int .u8 (hexd (c.toNat / 16)).toNat, .int .u8 (hexd (c.toNat % 16)).toNat] 5)) (v := .slice (some ⟨w'.heap.size, 0, none⟩) 2 2) (wanted_none rfl) ?_ ?_ ((Ext.refl _).alloc _)
              · have g44 : b.tmps[44]?.getD undef = .int .u8 (hexd (c.toNat / 16)).toNat := by rw [← Array.getD_eq_getD_getElem?]; exact f44
                have g47 : b.tmps[47]?.getD undef = .int .u8 (hexd (c.toNat % 16)).toNat := by rw [← Array.getD_eq_getD_getElem?]; exact f47
                have := build2 (hexd (c.toNat / 16)).toNat (hexd (c.toNat % 16)).toNat w'
                simp [execOp, Act.eval, g44, g47, this, Sem.run_bind, Sem.run_pure, Result.andThen_ok]
              · exact Sl.own (World.ownsRow_lit (base := w'.heap.size) (e := 5) (size := 1) w' #[.int .u8 (hexd (c.toNat / 16)).toNat, .int .u8 (hexd (c.toNat % 16)).toNat] 2 (Nat.le_refl _) (by decide) rfl) (by simp)
            · intro b w' h hE
              have f48 := h.dep 8 _ 48 (by kernel_rfl) rfl rfl
              exact good_convert (wanted_none rfl) rfl (run_str Tryd.underlying27 Tryd.underlying5 Tryd.underlying9 f48) rfl
            · intro b w' h hE
              have f41 : b.tmps.getD 41 undef = (.string (⟨a.toArray⟩ ++ ⟨#[92]⟩)) := h.dep 1 _ 41 (by kernel_rfl) rfl rfl
              have f49 : b.tmps.getD 49 undef = (.string ⟨[hexd (c.toNat / 16), hexd (c.toNat % 16)].toArray⟩) := h.dep 9 _ 49 (by kernel_rfl) rfl rfl
              exact good_bin (wanted_none rfl) rfl f41 f49 (guard_str _) (run_addS _ _ (by rw [str_snoc a [92]]; show (a ++ [92]).toArray.size + 2 ≤ 4000; simp; omega) _) rfl
          · intro b w2 hX2 hd hz he' hf
            have f3 : b.tmps.getD 50 undef = (.string (⟨a.toArray⟩ ++ ⟨#[92]⟩ ++ ⟨[hexd (c.toNat / 16), hexd (c.toNat % 16)].toArray⟩)) := hf 10 _ 50 (by omega) rfl rfl
            have e := frame_puts hd hz he'
            obtain ⟨x, hx⟩ : ∃ x : Nat → Value, ∀ d, b.tmps.getD d undef = x d := ⟨_, fun _ => rfl⟩
            rw [show dstsOf _ = [40, 41, 42, 43, 44, 45, 46, 47, 48, 49, 50] from rfl] at e
            simp only [List.foldl_cons, List.foldl_nil, hx, Act.put, List.setIfInBounds_toArray, List.set_cons_succ, List.set_cons_zero] at e f3
            rw [f3] at e
            clear hf he' hz hd hx f3
            subst e
            have hsa := hide (show (⟨a.toArray⟩ : ByteArray) ++ ⟨#[92]⟩ ++ ⟨[hexd (c.toNat / 16), hexd (c.toNat % 16)].toArray⟩ = ⟨(a ++ [92, hexd (c.toNat / 16), hexd (c.toNat % 16)]).toArray⟩ by rw [str_snoc a [92], str_snoc]; simp)
            rw [hsa.out]
            simp only [List.drop_succ_cons, List.drop_zero]
            go_wp2_with fail
            go_roundg (s.size - (k + 1))
            case measure => omega
            case rel => exact ⟨k + 1, a ++ [92, hexd (c.toNat / 16), hexd (c.toNat % 16)], rfl, by go_num, by omega, by simp; omega, hL', hX.trans hX2⟩
        · have t1 : decide ((s[k].toNat : Int) < 32) = false := by rw [decide_eq_false_iff_not]; omega
          have t2 : decide ((126 : Int) < s[k].toNat) = false := by rw [decide_eq_false_iff_not]; omega
          have t3 : ((s[k].toNat : Int) == 39) = true := by rw [beq_iff_eq]; omega
          clear h1 h2 h3
          clear hc
          replace hcu := hide hcu
          go_wp2_with fail
          refine wp_region_list_tail 11 [.is (.string ⟨a.toArray⟩), .is (.string (⟨a.toArray⟩ ++ ⟨#[92]⟩)), .is (.int .u8 c.toNat), .is (.int .u8 ((c.toNat / 16 : Nat) : Int)), .is (.int .u8 (hexd (c.toNat / 16)).toNat), .is (.int .u8 c.toNat), .is (.int .u8 ((c.toNat % 16 : Nat) : Int)), .is (.int .u8 (hexd (c.toNat % 16)).toNat), .bytes [hexd (c.toNat / 16), hexd (c.toNat % 16)], .is (.string ⟨[hexd (c.toNat / 16), hexd (c.toNat % 16)].toArray⟩), .is (.string (⟨a.toArray⟩ ++ ⟨#[92]⟩ ++ ⟨[hexd (c.toNat / 16), hexd (c.toNat % 16)].toArray⟩))] (by kernel_rfl) (by kernel_rfl) (by kernel_rfl) (by kernel_rfl) (by kernel_rfl) (by kernel_rfl) (by kernel_rfl) ?_ ?_
          · refine ⟨?_, ?_, ?_, ?_, ?_, ?_, ?_, ?_, ?_, ?_, ?_, trivial⟩
            · intro b w' h hE
              have f3 : b.tmps.getD 3 undef = .string ⟨a.toArray⟩ := hE 3 (of_decide_eq_true (by kernel_rfl))
              exact good_move (wanted_none rfl) rfl f3
            · intro b w' h hE
              have f40 : b.tmps.getD 40 undef = (.string ⟨a.toArray⟩) := h.dep 0 _ 40 (by kernel_rfl) rfl rfl
              exact good_bin (wanted_none rfl) rfl f40 rfl (guard_str _) (run_addS _ _ (by show _ + 1 ≤ 4000; omega) _) rfl
            · intro b w' h hE
              have f5 : b.tmps.getD 5 undef = .int .u8 c.toNat := (hE 5 (of_decide_eq_true (by kernel_rfl))).trans (by rw [← hcu.out]; rfl)
              exact good_move (wanted_none rfl) rfl f5
            · intro b w' h hE
              have f42 : b.tmps.getD 42 undef = (.int .u8 c.toNat) := h.dep 2 _ 42 (by kernel_rfl) rfl rfl
              exact good_bin (wanted_none rfl) rfl f42 rfl (guard_int _) (run_quo16 c _) rfl
            · intro b w' h hE
              have f43 : b.tmps.getD 43 undef = (.int .u8 ((c.toNat / 16 : Nat) : Int)) := h.dep 3 _ 43 (by kernel_rfl) rfl rfl
              exact good_indexS (wanted_none rfl) rfl rfl f43 (hex_at _ hd16 _) rfl
            · intro b w' h hE
              have f5 : b.tmps.getD 5 undef = .int .u8 c.toNat := (hE 5 (of_decide_eq_true (by kernel_rfl))).trans (by rw [← hcu.out]; rfl)
              exact good_move (wanted_none rfl) rfl f5
            · intro b w' h hE
              have f45 : b.tmps.getD 45 undef = (.int .u8 c.toNat) := h.dep 5 _ 45 (by kernel_rfl) rfl rfl
              exact good_bin (wanted_none rfl) rfl f45 rfl (guard_int _) (run_rem16 c _) rfl
            · intro b w' h hE
              have f46 : b.tmps.getD 46 undef = (.int .u8 ((c.toNat % 16 : Nat) : Int)) := h.dep 6 _ 46 (by kernel_rfl) rfl rfl
              exact good_indexS (wanted_none rfl) rfl rfl f46 (hex_at _ hm16 _) rfl
            · intro b w' h hE
              have f44 : b.tmps.getD 44 undef = (.int .u8 (hexd (c.toNat / 16)).toNat) := h.dep 4 _ 44 (by kernel_rfl) rfl rfl
              have f47 : b.tmps.getD 47 undef = (.int .u8 (hexd (c.toNat % 16)).toNat) := h.dep 7 _ 47 (by kernel_rfl) rfl rfl
              refine good_grow (w' := w'.alloc (.cells #[.int .u8 (hexd (c.toNat / 16)).toNat, .int .u8 (hexd (c.toNat % 16)).toNat] 5)) (v := .slice (some ⟨w'.heap.size, 0, none⟩) 2 2) (wanted_none rfl) ?_ ?_ ((Ext.refl _).alloc _)
              · have g44 : b.tmps[44]?.getD undef = .int .u8 (hexd (c.toNat / 16)).toNat := by rw [← Array.getD_eq_getD_getElem?]; exact f44
                have g47 : b.tmps[47]?.getD undef = .int .u8 (hexd (c.toNat % 16)).toNat := by rw [← Array.getD_eq_getD_getElem?]; exact f47
                have := build2 (hexd (c.toNat / 16)).toNat (hexd (c.toNat % 16)).toNat w'
                simp [execOp, Act.eval, g44, g47, this, Sem.run_bind, Sem.run_pure, Result.andThen_ok]
              · exact Sl.own (World.ownsRow_lit (base := w'.heap.size) (e := 5) (size := 1) w' #[.int .u8 (hexd (c.toNat / 16)).toNat, .int .u8 (hexd (c.toNat % 16)).toNat] 2 (Nat.le_refl _) (by decide) rfl) (by simp)
            · intro b w' h hE
              have f48 := h.dep 8 _ 48 (by kernel_rfl) rfl rfl
              exact good_convert (wanted_none rfl) rfl (run_str Tryd.underlying27 Tryd.underlying5 Tryd.underlying9 f48) rfl
            · intro b w' h hE
              have f41 : b.tmps.getD 41 undef = (.string (⟨a.toArray⟩ ++ ⟨#[92]⟩)) := h.dep 1 _ 41 (by kernel_rfl) rfl rfl
              have f49 : b.tmps.getD 49 undef = (.string ⟨[hexd (c.toNat / 16), hexd (c.toNat % 16)].toArray⟩) := h.dep 9 _ 49 (by kernel_rfl) rfl rfl
              exact good_bin (wanted_none rfl) rfl f41 f49 (guard_str _) (run_addS _ _ (by rw [str_snoc a [92]]; show (a ++ [92]).toArray.size + 2 ≤ 4000; simp; omega) _) rfl
          · intro b w2 hX2 hd hz he' hf
            have f3 : b.tmps.getD 50 undef = (.string (⟨a.toArray⟩ ++ ⟨#[92]⟩ ++ ⟨[hexd (c.toNat / 16), hexd (c.toNat % 16)].toArray⟩)) := hf 10 _ 50 (by omega) rfl rfl
            have e := frame_puts hd hz he'
            obtain ⟨x, hx⟩ : ∃ x : Nat → Value, ∀ d, b.tmps.getD d undef = x d := ⟨_, fun _ => rfl⟩
            rw [show dstsOf _ = [40, 41, 42, 43, 44, 45, 46, 47, 48, 49, 50] from rfl] at e
            simp only [List.foldl_cons, List.foldl_nil, hx, Act.put, List.setIfInBounds_toArray, List.set_cons_succ, List.set_cons_zero] at e f3
            rw [f3] at e
            clear hf he' hz hd hx f3
            subst e
            have hsa := hide (show (⟨a.toArray⟩ : ByteArray) ++ ⟨#[92]⟩ ++ ⟨[hexd (c.toNat / 16), hexd (c.toNat % 16)].toArray⟩ = ⟨(a ++ [92, hexd (c.toNat / 16), hexd (c.toNat % 16)]).toArray⟩ by rw [str_snoc a [92], str_snoc]; simp)
            rw [hsa.out]
            simp only [List.drop_succ_cons, List.drop_zero]
            go_wp2_with fail
            go_roundg (s.size - (k + 1))
            case measure => omega
            case rel => exact ⟨k + 1, a ++ [92, hexd (c.toNat / 16), hexd (c.toNat % 16)], rfl, by go_num, by omega, by simp; omega, hL', hX.trans hX2⟩
        · have t1 : decide ((s[k].toNat : Int) < 32) = false := by rw [decide_eq_false_iff_not]; omega
          have t2 : decide ((126 : Int) < s[k].toNat) = false := by rw [decide_eq_false_iff_not]; omega
          have t3 : ((s[k].toNat : Int) == 39) = false := by rw [beq_eq_false_iff_ne]; omega
          have t4 : ((s[k].toNat : Int) == 92) = true := by rw [beq_iff_eq]; omega
          clear h1 h2 h3 h4
          clear hc
          replace hcu := hide hcu
          go_wp2_with fail
          refine wp_region_list_tail 11 [.is (.string ⟨a.toArray⟩), .is (.string (⟨a.toArray⟩ ++ ⟨#[92]⟩)), .is (.int .u8 c.toNat), .is (.int .u8 ((c.toNat / 16 : Nat) : Int)), .is (.int .u8 (hexd (c.toNat / 16)).toNat), .is (.int .u8 c.toNat), .is (.int .u8 ((c.toNat % 16 : Nat) : Int)), .is (.int .u8 (hexd (c.toNat % 16)).toNat), .bytes [hexd (c.toNat / 16), hexd (c.toNat % 16)], .is (.string ⟨[hexd (c.toNat / 16), hexd (c.toNat % 16)].toArray⟩), .is (.string (⟨a.toArray⟩ ++ ⟨#[92]⟩ ++ ⟨[hexd (c.toNat / 16), hexd (c.toNat % 16)].toArray⟩))] (by kernel_rfl) (by kernel_rfl) (by kernel_rfl) (by kernel_rfl) (by kernel_rfl) (by kernel_rfl) (by kernel_rfl) ?_ ?_
          · refine ⟨?_, ?_, ?_, ?_, ?_, ?_, ?_, ?_, ?_, ?_, ?_, trivial⟩
            · intro b w' h hE
              have f3 : b.tmps.getD 3 undef = .string ⟨a.toArray⟩ := hE 3 (of_decide_eq_true (by kernel_rfl))
              exact good_move (wanted_none rfl) rfl f3
            · intro b w' h hE
              have f40 : b.tmps.getD 40 undef = (.string ⟨a.toArray⟩) := h.dep 0 _ 40 (by kernel_rfl) rfl rfl
              exact good_bin (wanted_none rfl) rfl f40 rfl (guard_str _) (run_addS _ _ (by show _ + 1 ≤ 4000; omega) _) rfl
            · intro b w' h hE
              have f5 : b.tmps.getD 5 undef = .int .u8 c.toNat := (hE 5 (of_decide_eq_true (by kernel_rfl))).trans (by rw [← hcu.out]; rfl)
              exact good_move (wanted_none rfl) rfl f5
            · intro b w' h hE
              have f42 : b.tmps.getD 42 undef = (.int .u8 c.toNat) := h.dep 2 _ 42 (by kernel_rfl) rfl rfl
              exact good_bin (wanted_none rfl) rfl f42 rfl (guard_int _) (run_quo16 c _) rfl
            · intro b w' h hE
              have f43 : b.tmps.getD 43 undef = (.int .u8 ((c.toNat / 16 : Nat) : Int)) := h.dep 3 _ 43 (by kernel_rfl) rfl rfl
              exact good_indexS (wanted_none rfl) rfl rfl f43 (hex_at _ hd16 _) rfl
            · intro b w' h hE
              have f5 : b.tmps.getD 5 undef = .int .u8 c.toNat := (hE 5 (of_decide_eq_true (by kernel_rfl))).trans (by rw [← hcu.out]; rfl)
              exact good_move (wanted_none rfl) rfl f5
            · intro b w' h hE
              have f45 : b.tmps.getD 45 undef = (.int .u8 c.toNat) := h.dep 5 _ 45 (by kernel_rfl) rfl rfl
              exact good_bin (wanted_none rfl) rfl f45 rfl (guard_int _) (run_rem16 c _) rfl
            · intro b w' h hE
              have f46 : b.tmps.getD 46 undef = (.int .u8 ((c.toNat % 16 : Nat) : Int)) := h.dep 6 _ 46 (by kernel_rfl) rfl rfl
              exact good_indexS (wanted_none rfl) rfl rfl f46 (hex_at _ hm16 _) rfl
            · intro b w' h hE
              have f44 : b.tmps.getD 44 undef = (.int .u8 (hexd (c.toNat / 16)).toNat) := h.dep 4 _ 44 (by kernel_rfl) rfl rfl
              have f47 : b.tmps.getD 47 undef = (.int .u8 (hexd (c.toNat % 16)).toNat) := h.dep 7 _ 47 (by kernel_rfl) rfl rfl
              refine good_grow (w' := w'.alloc (.cells #[.int .u8 (hexd (c.toNat / 16)).toNat, .int .u8 (hexd (c.toNat % 16)).toNat] 5)) (v := .slice (some ⟨w'.heap.size, 0, none⟩) 2 2) (wanted_none rfl) ?_ ?_ ((Ext.refl _).alloc _)
              · have g44 : b.tmps[44]?.getD undef = .int .u8 (hexd (c.toNat / 16)).toNat := by rw [← Array.getD_eq_getD_getElem?]; exact f44
                have g47 : b.tmps[47]?.getD undef = .int .u8 (hexd (c.toNat % 16)).toNat := by rw [← Array.getD_eq_getD_getElem?]; exact f47
                have := build2 (hexd (c.toNat / 16)).toNat (hexd (c.toNat % 16)).toNat w'
                simp [execOp, Act.eval, g44, g47, this, Sem.run_bind, Sem.run_pure, Result.andThen_ok]
              · exact Sl.own (World.ownsRow_lit (base := w'.heap.size) (e := 5) (size := 1) w' #[.int .u8 (hexd (c.toNat / 16)).toNat, .int .u8 (hexd (c.toNat % 16)).toNat] 2 (Nat.le_refl _) (by decide) rfl) (by simp)
            · intro b w' h hE
              have f48 := h.dep 8 _ 48 (by kernel_rfl) rfl rfl
              exact good_convert (wanted_none rfl) rfl (run_str Tryd.underlying27 Tryd.underlying5 Tryd.underlying9 f48) rfl
            · intro b w' h hE
              have f41 : b.tmps.getD 41 undef = (.string (⟨a.toArray⟩ ++ ⟨#[92]⟩)) := h.dep 1 _ 41 (by kernel_rfl) rfl rfl
              have f49 : b.tmps.getD 49 undef = (.string ⟨[hexd (c.toNat / 16), hexd (c.toNat % 16)].toArray⟩) := h.dep 9 _ 49 (by kernel_rfl) rfl rfl
              exact good_bin (wanted_none rfl) rfl f41 f49 (guard_str _) (run_addS _ _ (by rw [str_snoc a [92]]; show (a ++ [92]).toArray.size + 2 ≤ 4000; simp; omega) _) rfl
          · intro b w2 hX2 hd hz he' hf
            have f3 : b.tmps.getD 50 undef = (.string (⟨a.toArray⟩ ++ ⟨#[92]⟩ ++ ⟨[hexd (c.toNat / 16), hexd (c.toNat % 16)].toArray⟩)) := hf 10 _ 50 (by omega) rfl rfl
            have e := frame_puts hd hz he'
            obtain ⟨x, hx⟩ : ∃ x : Nat → Value, ∀ d, b.tmps.getD d undef = x d := ⟨_, fun _ => rfl⟩
            rw [show dstsOf _ = [40, 41, 42, 43, 44, 45, 46, 47, 48, 49, 50] from rfl] at e
            simp only [List.foldl_cons, List.foldl_nil, hx, Act.put, List.setIfInBounds_toArray, List.set_cons_succ, List.set_cons_zero] at e f3
            rw [f3] at e
            clear hf he' hz hd hx f3
            subst e
            have hsa := hide (show (⟨a.toArray⟩ : ByteArray) ++ ⟨#[92]⟩ ++ ⟨[hexd (c.toNat / 16), hexd (c.toNat % 16)].toArray⟩ = ⟨(a ++ [92, hexd (c.toNat / 16), hexd (c.toNat % 16)]).toArray⟩ by rw [str_snoc a [92], str_snoc]; simp)
            rw [hsa.out]
            simp only [List.drop_succ_cons, List.drop_zero]
            go_wp2_with fail
            go_roundg (s.size - (k + 1))
            case measure => omega
            case rel => exact ⟨k + 1, a ++ [92, hexd (c.toNat / 16), hexd (c.toNat % 16)], rfl, by go_num, by omega, by simp; omega, hL', hX.trans hX2⟩
      · have he : esc c = [c] := by unfold esc; rw [hp]; rfl
        rw [he] at hL'
        clear he
        obtain ⟨h1, h2, h3, h4⟩ := is_plain hp
        have t1 : decide ((s[k].toNat : Int) < 32) = false := by rw [decide_eq_false_iff_not]; omega
        have t2 : decide ((126 : Int) < s[k].toNat) = false := by rw [decide_eq_false_iff_not]; omega
        have t3 : ((s[k].toNat : Int) == 39) = false := by rw [beq_eq_false_iff_ne]; omega
        have t4 : ((s[k].toNat : Int) == 92) = false := by rw [beq_eq_false_iff_ne]; omega
        clear hp hL h1 h2 h3 h4
        have hsa := hide (str_snoc a [c])
        replace hcu := hide hcu
        clear hc
        go_wp2_with (rw [conv_one c _ _ _ (by rw [hcu.out])]; simp only [Result.andThen, Oper.upon_value])
        go_roundg (s.size - (k + 1))
        case measure => omega
        case rel => exact ⟨k + 1, a ++ [c], by rw [← hsa.out], by go_num, by omega, by simp; omega, hL', hX.alloc _⟩
    · have hge : (s.size : Int) ≤ k := by omega
      have hk' : k = s.size := by omega
      have hL' := hide (show a ++ [39] = showB s.data.toList by rw [hL.out, hk', List.take_of_length_le (by rw [Array.length_toList]; exact Nat.le_refl _)]; rfl)
      have hsa := hide (str_snoc a [39])
      replace hk' := hide hk'
      go_wp2_with fail
      go_returns
      rw [← hL'.out, ← hsa.out]
      exact ⟨rfl, hXw.out.trans hX⟩
end Go.Proofs.YthidjngipkelcaaDoor
set_option linter.unusedVariables false
set_option linter.unusedSimpArgs false
namespace Go.Proofs.YthidjngipkelcaaDoor
open Go.RowKit
attribute [local go_sem] GW.cell GW.frozen In.eq_true In.le_true In.ne In.ne' In.ne_add In.ne_add' In.lt_add Upto.le_true Upto.le_add Upto.lt_add
/-- The byte that the document reads first, and how many bytes that takes. -/
def pairC (x y : UInt8) : UInt8 × Nat := match hexAt x, hexAt y with
  | some a, some b => (hexV a b, 3)
  | _, _ => (0, 0)
def cd : List UInt8 → UInt8 × Nat
  | [] => (0, 0)
  | c :: r => if c.toNat = 92 then (match r with
    | x :: y :: _ => pairC x y
    | _ => (0, 0)) else (c, 1)
/-- It is not what it should be. -/
def cdBad (p : UInt8 × Nat) : Bool := decide (p.2 = 0) || ((!plainB p.1) != decide (p.2 = 3))
theorem plain92 : plainB 92 = false := by decide +kernel
theorem cd_first1 (c : UInt8) (r : List UInt8) : first1 (c :: r) = if cdBad (cd (c :: r)) then none else some (cd (c :: r)) := by
  rw [first1_cons]
  by_cases h92 : c.toNat = 92
  · have hc : c = 92 := by apply UInt8.toNat_inj.1; rw [h92]; rfl
    subst hc
    rw [plain92, if_neg (by decide), if_pos h92]
    have e : cd (92 :: r) = (match r with
      | x :: y :: _ => pairC x y
      | _ => (0, 0)) := by rcases r with _ | ⟨x, _ | ⟨y, q⟩⟩ <;> rfl
    rw [e]
    rcases r with _ | ⟨x, _ | ⟨y, q⟩⟩
    · rfl
    · rfl
    · simp only
      cases hx : hexAt x with
      | none => simp [pair1, pairC, hx, cdBad]
      | some a =>
        cases hy : hexAt y with
        | none => simp [pair1, pairC, hx, hy, cdBad]
        | some b =>
          rw [pair1_cons x y q hx hy]
          have e : pairC x y = (hexV a b, 3) := by unfold pairC; rw [hx, hy]
          rw [e]
          cases hp : plainB (hexV a b) <;> simp [cdBad, hp]
  · have e : cd (c :: r) = (c, 1) := if_neg h92
    rw [e, if_neg h92]
    cases hp : plainB c <;> simp [cdBad, hp]
theorem hex_at_i (n : Nat) (h : n < 16) (w : World) : (Instr.index 9 (.string ⟨#[48, 49, 50, 51, 52, 53, 54, 55, 56, 57, 97, 98, 99, 100, 101, 102]⟩) (.int .i64 (n : Int))).run Tryd.prog w = .ok (.int .u8 (hexd n).toNat) w := by
  rcases (by omega : n = 0 ∨ n = 1 ∨ n = 2 ∨ n = 3 ∨ n = 4 ∨ n = 5 ∨ n = 6 ∨ n = 7 ∨ n = 8 ∨ n = 9 ∨ n = 10 ∨ n = 11 ∨ n = 12 ∨ n = 13 ∨ n = 14 ∨ n = 15) with rfl | rfl | rfl | rfl | rfl | rfl | rfl | rfl | rfl | rfl | rfl | rfl | rfl | rfl | rfl | rfl <;> kernel_rfl
theorem u8_beq (a b : UInt8) : ((a.toNat : Int) == (b.toNat : Int)) = decide (a = b) := by
  by_cases h : a = b
  · subst h; simp
  · rw [decide_eq_false h, beq_eq_false_iff_ne]
    intro e
    exact h (UInt8.toNat_inj.1 (by omega))
theorem drop_lt {s : ByteArray} {k : Nat} (h : k < s.size) : s.data.toList.drop k = s[k] :: s.data.toList.drop (k + 1) := by
  have : k < s.data.toList.length := by rw [Array.length_toList]; exact h
  rw [List.drop_eq_getElem_cons this]; rfl
theorem cd_range (l : List UInt8) : (cd l).2 = 0 ∨ (cd l).2 = 1 ∨ (cd l).2 = 3 := by
  rcases l with _ | ⟨c, r⟩
  · exact .inl rfl
  · by_cases h : c.toNat = 92
    · have e : cd (c :: r) = (match r with
        | x :: y :: _ => pairC x y
        | _ => (0, 0)) := if_pos h
      rw [e]
      rcases r with _ | ⟨x, _ | ⟨y, q⟩⟩
      · exact .inl rfl
      · exact .inl rfl
      · simp only [pairC]
        split
        · exact .inr (.inr rfl)
        · exact .inl rfl
    · have e : cd (c :: r) = (c, 1) := if_neg h
      rw [e]; exact .inr (.inl rfl)
abbrev zO : Obj := .cells #[.int .i64 0, .int .i64 0, .string ⟨#[]⟩] 58
theorem odd_facts (d : UInt8) : (plainB d = true ∧ ¬ d.toNat < 32 ∧ ¬ 126 < d.toNat ∧ d.toNat ≠ 39 ∧ d.toNat ≠ 92) ∨ (plainB d = false ∧ (d.toNat < 32 ∨ (¬ d.toNat < 32 ∧ 126 < d.toNat) ∨ (¬ d.toNat < 32 ∧ ¬ 126 < d.toNat ∧ d.toNat = 39) ∨ (¬ d.toNat < 32 ∧ ¬ 126 < d.toNat ∧ d.toNat ≠ 39 ∧ d.toNat = 92))) := by
  cases h : plainB d
  · exact .inr ⟨rfl, not_plain h⟩
  · exact .inl ⟨rfl, is_plain h⟩
theorem refOdd (d : UInt8) : (decide ((d.toNat : Int) < 32) || decide ((126 : Int) < d.toNat) || ((d.toNat : Int) == 39) || ((d.toNat : Int) == 92)) = !plainB d := by
  rcases odd_facts d with ⟨h, h1, h2, h3, h4⟩ | ⟨h, hh⟩
  · rw [h]
    have t1 : decide ((d.toNat : Int) < 32) = false := by rw [decide_eq_false_iff_not]; omega
    have t2 : decide ((126 : Int) < d.toNat) = false := by rw [decide_eq_false_iff_not]; omega
    have t3 : ((d.toNat : Int) == 39) = false := by rw [beq_eq_false_iff_ne]; omega
    have t4 : ((d.toNat : Int) == 92) = false := by rw [beq_eq_false_iff_ne]; omega
    rw [t1, t2, t3, t4]; rfl
  · rw [h]
    rcases hh with h1 | ⟨_, h2⟩ | ⟨_, _, h3⟩ | ⟨_, _, _, h4⟩
    · have t1 : decide ((d.toNat : Int) < 32) = true := by rw [decide_eq_true_iff]; omega
      rw [t1]; simp
    · have t2 : decide ((126 : Int) < d.toNat) = true := by rw [decide_eq_true_iff]; omega
      rw [t2]; simp
    · have t3 : ((d.toNat : Int) == 39) = true := by rw [beq_iff_eq]; omega
      rw [t3]; simp
    · have t4 : ((d.toNat : Int) == 92) = true := by rw [beq_iff_eq]; omega
      rw [t4]; simp
-- (valj.py writes what follows)
theorem odd_ways (d : UInt8) : (plainB d = true ∧ decide ((d.toNat : Int) < 32) = false ∧ decide ((126 : Int) < d.toNat) = false ∧ ((d.toNat : Int) == 39) = false ∧ ((d.toNat : Int) == 92) = false) ∨
    (plainB d = false ∧ decide ((d.toNat : Int) < 32) = true) ∨
    (plainB d = false ∧ decide ((d.toNat : Int) < 32) = false ∧ decide ((126 : Int) < d.toNat) = true) ∨
    (plainB d = false ∧ decide ((d.toNat : Int) < 32) = false ∧ decide ((126 : Int) < d.toNat) = false ∧ ((d.toNat : Int) == 39) = true) ∨
    (plainB d = false ∧ decide ((d.toNat : Int) < 32) = false ∧ decide ((126 : Int) < d.toNat) = false ∧ ((d.toNat : Int) == 39) = false ∧ ((d.toNat : Int) == 92) = true) := by
  simp only [decide_eq_false_iff_not, decide_eq_true_iff, beq_eq_false_iff_ne, beq_iff_eq]
  rcases odd_facts d with ⟨h, h1, h2, h3, h4⟩ | ⟨h, hh⟩
  · left; exact ⟨h, by omega, by omega, by omega, by omega⟩
  · right
    rcases hh with h1 | ⟨h1, h2⟩ | ⟨h1, h2, h3⟩ | ⟨h1, h2, h3, h4⟩
    · left; exact ⟨h, by omega⟩
    · right; left; exact ⟨h, by omega, by omega⟩
    · right; right; left; exact ⟨h, by omega, by omega, by omega⟩
    · right; right; right; exact ⟨h, by omega, by omega, by omega, by omega⟩
end Go.Proofs.YthidjngipkelcaaDoor
set_option linter.unusedVariables false
set_option linter.unusedSimpArgs false
namespace Go.Proofs.YthidjngipkelcaaDoor
open Go.RowKit
attribute [local go_sem] GW.cell GW.frozen In.eq_true In.le_true In.ne In.ne' In.ne_add In.ne_add' In.lt_add Upto.le_true Upto.le_add Upto.lt_add
set_option maxHeartbeats 1000000 in
set_option maxRecDepth 100000 in
theorem vrefShow_c (k n : Int) (s : ByteArray) (hn : -9223372036854775808 ≤ n ∧ n ≤ 9223372036854775807) (w : World) : Calls Tryd.prog 55 #[val k n s] w fun e w' => e = .returned (.string ⟨(showV (k, n, s)).toArray⟩) ∧ Ext w w' := by
  rcases may_cases (k := k) (n := n) (s := s) with ⟨rfl, h⟩ | ⟨rfl, rfl, h⟩ | ⟨hm, h⟩
  · rw [showV_num h]
    have h1 := hide (fun w => refMay_c 1 n s w)
    rw [may_num h] at h1
    have hc := hide (fun w => refShow_c n hn w)
    clear h hn
    go_enter Tryd.func55, Tryd.ntmps55
    go_wp2_with (first | (go_at_call 68; (with_reducible refine seq_gw (h1.out _) ?_); intro g) | (go_at_call 26; (with_reducible refine seq_gw' (hc.out _) ?_); intro g2))
    go_returns
    exact ⟨rfl, ((Ext.refl w).alloc _).trans g2.grown⟩
  · rw [showV_text h]
    exact refShowT_c s h w
  · rw [showV_no hm]
    have h1 := hide (fun w => refMay_c k n s w)
    rw [hm] at h1
    clear h hn hm
    go_enter Tryd.func55, Tryd.ntmps55
    go_wp2_with (go_at_call 68; (with_reducible refine seq_gw (h1.out _) ?_); intro g)
    go_returns
    exact ⟨rfl, ((Ext.refl w).alloc _).trans g.grown⟩
theorem read_itoa {n : Int} (hn : -9223372036854775808 ≤ n ∧ n ≤ 9223372036854775807) : readE (Lib.itoa n) = 0 ∧ readV (Lib.itoa n) = n := by
  obtain ⟨f1, f2⟩ := itoa_form n
  have e1 : readE (Lib.itoa n) = 0 := by unfold readE; rw [f1, f2, inR_yes hn]; rfl
  exact ⟨e1, by unfold readV; rw [if_pos e1, f2]⟩
theorem numF_head {l : List UInt8} (h : numF l = true) : l.head? ≠ some 39 := by
  rcases l with _ | ⟨c, r⟩
  · simp
  · intro e
    simp at e
    subst e
    have hb : bodyD (39 :: r) = 39 :: r := by unfold bodyD; rw [show isNeg (39 :: r) = false by rfl]; rfl
    have : numF (39 :: r) = false := by
      unfold numF
      rw [hb]
      have : digsB (39 :: r) = false := by unfold digsB; simp; intro h0; exact absurd h0 (by decide)
      rw [this]; simp
    rw [this] at h; cases h
theorem unqT_showB (t : List UInt8) : unqT (showB t) = some t := by
  have hl := showB_len t
  unfold unqT
  rw [hl, if_neg (by omega)]
  have hlast : (showB t).getD ((t.flatMap esc).length + 2 - 1) 0 = 39 := by
    unfold showB
    rw [show (t.flatMap esc).length + 2 - 1 = (t.flatMap esc).length + 1 by omega, List.getD_eq_getElem?_getD, List.getElem?_cons_succ, List.getElem?_append_right (Nat.le_refl _)]
    simp
  rw [hlast, if_pos (by decide)]
  have hmid : mid (showB t) = t.flatMap esc := by
    unfold mid
    rw [hl]
    unfold showB
    rw [List.drop_succ_cons, List.drop_zero, show (t.flatMap esc).length + 2 - 1 - 1 = (t.flatMap esc).length by omega, List.take_left]
  rw [hmid, unq_esc]
theorem pa_show {k n : Int} {s : ByteArray} (hn : -9223372036854775808 ≤ n ∧ n ≤ 9223372036854775807) (h : mayB k n s = true) : paE (showV (k, n, s)) = 0 ∧ paV (showV (k, n, s)) = (k, n, s) := by
  rcases may_cases (k := k) (n := n) (s := s) with ⟨rfl, h'⟩ | ⟨rfl, rfl, h'⟩ | ⟨hm, _⟩
  · rw [showV_num h']
    obtain ⟨e1, e2⟩ := read_itoa hn
    have hh := numF_head (itoa_form n).1
    refine ⟨?_, ?_⟩
    · unfold paE; rw [if_neg hh, e1]
    · unfold paV; rw [if_neg hh, if_pos e1, e2, empty_of h']
  · rw [showV_text h']
    have hh : (showB s.data.toList).head? = some 39 := rfl
    have hlen : s.data.toList.length ≤ 64 := by rw [size_lst]; exact h'
    refine ⟨?_, ?_⟩
    · unfold paE; rw [if_pos hh, unqT_showB]; unfold ptE; simp only; rw [if_pos hlen]
    · unfold paV; rw [if_pos hh, unqT_showB]; unfold ptV; simp only; rw [if_pos hlen]
  · rw [h] at hm; cases hm
theorem pa_nil : paE [] = 4 := by unfold paE; rw [if_neg (by simp)]; decide +kernel
theorem unqT_some {l t : List UInt8} (hh : l.head? = some 39) (h : unqT l = some t) : l = showB t := by
  unfold unqT at h
  by_cases h2 : l.length < 2
  · rw [if_pos h2] at h; cases h
  · rw [if_neg h2] at h
    by_cases h9 : (l.getD (l.length - 1) 0).toNat = 39
    · rw [if_pos h9] at h
      have hm := unq_some _ _ _ (Nat.le_refl _) h
      rcases l with _ | ⟨c, r⟩
      · cases hh
      · simp at hh
        subst hh
        unfold showB
        congr 1
        have hl9 : r.getD (r.length - 1) 0 = 39 := by
          apply UInt8.toNat_inj.1
          simp only [List.length_cons] at h9 h2
          rw [show r.length + 1 - 1 = (r.length - 1) + 1 by omega, List.getD_cons_succ] at h9
          rw [h9]; rfl
        rw [← hm]
        unfold mid
        simp only [List.length_cons, List.drop_succ_cons, List.drop_zero, Nat.add_sub_cancel] at h2 ⊢
        have hne : r.length - 1 < r.length := by omega
        rw [List.getD_eq_getElem?_getD, List.getElem?_eq_getElem hne] at hl9
        have := List.take_append_drop (r.length - 1) r
        rw [List.drop_eq_getElem_cons hne] at this
        rw [show r.length - 1 + 1 = r.length by omega, List.drop_length] at this
        simp only [Option.getD_some] at hl9
        rw [hl9] at this
        exact this.symm
    · rw [if_neg h9] at h; cases h
theorem readE_zero {l : List UInt8} (h : readE l = 0) : numF l = true ∧ inR (readVal l) = true ∧ readV l = readVal l := by
  have hF : numF l = true := by
    cases h1 : numF l
    · unfold readE at h; rw [h1] at h; simp at h
    · rfl
  refine ⟨hF, ?_, by unfold readV; rw [if_pos h]⟩
  cases h2 : inR (readVal l)
  · unfold readE at h; rw [hF, h2] at h; exact absurd h (by decide)
  · rfl
/-- What is read is a value, and is written as it was. -/
theorem show_pa {l : List UInt8} (h : paE l = 0) : showV (paV l) = l ∧ (-9223372036854775808 ≤ (paV l).2.1 ∧ (paV l).2.1 ≤ 9223372036854775807) := by
  unfold paE at h
  unfold paV
  by_cases hh : l.head? = some 39
  · rw [if_pos hh] at h ⊢
    cases hu : unqT l with
    | none => rw [hu] at h; exact absurd h (by decide)
    | some t =>
      rw [hu] at h
      unfold ptE at h
      simp only at h
      by_cases h64 : t.length ≤ 64
      · unfold ptV
        simp only
        rw [if_pos h64, showV_text (by show t.toArray.size ≤ 64; simpa using h64)]
        exact ⟨(unqT_some hh hu).symm, by show (-9223372036854775808 : Int) ≤ 0 ∧ (0 : Int) ≤ 9223372036854775807; decide⟩
      · rw [if_neg h64] at h; exact absurd h (by decide)
  · rw [if_neg hh] at h ⊢
    rw [if_pos h, showV_num rfl]
    obtain ⟨h1, h2, h3⟩ := readE_zero h
    refine ⟨?_, ?_⟩
    · rw [h3]; exact itoa_of h1
    · simp only; rw [h3]; exact inR_iff.1 h2
theorem paV_in (l : List UInt8) : -9223372036854775808 ≤ (paV l).2.1 ∧ (paV l).2.1 ≤ 9223372036854775807 := by
  by_cases h : paE l = 0
  · exact (show_pa h).2
  · have : (paV l).2.1 = 0 := by
      unfold paE at h
      unfold paV
      split
      · rename_i hh
        rw [if_pos hh] at h
        cases hu : unqT l with
        | none => rfl
        | some t => unfold ptV; simp only; split <;> rfl
      · rename_i hh
        rw [if_neg hh] at h
        rw [if_neg h]
    rw [this]; decide
end Go.Proofs.YthidjngipkelcaaDoor
