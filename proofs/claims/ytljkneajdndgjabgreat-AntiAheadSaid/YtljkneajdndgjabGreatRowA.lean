/-
  A helper of ours: no claim of its own. Layer 6 (row): what a row is, on both sides.
-/
import Derived.Test.YtljkneajdndgjabGreatValS
import Derived.Lib.IndexBytes
import Derived.WalkSpells
import Derived.Handy
import Derived.Deep.LoopGhost
import Derived.BigQuiet
set_option linter.unusedVariables false
set_option linter.unusedSimpArgs false
namespace Go.Proofs.YtljkneajdndgjabGreat
open Go.RowKit
/-- A value's three cells. -/
def vc (a : Vl) : List Value := [.int .i64 a.1, .int .i64 a.2.1, .string a.2.2]
/-- A row's cells. -/
def rc (l : List Vl) : List Value := l.flatMap vc
theorem rc_length (l : List Vl) : (rc l).length = l.length * 3 := by
  induction l with
  | nil => rfl
  | cons p r ih => simp only [rc, vc, List.flatMap_cons, List.length_append, List.length_cons, List.length_nil] at ih ⊢; omega
theorem rc_append (l m : List Vl) : rc (l ++ m) = rc l ++ rc m := by simp [rc]
theorem rc_one (l : List Vl) : ∀ u ∈ rc l, u.oneCell' = true := by
  intro u hu
  simp only [rc, List.mem_flatMap, vc] at hu
  obtain ⟨a, _, hu⟩ := hu
  simp at hu
  rcases hu with rfl | rfl | rfl <;> rfl
theorem rc_get : ∀ (l : List Vl) (i : Nat) (a : Vl), l[i]? = some a → ∀ j v, (vc a)[j]? = some v → (rc l)[i * 3 + j]? = some v
  | q :: r, 0, a, h, j, v, hv => by
    simp at h; subst h
    have hj : j < (vc q).length := (List.getElem?_eq_some_iff.1 hv).1
    simp only [rc, List.flatMap_cons]
    rw [List.getElem?_append_left (by omega), show 0 * 3 + j = j by omega]; exact hv
  | q :: r, i + 1, a, h, j, v, hv => by
    have := rc_get r i a (by simpa using h) j v hv
    rw [show (i + 1) * 3 + j = i * 3 + j + 1 + 1 + 1 by omega]
    simpa [rc, vc] using this
abbrev inI (n : Int) : Prop := -9223372036854775808 ≤ n ∧ n ≤ 9223372036854775807
/-- A row, where it lies. -/
abbrev Rw (w : World) (S : List Nat) (v : Value) (l : List Vl) : Prop := Sl w S 3 v l.length (rc l)
abbrev OwnR (w : World) (base : Nat) (v : Value) (l : List Vl) : Prop := w.ownsRow base 53 3 v l.length (rc l)
/-- Is it a row? -/
def mayR (l : List Vl) : Bool := decide (l.length ≤ 8) && l.all may
theorem mayR_iff {l : List Vl} : mayR l = true ↔ l.length ≤ 8 ∧ ∀ a ∈ l, may a = true := by
  unfold mayR; rw [Bool.and_eq_true, decide_eq_true_iff, List.all_eq_true]
/-- The first values that differ, else the lengths. -/
def cmpT : List Vl → List Vl → Int
  | [], [] => 0
  | [], _ :: _ => -1
  | _ :: _, [] => 1
  | x :: a, y :: b => if x = y then cmpT a b else cmpV x y
def cmpR (a b : List Vl) : Int := if mayR a && mayR b then cmpT a b else 0
theorem cmpT_swap : ∀ a b : List Vl, cmpT b a = - cmpT a b
  | [], [] => rfl
  | [], _ :: _ => rfl
  | _ :: _, [] => rfl
  | x :: a, y :: b => by
    simp only [cmpT]
    by_cases h : x = y
    · subst h; rw [if_pos rfl, if_pos rfl]; exact cmpT_swap a b
    · rw [if_neg h, if_neg (Ne.symm h)]; exact cmpV_swap x y
theorem cmpT_range : ∀ a b : List Vl, cmpT a b = -1 ∨ cmpT a b = 0 ∨ cmpT a b = 1
  | [], [] => .inr (.inl rfl)
  | [], _ :: _ => .inl rfl
  | _ :: _, [] => .inr (.inr rfl)
  | x :: a, y :: b => by
    simp only [cmpT]
    split
    · exact cmpT_range a b
    · exact cmpV_range x y
theorem cmpT_zero : ∀ a b : List Vl, (∀ x ∈ a, may x = true) → (∀ x ∈ b, may x = true) → (cmpT a b = 0 ↔ a = b)
  | [], [], _, _ => by simp [cmpT]
  | [], _ :: _, _, _ => by simp [cmpT]
  | _ :: _, [], _, _ => by simp [cmpT]
  | x :: a, y :: b, ha, hb => by
    simp only [cmpT]
    by_cases h : x = y
    · subst h; rw [if_pos rfl, cmpT_zero a b (fun z hz => ha z (by simp [hz])) (fun z hz => hb z (by simp [hz]))]; simp
    · rw [if_neg h, cmpV_zero (ha x (by simp)) (hb y (by simp))]; simp [h]
theorem cmpT_trans : ∀ a b c : List Vl, (∀ x ∈ a, may x = true) → (∀ x ∈ b, may x = true) → (∀ x ∈ c, may x = true) → cmpT a b ≤ 0 → cmpT b c ≤ 0 → cmpT a c = min (cmpT a b) (cmpT b c)
  | [], [], c, _, _, _, _, h => by rw [show cmpT [] [] = 0 from rfl]; omega
  | [], y :: b, [], _, _, _, _, h => by simp [cmpT] at h
  | [], y :: b, z :: c, _, _, _, _, h => by
    have e1 : cmpT [] (y :: b) = -1 := rfl
    have e2 : cmpT [] (z :: c) = -1 := rfl
    rw [e1, e2]; rcases cmpT_range (y :: b) (z :: c) with e | e | e <;> omega
  | x :: a, [], c, _, _, _, h, _ => by simp [cmpT] at h
  | x :: a, y :: b, [], _, _, _, _, h => by simp [cmpT] at h
  | x :: a, y :: b, z :: c, ha, hb, hc, h, k => by
    have hx := ha x (by simp)
    have hy := hb y (by simp)
    have hz := hc z (by simp)
    simp only [cmpT] at h k ⊢
    by_cases h1 : x = y
    · subst h1
      rw [if_pos rfl] at h ⊢
      by_cases k1 : x = z
      · subst k1
        rw [if_pos rfl] at k ⊢
        rw [if_pos rfl]
        exact cmpT_trans a b c (fun z hz => ha z (by simp [hz])) (fun z hz => hb z (by simp [hz])) (fun z hz => hc z (by simp [hz])) h k
      · rw [if_neg k1] at k ⊢
        rw [if_neg k1]
        have h0 := mt (cmpV_zero hx hz).1 k1
        rcases cmpV_range x z with e | e | e <;> rcases cmpT_range a b with f | f | f <;> omega
    · rw [if_neg h1] at h ⊢
      have h0 := mt (cmpV_zero hx hy).1 h1
      by_cases k1 : y = z
      · subst k1
        rw [if_neg h1]
        rw [if_pos rfl] at k ⊢
        rcases cmpV_range x y with e | e | e <;> rcases cmpT_range b c with f | f | f <;> omega
      · rw [if_neg k1] at k ⊢
        have k0 := mt (cmpV_zero hy hz).1 k1
        have ht := cmpV_trans hx hy hz h k
        have hxz : x ≠ z := by
          rintro rfl
          have h2 := (cmpV_zero hx hx).2 rfl
          rcases cmpV_range x y with e | e | e <;> rcases cmpV_range y x with f | f | f <;> omega
        rw [if_neg hxz]
        exact ht
end Go.Proofs.YtljkneajdndgjabGreat
set_option linter.unusedVariables false
set_option linter.unusedSimpArgs false
namespace Go.Proofs.YtljkneajdndgjabGreat
open Go.RowKit
attribute [local go_sem] GW.cell GW.frozen In.eq_true In.le_true In.ne In.ne' In.ne_add In.ne_add' In.lt_add Upto.le_true Upto.le_add Upto.lt_add
/-- A value: its kind, its number, its text. -/
abbrev val (k n : Int) (s : ByteArray) : Value := .agg #[.int .i64 k, .int .i64 n, .string s]
theorem empty_yes {s : ByteArray} (h : s.size = 0) : s.toList.isEmpty = true := by rw [Lib.toList_data]; rw [List.isEmpty_iff]; exact List.eq_nil_of_length_eq_zero (by rw [Array.length_toList]; exact h)
theorem empty_no {s : ByteArray} (h : s.size ≠ 0) : s.toList.isEmpty = false := by
  cases e : s.toList.isEmpty with
  | false => rfl
  | true => rw [Lib.toList_data, List.isEmpty_iff] at e; exact absurd (by have := congrArg List.length e; rw [Array.length_toList] at this; exact this) h

theorem may_num {n : Int} {s : ByteArray} (h : s.size = 0) : mayB 1 n s = true := by simp [mayB, h]
theorem may_text {s : ByteArray} (h : s.size ≤ 64) : mayB 2 0 s = true := by simp [mayB, h]
theorem may_cases {k n : Int} {s : ByteArray} : (k = 1 ∧ s.size = 0) ∨ (k = 2 ∧ n = 0 ∧ s.size ≤ 64) ∨ (mayB k n s = false ∧ ((k = 1 ∧ s.size ≠ 0) ∨ (k ≠ 1 ∧ k ≠ 2) ∨ (k = 2 ∧ n ≠ 0) ∨ (k = 2 ∧ n = 0 ∧ 64 < s.size))) := by
  by_cases h : mayB k n s = true
  · unfold mayB at h; rw [Bool.or_eq_true, decide_eq_true_iff, decide_eq_true_iff] at h; rcases h with h | h
    · exact .inl h
    · exact .inr (.inl h)
  · have h' : mayB k n s = false := by simpa using h
    refine .inr (.inr ⟨h', ?_⟩)
    unfold mayB at h'
    rw [Bool.or_eq_false_iff, decide_eq_false_iff_not, decide_eq_false_iff_not] at h'
    omega
set_option maxHeartbeats 1000000 in
theorem inner_num (n : Int) (s : ByteArray) (hs : s.size = 0) (w : World) : Calls Tryz.prog 165 #[val 1 n s] w fun e w' => e = .returned (.tuple #[.iface 211 (.int .i64 n), .bool true]) ∧ Ext w w' := by
  have he := empty_yes hs
  go_enter Tryz.func165, Tryz.ntmps165
  go_wp2_with fail
  go_returns
  exact ⟨rfl, (Ext.refl w).alloc _⟩
set_option maxHeartbeats 1000000 in
theorem inner_text (s : ByteArray) (hs : s.size ≤ 64) (w : World) : Calls Tryz.prog 165 #[val 2 0 s] w fun e w' => e = .returned (.tuple #[.iface 212 (.string s), .bool true]) ∧ Ext w w' := by
  have hi : (s.size : Int) ≤ 64 := by omega
  go_enter Tryz.func165, Tryz.ntmps165
  go_wp2_with fail
  go_returns
  exact ⟨rfl, (Ext.refl w).alloc _⟩
set_option maxHeartbeats 1000000 in
theorem inner_none (k n : Int) (s : ByteArray) (h : (k = 1 ∧ s.size ≠ 0) ∨ (k ≠ 1 ∧ k ≠ 2) ∨ (k = 2 ∧ n ≠ 0) ∨ (k = 2 ∧ n = 0 ∧ 64 < s.size)) (w : World) : Calls Tryz.prog 165 #[val k n s] w fun e w' => e = .returned (.tuple #[.nilIface, .bool false]) ∧ Ext w w' := by
  rcases h with ⟨rfl, h⟩ | ⟨h1, h2⟩ | ⟨rfl, h⟩ | ⟨rfl, rfl, h⟩
  · have he := empty_no h
    go_enter Tryz.func165, Tryz.ntmps165
    go_wp2_with fail
    go_returns
    exact ⟨rfl, (Ext.refl w).alloc _⟩
  · have e1 : (k == 1) = false := by simpa using h1
    have e2 : (k == 2) = false := by simpa using h2
    go_enter Tryz.func165, Tryz.ntmps165
    go_wp2_with fail
    go_returns
    exact ⟨rfl, (Ext.refl w).alloc _⟩
  · have e1 : (n == 0) = false := by simpa using h
    go_enter Tryz.func165, Tryz.ntmps165
    go_wp2_with fail
    go_returns
    exact ⟨rfl, (Ext.refl w).alloc _⟩
  · have hi : (64 : Int) < (s.size : Int) := by omega
    go_enter Tryz.func165, Tryz.ntmps165
    go_wp2_with fail
    go_returns
    exact ⟨rfl, (Ext.refl w).alloc _⟩
set_option maxHeartbeats 1000000 in
theorem may_c (k n : Int) (s : ByteArray) (w : World) : Calls Tryz.prog 134 #[val k n s] w fun e w' => e = .returned (.bool (mayB k n s)) ∧ Ext w w' := by
  rcases may_cases (k := k) (n := n) (s := s) with ⟨rfl, h⟩ | ⟨rfl, rfl, h⟩ | ⟨hm, h⟩
  · rw [may_num h]
    have hi := hide (fun w => inner_num n s h w)
    clear h
    go_enter Tryz.func134, Tryz.ntmps134
    go_wp2_with (go_at_call 165; refine seq_gw (hi.out _) ?_; intro g)
    go_returns
    exact ⟨rfl, ((Ext.refl w).alloc _).trans g.grown⟩
  · rw [may_text h]
    have hi := hide (fun w => inner_text s h w)
    clear h
    go_enter Tryz.func134, Tryz.ntmps134
    go_wp2_with (go_at_call 165; refine seq_gw (hi.out _) ?_; intro g)
    go_returns
    exact ⟨rfl, ((Ext.refl w).alloc _).trans g.grown⟩
  · rw [hm]
    have hi := hide (fun w => inner_none k n s h w)
    clear h hm
    go_enter Tryz.func134, Tryz.ntmps134
    go_wp2_with (go_at_call 165; refine seq_gw (hi.out _) ?_; intro g)
    go_returns
    exact ⟨rfl, ((Ext.refl w).alloc _).trans g.grown⟩
theorem vnum_c (n : Int) (w : World) : Calls Tryz.prog 226 #[.int .i64 n] w fun e w' => e = .returned (val 1 n ⟨#[]⟩) ∧ Ext w w' := by
  go_enter Tryz.func226, Tryz.ntmps226
  go_wp2_with fail
  go_returns
  exact ⟨rfl, (Ext.refl w).alloc _⟩
theorem vtext_ok (s : ByteArray) (hs : s.size ≤ 64) (w : World) : Calls Tryz.prog 229 #[.string s] w fun e w' => e = .returned (.tuple #[val 2 0 s, .int .i64 0]) ∧ Ext w w' := by
  have hi : (s.size : Int) ≤ 64 := by omega
  go_enter Tryz.func229, Tryz.ntmps229
  go_wp2_with fail
  go_returns
  exact ⟨rfl, (Ext.refl w).alloc _⟩
end Go.Proofs.YtljkneajdndgjabGreat
set_option linter.unusedVariables false
set_option linter.unusedSimpArgs false
namespace Go.Proofs.YtljkneajdndgjabGreat
open Go.RowKit
attribute [local go_sem] GW.cell GW.frozen In.eq_true In.le_true In.ne In.ne' In.ne_add In.ne_add' In.lt_add Upto.le_true Upto.le_add Upto.lt_add
theorem rw_form {w : World} {S : List Nat} {v : Value} {l : List Vl} (h : Rw w S v l) : ∃ A cap, v = .slice A l.length cap ∧ l.length ≤ cap ∧ cap ≤ maxLen ∧
    ∀ (i : Nat) (x : Vl), l[i]? = some x → ∃ b o, A = some ⟨b, o, none⟩ ∧ b ∉ S ∧ b < w.heap.size ∧ w.cell? ⟨b, o + i * 3, none⟩ = some (.int .i64 x.1) ∧ w.cell? ⟨b, o + i * 3 + 1, none⟩ = some (.int .i64 x.2.1) ∧ w.cell? ⟨b, o + i * 3 + 1 + 1, none⟩ = some (.string x.2.2) := by
  obtain ⟨A, cap, rfl, h1, h2, h3, h4⟩ := h
  refine ⟨A, cap, rfl, h1, h2, fun i x hx => ?_⟩
  have hg := rc_get l i x hx
  rcases h4 with h4 | ⟨b, o, rfl, hb, hc⟩
  · have := hg 0 _ rfl; rw [h4] at this; cases this
  · have c0 := hc _ _ (hg 0 _ rfl)
    have c1 := hc _ _ (hg 1 _ rfl)
    have c2 := hc _ _ (hg 2 _ rfl)
    exact ⟨b, o, rfl, hb, block_lt_of_cell c0, c0, c1, c2⟩
theorem cell_later {w wr : World} (h : Ext w wr) {b o : Nat} {u : Value} (hc : w.cell? ⟨b, o, none⟩ = some u) : wr.cell? ⟨b, o, none⟩ = some u :=
  (World.cell?_of_block (a := ⟨b, o, none⟩) (h.block b (block_lt_of_cell hc))).trans hc
/-- The first place from k on that holds no value, or -1. -/
def idxF : Nat → List Vl → Int
  | _, [] => -1
  | k, x :: r => if may x then idxF (k + 1) r else k
theorem idxF_ge : ∀ (k : Nat) (l : List Vl), decide ((0 : Int) ≤ idxF k l) = !l.all may
  | _, [] => rfl
  | k, x :: r => by
    rw [List.all_cons]
    by_cases h : may x = true
    · have e : idxF k (x :: r) = idxF (k + 1) r := if_pos h
      rw [e, h, Bool.true_and]; exact idxF_ge (k + 1) r
    · have e : idxF k (x :: r) = (k : Int) := if_neg h
      rw [Bool.not_eq_true] at h
      rw [e, h]; simp
theorem drop_cons {α : Type} {l : List α} {k : Nat} {x : α} (h : l[k]? = some x) : l.drop k = x :: l.drop (k + 1) := by
  have hk := (List.getElem?_eq_some_iff.1 h).1
  rw [List.drop_eq_getElem_cons hk]
  rw [List.getElem?_eq_getElem hk] at h
  rw [Option.some.inj h]
set_option maxHeartbeats 1000000 in
theorem isNone_c (x : Vl) (w : World) : Calls Tryz.prog 97 #[val x.1 x.2.1 x.2.2] w fun e w' => e = .returned (.bool (!may x)) ∧ Ext w w' := by
  have hm := hide (fun w => may_c x.1 x.2.1 x.2.2 w)
  have e : mayB x.1 x.2.1 x.2.2 = may x := rfl
  rw [e] at hm
  generalize may x = m at *
  obtain ⟨k, n, s⟩ := x
  clear e
  go_enter Tryz.func97, Tryz.ntmps97
  go_wp2_with (go_at_call 134; with_reducible refine seq_gw (hm.out _) ?_; intro g)
  go_returns
  exact ⟨rfl, ((Ext.refl w).alloc _).trans g.grown⟩
set_option maxHeartbeats 2000000 in
theorem indexFunc_c (l : List Vl) (v : Value) (w : World) (h : Rw w [] v l) : Calls Tryz.prog 133 #[v, .func (.func 97) #[] #[]] w fun e w' => e = .returned (.int .i64 (idxF 0 l)) ∧ Ext w w' := by
  obtain ⟨A, cap, rfl, hl, hm, hat⟩ := rw_form h
  unfold maxLen at hm
  replace hat := hide hat
  clear h
  obtain ⟨R, hR⟩ : ∃ R, R = idxF 0 l := ⟨_, rfl⟩
  rw [← hR]
  replace hR := hide hR
  go_enter Tryz.func133, Tryz.ntmps133
  go_wp2_with fail
  go_loopg [8] l.length (fun gh i wr => ∃ (k : Nat), i = .int .i64 k ∧ k + gh = l.length ∧ Hid (R = idxF k (l.drop k)) ∧ Ext w wr)
  case atStart => exact ⟨0, rfl, by omega, by simpa using hR, Ext.refl w⟩
  case round =>
    obtain ⟨k, rfl, hk, hRk, hX⟩ := hrel
    clear hR
    by_cases hlt : k < l.length
    · obtain ⟨x, hx⟩ : ∃ x, l[k]? = some x := ⟨_, List.getElem?_eq_getElem hlt⟩
      obtain ⟨b, o, rfl, -, hb, c0, c1, c2⟩ := hat.out k x hx
      have k0 := cell_later hX c0
      have k1 := cell_later hX c1
      have k2 := cell_later hX c2
      have hbr : b < wr.heap.size := block_lt_of_cell k0
      have hin := hide (fun w => isNone_c x w)
      have hR2 := hRk.out
      rw [drop_cons hx] at hR2
      simp only [idxF] at hR2
      replace hR2 := hide hR2
      obtain ⟨xk, xn, xs⟩ := x
      clear c0 c1 c2 hat hx
      cases hmx : may (xk, xn, xs)
      · rw [hmx] at hin hR2
        replace hmx := hide hmx
        go_wp2_with (go_at_call 97; (with_reducible refine seq_gw (hin.out _) ?_); intro g)
        go_returns
        exact ⟨by rw [hR2.out]; rfl, hX.trans g.grown⟩
      · rw [hmx] at hin hR2
        replace hmx := hide hmx
        go_wp2_with (go_at_call 97; (with_reducible refine seq_gw (hin.out _) ?_); intro g)
        go_roundg (l.length - (k + 1))
        case measure => omega
        case rel => exact ⟨k + 1, by go_num, by omega, hR2, hX.trans g.grown⟩
    · have hk' : k = l.length := by omega
      have hge : (l.length : Int) ≤ k := by omega
      have hR2 := hRk.out
      rw [hk', List.drop_length] at hR2
      replace hR2 := hide hR2
      replace hk' := hide hk'
      go_wp2_with fail
      go_returns
      exact ⟨by rw [hR2.out]; rfl, hX⟩
set_option maxHeartbeats 1000000 in
theorem containsFunc_c (l : List Vl) (v : Value) (w : World) (h : Rw w [] v l) : Calls Tryz.prog 96 #[v, .func (.func 97) #[] #[]] w fun e w' => e = .returned (.bool (!l.all may)) ∧ Ext w w' := by
  have hc := hide (indexFunc_c l v w h)
  have e := hide (idxF_ge 0 l)
  generalize idxF 0 l = z at *
  generalize l.all may = m at *
  clear h
  go_enter Tryz.func96, Tryz.ntmps96
  go_wp2_with (go_at_call 133; (with_reducible refine seq_gw hc.out ?_); intro g)
  go_returns
  exact ⟨by rw [← e.out]; rfl, g.grown⟩
set_option maxHeartbeats 1000000 in
theorem rowMay_c (l : List Vl) (v : Value) (w : World) (h : Rw w [] v l) : Calls Tryz.prog 53 #[v] w fun e w' => e = .returned (.bool (mayR l)) ∧ Ext w w' := by
  have hc := hide (containsFunc_c l v w h)
  obtain ⟨A, cap, rfl, hl, hm, -⟩ := rw_form h
  clear h
  by_cases h8 : l.length ≤ 8
  · have e : mayR l = l.all may := by unfold mayR; rw [decide_eq_true h8, Bool.true_and]
    rw [e]
    generalize l.all may = m at *
    have h8' : (l.length : Int) ≤ 8 := by omega
    clear e
    go_enter Tryz.func53, Tryz.ntmps53
    go_wp2_with (go_at_call 96; (with_reducible refine seq_gw hc.out ?_); intro g)
    go_returns
    exact ⟨by simp, g.grown⟩
  · have e : mayR l = false := by unfold mayR; rw [decide_eq_false h8, Bool.false_and]
    rw [e]
    have h8' : decide ((l.length : Int) ≤ 8) = false := by rw [decide_eq_false_iff_not]; omega
    clear e h8
    go_enter Tryz.func53, Tryz.ntmps53
    go_wp2_with fail
    go_returns
    exact ⟨rfl, Ext.refl w⟩
end Go.Proofs.YtljkneajdndgjabGreat
