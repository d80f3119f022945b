/-
  A helper of ours: no claim of its own. Layer 24 (multi): the document's multi, a list of copies.
-/
import Derived.Test.YtnneicdphlidhaaMulT
import Derived.Test.YtnneicdphlidhaaMulQ
set_option linter.unusedVariables false
set_option linter.unusedSimpArgs false
namespace Go.Proofs.Ytnneicdphlidhaa
open Go.RowKit
attribute [local go_sem] GW.cell GW.frozen In.eq_true In.le_true In.ne In.ne' In.ne_add In.ne_add' In.lt_add Upto.le_true Upto.le_add Upto.lt_add
def mzc (l : List Int) : List Value := l.map fun x => .int .i64 x
theorem mzc_append (l m : List Int) : mzc (l ++ m) = mzc l ++ mzc m := by simp [mzc]
abbrev OwI (w : World) (base : Nat) (v : Value) (l : List Int) : Prop := w.ownsRow base 3 1 v l.length (mzc l)
theorem owi_at {w : World} {B : Nat} {v : Value} {l : List Int} (h : OwI w B v l) : ∃ A cap, v = .slice A l.length cap ∧ l.length ≤ cap ∧ cap ≤ maxLen ∧ ∀ (i : Nat) (x : Int), l[i]? = some x → ∃ b o, A = some ⟨b, o, none⟩ ∧ b < w.heap.size ∧ w.cell? ⟨b, o + i, none⟩ = some (.int .i64 x) := by
  obtain ⟨A, cap, rfl, h1, h2, h3, h4⟩ := (Sl.own h (by simp) : Sl w [] 1 v l.length (mzc l))
  refine ⟨A, cap, rfl, h1, h2, fun i x hx => ?_⟩
  have hg : (mzc l)[i]? = some (.int .i64 x) := by simp [mzc, hx]
  rcases h4 with h4 | ⟨b, o, rfl, hb, hc⟩
  · rw [h4] at hg; cases hg
  · have c0 := hc _ _ hg
    exact ⟨b, o, rfl, block_lt_of_cell c0, c0⟩
theorem mtZ : ElemT Try.prog 28 3 (.int .i64 0) 1 8 := ElemT.mk' Try.underlying28 (by kernel_rfl) rfl (by omega)
theorem mown_appZ {w : World} {B : Nat} {v : Value} {l : List Int} {x : Int} (h : w.ownsRow B 3 1 v (l.length + 1) (mzc l ++ [.int .i64 x])) : OwI w B v (l ++ [x]) := by
  unfold OwI; rw [List.length_append, mzc_append]; exact h
theorem msrc_z {P : Program} {tx e' : TypeId} (hk : P.underlying tx = some (.slice e')) (w : World) (B : Nat) (hB : B = w.heap.size) (x : Int) (E : TypeId) : Src P 1 tx (.slice (some ⟨B, 0, none⟩) 1 1) 1 [.int .i64 x] (w.alloc (.cells #[.int .i64 x] E)) := by
  subst hB; exact src_one hk w (.int .i64 x) E rfl
/-- The document's multi, where it lies. -/
def Md (w : World) (B r : Nat) (xs : List Int) : Prop := ∃ v, Ob w r 30 [v] ∧ OwI w B v xs ∧ B ≤ r
theorem Md.ext {w w' : World} {B r : Nat} {xs : List Int} (h : Md w B r xs) (k : Ext w w') : Md w' B r xs := by
  obtain ⟨v, h1, h2, h3⟩ := h
  exact ⟨v, h1.ext k, own_ext h2 k, h3⟩
theorem mtake_snoc {l : List Int} {k : Nat} {x : Int} (h : l[k]? = some x) : l.take (k + 1) = l.take k ++ [x] := by rw [List.take_add_one, h]; rfl
theorem mzdrop {l : List Int} {k : Nat} {x : Int} (h : l[k]? = some x) : l.drop k = x :: l.drop (k + 1) := by
  obtain ⟨hk, e⟩ := List.getElem?_eq_some_iff.1 h
  rw [← e, ← List.getElem_cons_drop]
set_option maxHeartbeats 2000000 in
theorem refOf24_c (k : Int) (xs : List Int) (hn : xs.length ≤ 8192) (B r : Nat) (w : World) (h : Md w B r xs) : Calls Try.prog 18 #[.pointer (some ⟨r, 0, none⟩), .int .i64 k] w fun e w' => e = .returned (.int .i64 (cntZ k xs)) ∧ Ext w w' := by
  obtain ⟨v, ho, hw, hB⟩ := h
  obtain ⟨A, cap, rfl, hlc, hlm, hat⟩ := owi_at hw
  unfold maxLen at hlm
  replace hat := hide hat
  have q0 := ho.cell 0 rfl
  have hoh := hide ho
  clear hw ho
  go_enter Try.func18, Try.ntmps18
  go_wp2_with fail
  go_loopg [5, 6] xs.length (fun gh nv iv wr => ∃ (j : Nat), iv = .int .i64 j ∧ nv = .int .i64 (cntZ k (xs.take j)) ∧ j + gh = xs.length ∧ Ext w wr)
  case atStart => exact ⟨0, rfl, rfl, by omega, Ext.refl _⟩
  case round =>
    obtain ⟨j, rfl, rfl, hj, hX⟩ := hrel
    have p0 := (hoh.out.ext hX).cell 0 rfl
    have hcl := cntZ_le k (xs.take j)
    have htl : (xs.take j).length ≤ xs.length := by rw [List.length_take]; omega
    by_cases hlt : j < xs.length
    · obtain ⟨x, hx⟩ : ∃ x, xs[j]? = some x := ⟨_, List.getElem?_eq_getElem hlt⟩
      obtain ⟨b, o, rfl, hbl, c0⟩ := hat.out j x hx
      have k0 := mcell_later hX c0
      have hs : cntZ k (xs.take (j + 1)) = cntZ k (xs.take j) + (if x = k then 1 else 0) := by rw [mtake_snoc hx, cntZ_app]; simp [cntZ]
      have hjI : (j : Int) < xs.length := by omega
      obtain ⟨z, hz⟩ : ∃ z, cntZ k (xs.take j) = z := ⟨_, rfl⟩
      rw [hz] at hs hcl ⊢
      by_cases hxk : x = k
      · rw [if_pos hxk] at hs
        have hd : (x == k) = true := by simp [hxk]
        replace hs := hide hs
        replace hxk := hide hxk
        clear c0 hz
        go_wp2_with fail
        go_roundg (xs.length - (j + 1))
        case measure => omega
        case rel => exact ⟨j + 1, by go_num, by rw [hs.out], by omega, hX⟩
      · rw [if_neg hxk] at hs
        have hd : (x == k) = false := by simp [hxk]
        replace hs := hide hs
        replace hxk := hide hxk
        clear c0 hz
        go_wp2_with fail
        go_roundg (xs.length - (j + 1))
        case measure => omega
        case rel => exact ⟨j + 1, by go_num, by rw [hs.out, Int.add_zero], by omega, hX⟩
    · have hge : (xs.length : Int) ≤ j := by omega
      rw [List.take_of_length_le (by omega)]
      clear hcl htl
      go_wp2_with fail
      go_returns
      exact ⟨rfl, hX⟩
/-- What is wrong with a Put, by the document. -/
def chkZ (k n : Int) (xs : List Int) : Int := if n > 1048576 ∨ n < -1048576 then 2 else if cntZ k xs + n < 0 then 20 else if (xs.length : Int) + n > 1048576 then 7 else 0
set_option maxHeartbeats 2000000 in
theorem refCheck24_c (k n : Int) (xs : List Int) (hn : xs.length ≤ 8192) (B r : Nat) (w : World) (h : Md w B r xs) : Calls Try.prog 11 #[.pointer (some ⟨r, 0, none⟩), .int .i64 k, .int .i64 n] w fun e w' => e = .returned (.int .i64 (chkZ k n xs)) ∧ Ext w w' := by
  have hof := hide (fun w' (hX : Ext w w') => refOf24_c k xs hn B r w' (h.ext hX))
  obtain ⟨v, ho, hw, hB⟩ := h
  obtain ⟨A, cap, rfl, hlc, hlm, -⟩ := owi_at hw
  have q0 := ho.cell 0 rfl
  haveI : In r w := ⟨ho.lt⟩
  have hcl := cntZ_le k xs
  clear hw ho
  unfold chkZ
  generalize cntZ k xs = z at *
  by_cases h1 : n > 1048576 ∨ n < -1048576
  · rw [if_pos h1]
    by_cases h2 : 1048576 < n
    · clear h1
      go_enter Try.func11, Try.ntmps11
      go_wp2_with fail
      go_returns
      exact ⟨rfl, Ext.refl _⟩
    · have h3 : n < -1048576 := by omega
      clear h1
      go_enter Try.func11, Try.ntmps11
      go_wp2_with fail
      go_returns
      exact ⟨rfl, Ext.refl _⟩
  · rw [if_neg h1]
    have h2 : ¬ 1048576 < n := by omega
    have h3 : ¬ n < -1048576 := by omega
    have h4 : n ≤ 1048576 := by omega
    have h5 : -1048576 ≤ n := by omega
    clear h1
    by_cases h6 : z + n < 0
    · rw [if_pos h6]
      go_enter Try.func11, Try.ntmps11
      go_wp2_with (go_at_call 18; (with_reducible refine seq_gw (hof.out _ (Ext.refl _)) ?_); intro g)
      go_returns
      exact ⟨rfl, g.grown⟩
    · rw [if_neg h6]
      by_cases h7 : (xs.length : Int) + n > 1048576
      · rw [if_pos h7]
        have h8 : 1048576 < (xs.length : Int) + n := h7
        go_enter Try.func11, Try.ntmps11
        go_wp2_with (go_at_call 18; (with_reducible refine seq_gw (hof.out _ (Ext.refl _)) ?_); intro g)
        go_returns
        exact ⟨rfl, g.grown⟩
      · rw [if_neg h7]
        have h8 : ¬ 1048576 < (xs.length : Int) + n := h7
        go_enter Try.func11, Try.ntmps11
        go_wp2_with (go_at_call 18; (with_reducible refine seq_gw (hof.out _ (Ext.refl _)) ?_); intro g)
        go_returns
        exact ⟨rfl, g.grown⟩
set_option maxHeartbeats 2000000 in
theorem refNth24_c (i : Int) (xs : List Int) (hn : xs.length ≤ 8192) (B r : Nat) (w : World) (h : Md w B r xs) : Calls Try.prog 15 #[.pointer (some ⟨r, 0, none⟩), .int .i64 i] w fun e w' => e = .returned (.tuple #[.int .i64 (nthZ i xs).1, .bool (nthZ i xs).2]) ∧ Ext w w' := by
  obtain ⟨v, ho, hw, hB⟩ := h
  obtain ⟨A, cap, rfl, hlc, hlm, hat⟩ := owi_at hw
  have q0 := ho.cell 0 rfl
  unfold nthZ
  clear hw ho
  by_cases h1 : i < 0
  · rw [if_pos (.inl h1)]
    clear hat
    go_enter Try.func15, Try.ntmps15
    go_wp2_with fail
    go_returns
    exact ⟨rfl, Ext.refl _⟩
  · by_cases h2 : (xs.length : Int) ≤ i
    · rw [if_pos (.inr h2)]
      clear hat
      go_enter Try.func15, Try.ntmps15
      go_wp2_with fail
      go_returns
      exact ⟨rfl, Ext.refl _⟩
    · rw [if_neg (by omega)]
      obtain ⟨m, rfl⟩ : ∃ m : Nat, i = m := ⟨i.toNat, by omega⟩
      have hm : m < xs.length := by omega
      obtain ⟨x, hx⟩ : ∃ x, xs[m]? = some x := ⟨_, List.getElem?_eq_getElem hm⟩
      obtain ⟨b, o, rfl, hbl, c0⟩ := hat m x hx
      have hmI : (m : Int) < xs.length := by omega
      have hg : xs.getD (m : Int).toNat 0 = x := by rw [Int.toNat_natCast, List.getD_eq_getElem?_getD, hx]; rfl
      rw [hg]
      have hm0 : (0 : Int) ≤ m := by omega
      clear hat hg hx
      go_enter Try.func15, Try.ntmps15
      go_wp2_with fail
      go_returns
      exact ⟨rfl, Ext.refl _⟩
theorem pdL_len (k : Int) (left : Nat) : ∀ (d : Bool) (xs : List Int), (pdL k left d xs).length ≤ left + xs.length
  | d, [] => by cases d <;> simp [pdL]
  | d, x :: r => by
    have h := pdL_len k left (d || decide (k ≤ x)) r
    have h2 : (pdL k left true r).length ≤ r.length := by
      clear h
      induction r with
      | nil => simp [pdL]
      | cons y s ih => rw [pdL, Bool.true_or]; simp only [Bool.not_true, Bool.false_and, Bool.false_eq_true, if_false, List.nil_append, List.length_append, List.length_cons]; split <;> simp <;> omega
    rw [pdL]
    cases d
    · by_cases hk : k ≤ x
      · simp only [decide_eq_true hk, Bool.not_false, Bool.true_and, if_true, Bool.or_true, List.length_append, List.length_replicate, List.length_cons] at h ⊢
        split <;> simp <;> omega
      · simp only [decide_eq_false hk, Bool.not_false, Bool.true_and, Bool.false_eq_true, if_false, Bool.or_false, List.nil_append, List.length_append, List.length_cons] at h ⊢
        split <;> simp <;> omega
    · simp only [Bool.not_true, Bool.false_and, Bool.false_eq_true, if_false, Bool.true_or, List.nil_append, List.length_append, List.length_cons] at h ⊢
      split <;> simp <;> omega
set_option maxHeartbeats 8000000 in
set_option maxRecDepth 100000 in
theorem refPut24_c (k n : Int) (xs : List Int) (hn : xs.length ≤ 4096) (hl : 0 ≤ cntZ k xs + n ∧ cntZ k xs + n ≤ 4096) (hn64 : -1048576 ≤ n ∧ n ≤ 1048576) (B r : Nat) (w : World) (h : Md w B r xs) :
    Calls Try.prog 13 #[.pointer (some ⟨r, 0, none⟩), .int .i64 k, .int .i64 n] w fun e w' => e = .returned (.tuple #[]) ∧ Md w' B r (pdL k (cntZ k xs + n).toNat false xs) ∧ Fr [r] w w' := by
  have hof := hide (refOf24_c k xs (by omega) B r w h)
  obtain ⟨v, ho, hw, hB⟩ := h
  obtain ⟨A, cap, rfl, hlc, hlm, hat⟩ := owi_at hw
  unfold maxLen at hlm
  replace hat := hide hat
  have hoh := hide ho
  haveI : In r w := ⟨ho.lt⟩
  have q0 := ho.cell 0 rfl
  have hcl := cntZ_le k xs
  have hBw : B ≤ w.heap.size := by have := ho.lt; omega
  obtain ⟨left, hleft⟩ : ∃ left : Nat, cntZ k xs + n = left := ⟨(cntZ k xs + n).toNat, by omega⟩
  rw [hleft, Int.toNat_natCast]
  have hll : left ≤ 4096 := by omega
  generalize cntZ k xs = z at *
  have hlitf := hide (fun (W : World) (hW : Ext w W) => World.ownsRow_lit (base := w.heap.size) (e := 3) (size := 1) W #[] 0 hW.size (by decide) rfl)
  have hlen := pdL_len k left false xs
  obtain ⟨R, hR⟩ : ∃ R, R = pdL k left false xs := ⟨_, rfl⟩
  rw [← hR] at hlen ⊢
  replace hR := hide hR
  clear hw ho hl
  go_enter Try.func13, Try.ntmps13
  go_wp2_with (go_at_call 18; (with_reducible refine seq_gw hof.out ?_); intro g)
  have hg0 := hide g.grown
  go_loopg [7, 8, 9] (xs.length + 1) (fun gh u dv iv wr => ∃ (i : Nat) (d : Bool) (acc : List Int), iv = .int .i64 i ∧ dv = .bool d ∧ i + gh = xs.length + 1 ∧ Hid (OwI wr w.heap.size u acc) ∧ Hid (i ≤ xs.length → acc ++ pdL k left d (xs.drop i) = R) ∧ Hid (i = xs.length + 1 → acc = R) ∧ Hid (Ext w wr))
  case atStart => exact ⟨0, false, [], rfl, rfl, by omega, hlitf.out _ g.grown, (fun _ => by rw [List.drop_zero, List.nil_append, hR.out]), (fun h => absurd h (by omega)), g.grown.alloc _⟩
  case round =>
    clear hlitf hof
    obtain ⟨i, d, acc, rfl, rfl, hi, ho, hinv, hend, hXh⟩ := hrel
    obtain ⟨C, ccap, hCe⟩ := own_form ho.out
    subst hCe
    have hz1 := hXh.out.size
    have p0 := (hoh.out.ext hXh.out).cell 0 rfl
    by_cases hle : i ≤ xs.length
    · have heq := hinv.out hle
      have hal : acc.length ≤ 8192 := by have := congrArg List.length heq; rw [List.length_append] at this; omega
      have hleI : (i : Int) ≤ xs.length := by omega
      clear hinv hend
      by_cases hlt : i < xs.length
      · obtain ⟨x, hx⟩ : ∃ x, xs[i]? = some x := ⟨_, List.getElem?_eq_getElem hlt⟩
        obtain ⟨b, o, rfl, hbl, c0⟩ := hat.out i x hx
        have k0 := mcell_later hXh.out c0
        rw [mzdrop hx, pdL] at heq
        have hltI : (i : Int) < xs.length := by omega
        have hneI : ¬ (i : Int) = xs.length := by omega
        have hneB : ((i : Int) == (xs.length : Int)) = false := by simp; omega
        have c0h := hide c0
        clear c0
        by_cases hkx : k ≤ x
        · rw [decide_eq_true hkx, Bool.or_true] at heq
          cases d
          · -- the copies come here
            simp only [Bool.not_false, Bool.true_and, if_true] at heq
            by_cases hxk : x = k
            · have hfin : Hid ((acc ++ List.replicate left k) ++ pdL k left true (xs.drop (i + 1)) = R) := by show _ = _; rw [← heq, if_pos hxk]; simp
              have hxb : (x != k) = false := by simp [hxk]
              replace hxk := hide hxk
              clear heq
              obtain ⟨wo, hwo⟩ : ∃ x, x = wr := ⟨_, rfl⟩
              subst hwo
              go_wp2_with fail
              go_loopg [7, 10] left (fun gh u jv wr => ∃ (j : Nat), jv = .int .i64 j ∧ j + gh = left ∧ Hid (OwI wr w.heap.size u (acc ++ List.replicate j k)) ∧ Hid (Ext w wr))
              case atStart => exact ⟨0, rfl, by omega, by show OwI _ _ _ _; rw [List.replicate_zero, List.append_nil]; exact ho.out, hXh⟩
              case round =>
                clear ho p0
                obtain ⟨j, rfl, hj, ho, hX2⟩ := hrel
                have hz2 := hX2.out.size
                have p0 := (hoh.out.ext hX2.out).cell 0 rfl
                by_cases hjl : j < left
                · have hjI : (j : Int) < left := by omega
                  have hlr := hide (show acc ++ List.replicate (j + 1) k = (acc ++ List.replicate j k) ++ [k] by rw [List.replicate_succ', List.append_assoc])
                  have hl2 : (acc ++ List.replicate j k).length ≤ 16384 := by rw [List.length_append, List.length_replicate]; omega
                  generalize acc ++ List.replicate j k = acc2 at *
                  obtain ⟨C, ccap, hCe⟩ := own_form ho.out
                  subst hCe
                  go_wp2_with (at_builtin; (refine wpl_app mtZ rfl (.tmp 53) (.tmp 55) rfl rfl (own_ext ho.out ((Ext.refl wr).alloc _)) rfl (msrc_z Try.underlying28 wr _ rfl k _) (by unfold maxLen; (try simp only [List.length_append, List.length_replicate]); omega) (by (try simp only [List.length_append, List.length_replicate]); omega) (by simp only [World.size_alloc]; omega) ?_; intro v7 w7 ho7 hg7 _))
                  go_roundg (left - (j + 1))
                  case measure => omega
                  case rel => exact ⟨j + 1, by go_num, by omega, (by show OwI _ _ _ _; rw [hlr.out]; exact mown_appZ ho7), hide (ext_grown (hX2.out.alloc _) hg7 (fun k hk => (ho.out.lt k hk).1))⟩
                · have hje : j = left := by omega
                  have hjI : ¬ (j : Int) < left := by omega
                  rw [hje] at ho
                  replace hje := hide hje
                  have hl2 : (acc ++ List.replicate left k).length ≤ 16384 := by rw [List.length_append, List.length_replicate]; omega
                  obtain ⟨acc2, ha2⟩ : ∃ a, acc ++ List.replicate left k = a := ⟨_, rfl⟩
                  rw [ha2] at ho hfin hl2
                  clear ha2
                  obtain ⟨C, ccap, hCe⟩ := own_form ho.out
                  subst hCe
                  have k1 := mcell_later hX2.out c0h.out
                  go_wp2_with fail
                  go_roundg (xs.length + 1 - (i + 1))
                  case measure => omega
                  case rel => exact ⟨i + 1, true, acc2, by go_num, rfl, by omega, ho, (fun _ => hfin.out), (fun h => absurd h (by omega)), hX2⟩
            · have hfin : Hid (((acc ++ List.replicate left k) ++ [x]) ++ pdL k left true (xs.drop (i + 1)) = R) := by show _ = _; rw [← heq, if_neg hxk]; simp
              have hxb : (x != k) = true := by simp [hxk]
              replace hxk := hide hxk
              clear heq
              obtain ⟨wo, hwo⟩ : ∃ x, x = wr := ⟨_, rfl⟩
              subst hwo
              go_wp2_with fail
              go_loopg [7, 10] left (fun gh u jv wr => ∃ (j : Nat), jv = .int .i64 j ∧ j + gh = left ∧ Hid (OwI wr w.heap.size u (acc ++ List.replicate j k)) ∧ Hid (Ext w wr))
              case atStart => exact ⟨0, rfl, by omega, by show OwI _ _ _ _; rw [List.replicate_zero, List.append_nil]; exact ho.out, hXh⟩
              case round =>
                clear ho p0
                obtain ⟨j, rfl, hj, ho, hX2⟩ := hrel
                have hz2 := hX2.out.size
                have p0 := (hoh.out.ext hX2.out).cell 0 rfl
                by_cases hjl : j < left
                · have hjI : (j : Int) < left := by omega
                  have hlr := hide (show acc ++ List.replicate (j + 1) k = (acc ++ List.replicate j k) ++ [k] by rw [List.replicate_succ', List.append_assoc])
                  have hl2 : (acc ++ List.replicate j k).length ≤ 16384 := by rw [List.length_append, List.length_replicate]; omega
                  generalize acc ++ List.replicate j k = acc2 at *
                  obtain ⟨C, ccap, hCe⟩ := own_form ho.out
                  subst hCe
                  go_wp2_with (at_builtin; (refine wpl_app mtZ rfl (.tmp 53) (.tmp 55) rfl rfl (own_ext ho.out ((Ext.refl wr).alloc _)) rfl (msrc_z Try.underlying28 wr _ rfl k _) (by unfold maxLen; (try simp only [List.length_append, List.length_replicate]); omega) (by (try simp only [List.length_append, List.length_replicate]); omega) (by simp only [World.size_alloc]; omega) ?_; intro v7 w7 ho7 hg7 _))
                  go_roundg (left - (j + 1))
                  case measure => omega
                  case rel => exact ⟨j + 1, by go_num, by omega, (by show OwI _ _ _ _; rw [hlr.out]; exact mown_appZ ho7), hide (ext_grown (hX2.out.alloc _) hg7 (fun k hk => (ho.out.lt k hk).1))⟩
                · have hje : j = left := by omega
                  have hjI : ¬ (j : Int) < left := by omega
                  rw [hje] at ho
                  replace hje := hide hje
                  have hl2 : (acc ++ List.replicate left k).length ≤ 16384 := by rw [List.length_append, List.length_replicate]; omega
                  obtain ⟨acc2, ha2⟩ : ∃ a, acc ++ List.replicate left k = a := ⟨_, rfl⟩
                  rw [ha2] at ho hfin hl2
                  clear ha2
                  obtain ⟨C, ccap, hCe⟩ := own_form ho.out
                  subst hCe
                  have k1 := mcell_later hX2.out c0h.out
                  go_wp2_with (at_builtin; (refine wpl_app mtZ rfl (.tmp 75) (.tmp 83) rfl rfl (own_ext ho.out ((Ext.refl wr).alloc _)) rfl (msrc_z Try.underlying28 wr _ rfl x _) (by unfold maxLen; (try simp only [List.length_append, List.length_replicate]); omega) (by (try simp only [List.length_append, List.length_replicate]); omega) (by simp only [World.size_alloc]; omega) ?_; intro v8 w8 ho8 hg8 _))
                  go_roundg (xs.length + 1 - (i + 1))
                  case measure => omega
                  case rel => exact ⟨i + 1, true, acc2 ++ [x], by go_num, rfl, by omega, mown_appZ ho8, (fun _ => hfin.out), (fun h => absurd h (by omega)), hide (ext_grown (hX2.out.alloc _) hg8 (fun k hk => (ho.out.lt k hk).1))⟩
          · simp only [Bool.not_true, Bool.false_and, Bool.false_eq_true, if_false, List.nil_append] at heq
            by_cases hxk : x = k
            · rw [if_pos hxk, List.nil_append] at heq
              have hxb : (x != k) = false := by simp [hxk]
              replace hxk := hide hxk
              replace heq := hide heq
              go_wp2_with fail
              go_roundg (xs.length + 1 - (i + 1))
              case measure => omega
              case rel => exact ⟨i + 1, true, acc, by go_num, rfl, by omega, ho, (fun _ => heq.out), (fun h => absurd h (by omega)), hXh⟩
            · rw [if_neg hxk, ← List.append_assoc] at heq
              have hxb : (x != k) = true := by simp [hxk]
              replace hxk := hide hxk
              replace heq := hide heq
              go_wp2_with (at_builtin; (refine wpl_app mtZ rfl (.tmp 75) (.tmp 83) rfl rfl (own_ext ho.out ((Ext.refl wr).alloc _)) rfl (msrc_z Try.underlying28 wr _ rfl x _) (by unfold maxLen; (try simp only [List.length_append, List.length_replicate]); omega) (by (try simp only [List.length_append, List.length_replicate]); omega) (by simp only [World.size_alloc]; omega) ?_; intro v8 w8 ho8 hg8 _))
              go_roundg (xs.length + 1 - (i + 1))
              case measure => omega
              case rel => exact ⟨i + 1, true, acc ++ [x], by go_num, rfl, by omega, mown_appZ ho8, (fun _ => heq.out), (fun h => absurd h (by omega)), hide (ext_grown (hXh.out.alloc _) hg8 (fun k hk => (ho.out.lt k hk).1))⟩
        · rw [decide_eq_false hkx, Bool.or_false, Bool.and_false] at heq
          simp only [Bool.false_eq_true, if_false, List.nil_append] at heq
          cases d
          · by_cases hxk : x = k
            · rw [if_pos hxk, List.nil_append] at heq
              have hxb : (x != k) = false := by simp [hxk]
              replace hxk := hide hxk
              replace heq := hide heq
              go_wp2_with fail
              go_roundg (xs.length + 1 - (i + 1))
              case measure => omega
              case rel => exact ⟨i + 1, false, acc, by go_num, rfl, by omega, ho, (fun _ => heq.out), (fun h => absurd h (by omega)), hXh⟩
            · rw [if_neg hxk, ← List.append_assoc] at heq
              have hxb : (x != k) = true := by simp [hxk]
              replace hxk := hide hxk
              replace heq := hide heq
              go_wp2_with (at_builtin; (refine wpl_app mtZ rfl (.tmp 75) (.tmp 83) rfl rfl (own_ext ho.out ((Ext.refl wr).alloc _)) rfl (msrc_z Try.underlying28 wr _ rfl x _) (by unfold maxLen; (try simp only [List.length_append, List.length_replicate]); omega) (by (try simp only [List.length_append, List.length_replicate]); omega) (by simp only [World.size_alloc]; omega) ?_; intro v8 w8 ho8 hg8 _))
              go_roundg (xs.length + 1 - (i + 1))
              case measure => omega
              case rel => exact ⟨i + 1, false, acc ++ [x], by go_num, rfl, by omega, mown_appZ ho8, (fun _ => heq.out), (fun h => absurd h (by omega)), hide (ext_grown (hXh.out.alloc _) hg8 (fun k hk => (ho.out.lt k hk).1))⟩
          · by_cases hxk : x = k
            · rw [if_pos hxk, List.nil_append] at heq
              have hxb : (x != k) = false := by simp [hxk]
              replace hxk := hide hxk
              replace heq := hide heq
              go_wp2_with fail
              go_roundg (xs.length + 1 - (i + 1))
              case measure => omega
              case rel => exact ⟨i + 1, true, acc, by go_num, rfl, by omega, ho, (fun _ => heq.out), (fun h => absurd h (by omega)), hXh⟩
            · rw [if_neg hxk, ← List.append_assoc] at heq
              have hxb : (x != k) = true := by simp [hxk]
              replace hxk := hide hxk
              replace heq := hide heq
              go_wp2_with (at_builtin; (refine wpl_app mtZ rfl (.tmp 75) (.tmp 83) rfl rfl (own_ext ho.out ((Ext.refl wr).alloc _)) rfl (msrc_z Try.underlying28 wr _ rfl x _) (by unfold maxLen; (try simp only [List.length_append, List.length_replicate]); omega) (by (try simp only [List.length_append, List.length_replicate]); omega) (by simp only [World.size_alloc]; omega) ?_; intro v8 w8 ho8 hg8 _))
              go_roundg (xs.length + 1 - (i + 1))
              case measure => omega
              case rel => exact ⟨i + 1, true, acc ++ [x], by go_num, rfl, by omega, mown_appZ ho8, (fun _ => heq.out), (fun h => absurd h (by omega)), hide (ext_grown (hXh.out.alloc _) hg8 (fun k hk => (ho.out.lt k hk).1))⟩
      · have hie : i = xs.length := by omega
        rw [hie, List.drop_length, pdL] at heq
        have hneB : ((i : Int) == (xs.length : Int)) = true := by simp; omega
        have hltI : ¬ (i : Int) < xs.length := by omega
        cases d
        · have hfin : Hid (acc ++ List.replicate left k = R) := heq
          clear heq
          obtain ⟨wo, hwo⟩ : ∃ x, x = wr := ⟨_, rfl⟩
          subst hwo
          go_wp2_with fail
          go_loopg [7, 10] left (fun gh u jv wr => ∃ (j : Nat), jv = .int .i64 j ∧ j + gh = left ∧ Hid (OwI wr w.heap.size u (acc ++ List.replicate j k)) ∧ Hid (Ext w wr))
          case atStart => exact ⟨0, rfl, by omega, by show OwI _ _ _ _; rw [List.replicate_zero, List.append_nil]; exact ho.out, hXh⟩
          case round =>
            clear ho p0
            obtain ⟨j, rfl, hj, ho, hX2⟩ := hrel
            have hz2 := hX2.out.size
            have p0 := (hoh.out.ext hX2.out).cell 0 rfl
            by_cases hjl : j < left
            · have hjI : (j : Int) < left := by omega
              have hlr := hide (show acc ++ List.replicate (j + 1) k = (acc ++ List.replicate j k) ++ [k] by rw [List.replicate_succ', List.append_assoc])
              have hl2 : (acc ++ List.replicate j k).length ≤ 16384 := by rw [List.length_append, List.length_replicate]; omega
              generalize acc ++ List.replicate j k = acc2 at *
              obtain ⟨C, ccap, hCe⟩ := own_form ho.out
              subst hCe
              go_wp2_with (at_builtin; (refine wpl_app mtZ rfl (.tmp 53) (.tmp 55) rfl rfl (own_ext ho.out ((Ext.refl wr).alloc _)) rfl (msrc_z Try.underlying28 wr _ rfl k _) (by unfold maxLen; (try simp only [List.length_append, List.length_replicate]); omega) (by (try simp only [List.length_append, List.length_replicate]); omega) (by simp only [World.size_alloc]; omega) ?_; intro v7 w7 ho7 hg7 _))
              go_roundg (left - (j + 1))
              case measure => omega
              case rel => exact ⟨j + 1, by go_num, by omega, (by show OwI _ _ _ _; rw [hlr.out]; exact mown_appZ ho7), hide (ext_grown (hX2.out.alloc _) hg7 (fun k hk => (ho.out.lt k hk).1))⟩
            · have hje : j = left := by omega
              have hjI : ¬ (j : Int) < left := by omega
              rw [hje] at ho
              replace hje := hide hje
              have hl2 : (acc ++ List.replicate left k).length ≤ 16384 := by rw [List.length_append, List.length_replicate]; omega
              obtain ⟨acc2, ha2⟩ : ∃ a, acc ++ List.replicate left k = a := ⟨_, rfl⟩
              rw [ha2] at ho hfin hl2
              clear ha2
              obtain ⟨C, ccap, hCe⟩ := own_form ho.out
              subst hCe
              go_wp2_with fail
              go_roundg (xs.length + 1 - (i + 1))
              case measure => omega
              case rel => exact ⟨i + 1, true, acc2, by go_num, rfl, by omega, ho, (fun h => absurd h (by omega)), (fun _ => hfin.out), hX2⟩
        · have hfin : Hid (acc = R) := by rw [← heq]; simp [Hid]
          clear heq
          go_wp2_with fail
          go_roundg (xs.length + 1 - (i + 1))
          case measure => omega
          case rel => exact ⟨i + 1, true, acc, by go_num, rfl, by omega, ho, (fun h => absurd h (by omega)), (fun _ => hfin.out), hXh⟩
    · have hie : i = xs.length + 1 := by omega
      have hleI : ¬ (i : Int) ≤ xs.length := by omega
      have hacc := hend.out hie
      subst hacc
      have hb0 := (hoh.out.ext hXh.out).free 0
      haveI : In r wr := ⟨(hoh.out.ext hXh.out).lt⟩
      clear hinv hend
      go_wp2_with fail
      go_returns
      exact ⟨rfl, ⟨_, (hoh.out.ext hXh.out).set 0 _, mown_far (own_base ho.out hBw) 0 _ (fun e => Ob.not_own (hoh.out.ext hXh.out) ho.out (by decide) e), hB⟩, (Fr.of_ext hXh.out).setCell _ _ (.inl (by simp))⟩
end Go.Proofs.Ytnneicdphlidhaa
