/-
  A helper of ours: no claim of its own. Layer 17 (expr): the kind that a word makes, by the code.
-/
import Derived.Test.YtopgapbipmblbaaExpF
import Derived.Test.YtopgapbipmblbaaEvlS
import Derived.Test.YtopgapbipmblbaaSchB
import Derived.Test.YtopgapbipmblbaaIdx
set_option linter.unusedVariables false
set_option linter.unusedSimpArgs false
namespace Go.Proofs.Ytopgapbipmblbaa
open Go.RowKit
attribute [local go_sem] GW.cell GW.frozen In.eq_true In.le_true In.ne In.ne' In.ne_add In.ne_add' In.lt_add Upto.le_true Upto.le_add Upto.lt_add
/-- Kinds, where they lie. -/
abbrev Kw (w : World) (S : List Nat) (v : Value) (l : List Int) : Prop := Sl w S 1 v l.length (ic l)
theorem kw_form {w : World} {S : List Nat} {v : Value} {l : List Int} (h : Kw w S v l) : ∃ A cap, v = .slice A l.length cap ∧ l.length ≤ cap ∧ cap ≤ maxLen ∧
    ∀ (i : Nat) (x : Int), l[i]? = some x → ∃ b o, A = some ⟨b, o, none⟩ ∧ b ∉ S ∧ b < w.heap.size ∧ w.cell? ⟨b, o + i, none⟩ = some (.int .i64 x) := by
  obtain ⟨A, cap, rfl, h1, h2, h3, h4⟩ := h
  refine ⟨A, cap, rfl, h1, h2, fun i x hx => ?_⟩
  have hg : (ic l)[i]? = some (.int .i64 x) := by simp [ic, hx]
  rcases h4 with h4 | ⟨b, o, rfl, hb, hc⟩
  · rw [h4] at hg; cases hg
  · have c0 := hc _ _ hg
    exact ⟨b, o, rfl, hb, block_lt_of_cell c0, c0⟩
set_option maxHeartbeats 1000000 in
theorem kind1_c (k m : Int) (b : Nat) (w : World) (hb : Ob w b 38 [.int .i64 m]) : Calls Try.prog 69 #[.int .i64 k, .pointer (some ⟨b, 0, none⟩)] w fun e w' => e = .returned (.bool (k != m)) ∧ Ext w w' := by
  have c0 := hb.cell 0 rfl
  have hlt := hb.lt
  clear hb
  obtain ⟨z, hz⟩ : ∃ z, (k != m) = z := ⟨_, rfl⟩
  rw [hz]
  go_enter Try.func69, Try.ntmps69
  go_wp2_with fail
  go_returns
  exact ⟨by first | rfl | rw [hz] | rw [← hz], Ext.refl w⟩
set_option maxHeartbeats 2000000 in
set_option maxRecDepth 100000 in
theorem indexFuncK_c (l : List Int) (m : Int) (b : Nat) (v : Value) (w : World) (h : Kw w [] v l) (hb : Ob w b 38 [.int .i64 m]) : Calls Try.prog 96 #[v, .func (.func 69) #[] #[.pointer (some ⟨b, 0, none⟩)]] w fun e w' => e = .returned (.int .i64 (idxP (fun k => k == m) 0 l)) ∧ Ext w w' := by
  obtain ⟨A, cap, rfl, hl, hm, hat⟩ := kw_form h
  unfold maxLen at hm
  replace hat := hide hat
  clear h
  replace hb := hide hb
  obtain ⟨R, hR⟩ : ∃ R, R = idxP (fun k => k == m) 0 l := ⟨_, rfl⟩
  rw [← hR]
  replace hR := hide hR
  go_enter Try.func96, Try.ntmps96
  go_wp2_with fail
  go_loopg [8] l.length (fun gh i wr => ∃ (k : Nat), i = .int .i64 k ∧ k + gh = l.length ∧ Hid (R = idxP (fun k => k == m) k (l.drop k)) ∧ Ext w wr)
  case atStart => exact ⟨0, rfl, by omega, by simpa using hR, Ext.refl w⟩
  case round =>
    obtain ⟨k, rfl, hk, hRk, hX⟩ := hrel
    clear hR
    by_cases hlt : k < l.length
    · obtain ⟨x, hx⟩ : ∃ x, l[k]? = some x := ⟨_, List.getElem?_eq_getElem hlt⟩
      obtain ⟨b', o, rfl, -, hb', c0⟩ := hat.out k x hx
      have k0 := cell_later hX c0
      have hbr : b' < wr.heap.size := block_lt_of_cell k0
      have hin := hide (kind1_c x m b wr (hb.out.ext hX))
      have hR2 := hRk.out
      rw [drop_cons hx] at hR2
      clear c0 hat hx
      cases hmx : (x == m)
      · have hxm : (x != m) = true := by unfold bne; rw [hmx]; rfl
        rw [hxm] at hin
        rw [idxP_no (p := fun k => k == m) hmx] at hR2
        replace hR2 := hide hR2
        clear hmx hxm
        go_wp2_with (go_at_call 69; (with_reducible refine seq_gw hin.out ?_); intro g)
        go_returns
        exact ⟨by rw [hR2.out]; rfl, hX.trans g.grown⟩
      · have hxm : (x != m) = false := by unfold bne; rw [hmx]; rfl
        rw [hxm] at hin
        rw [idxP_yes (p := fun k => k == m) hmx] at hR2
        replace hR2 := hide hR2
        clear hmx hxm
        go_wp2_with (go_at_call 69; (with_reducible refine seq_gw hin.out ?_); intro g)
        go_roundg (l.length - (k + 1))
        case measure => omega
        case rel => exact ⟨k + 1, by go_num, by omega, hR2, hX.trans g.grown⟩
    · have hk' : k = l.length := by omega
      have hge : (l.length : Int) ≤ k := by omega
      have hR2 := hRk.out
      rw [hk', List.drop_length] at hR2
      replace hR2 := hide hR2
      replace hk' := hide hk'
      go_wp2_with fail
      go_returns
      exact ⟨by rw [hR2.out]; rfl, hX⟩
set_option maxHeartbeats 1000000 in
theorem containsK_c (l : List Int) (m : Int) (b : Nat) (v : Value) (w : World) (h : Kw w [] v l) (hb : Ob w b 38 [.int .i64 m]) : Calls Try.prog 68 #[v, .func (.func 69) #[] #[.pointer (some ⟨b, 0, none⟩)]] w fun e w' => e = .returned (.bool (l.any fun k => k != m)) ∧ Ext w w' := by
  have hc := hide (indexFuncK_c l m b v w h hb)
  have e := hide (idxP_ge (fun k => k == m) 0 l)
  have ea : (l.any fun k => k != m) = !l.all fun k => k == m := by rw [List.not_all_eq_any_not]; rfl
  rw [ea]
  generalize idxP (fun k => k == m) 0 l = z at *
  generalize (l.all fun k => k == m) = y at *
  clear h hb ea
  go_enter Try.func68, Try.ntmps68
  go_wp2_with (go_at_call 96; (with_reducible refine seq_gw hc.out ?_); intro g)
  go_returns
  exact ⟨by rw [← e.out]; rfl, g.grown⟩
/-- An answer, or what is wrong, as two numbers. -/
def exK : Except Int Int → Int := fun x => match x with
  | .ok v => v
  | .error _ => 0
def exE {α : Type} : Except Int α → Int := fun x => match x with
  | .ok _ => 0
  | .error e => e
theorem kd_not3 {s : List Cl} {o : Vl} {ks : List Int} (h3 : o.1 ≠ 3) (h2 : o.1 ≠ 2) : kdF s o ks = if ks.any (fun k => k != mustK o.1 ks) then .error 12 else .ok (if o.1 = 12 then 2 else 1) := by
  unfold kdF; rw [if_neg h3, if_neg h2]
set_option maxHeartbeats 8000000 in
set_option maxRecDepth 100000 in
theorem kind_c (s : List Cl) (c n : Int) (x : ByteArray) (ks : List Int) (kv sv : Value) (w : World) (hs : Cw w [] sv s) (hk : Kw w [] kv ks) (ho : okW (c, n, x) = true) (hn : tkI c = (ks.length : Int)) :
    Calls Try.prog 42 #[val c n x, kv, sv] w fun e w' => e = .returned (.tuple #[.int .i64 (exK (kdF s (c, n, x) ks)), .int .i64 (exE (kdF s (c, n, x) ks))]) ∧ Ext w w' := by
  obtain ⟨F, hF⟩ : ∃ F, F = kdF s (c, n, x) ks := ⟨_, rfl⟩
  rw [← hF]
  obtain ⟨B, kcap, rfl, hkl, hkm, hka⟩ := kw_form hk
  obtain ⟨A, cap, rfl, hl, hm, hat⟩ := cw_form hs
  unfold maxLen at hkm hm
  have hcon := hide (fun m b w' (hX : Ext w w') (hb : Ob w' b 38 [.int .i64 m]) => containsK_c ks m b _ w' (Sl.ext hk hX) hb)
  clear hs hk
  replace hka := hide hka
  have hobw : ∀ (W : World) (m : Int), Ob ((w.alloc (.cells #[.int .i64 c, .int .i64 n, .string x] 57)).alloc (.cells #[.int .i64 m] 38)) (w.heap.size + 1) 38 [.int .i64 m] := fun W m => by
    have := Ob.new (w.alloc (.cells #[.int .i64 c, .int .i64 n, .string x] 57)) 38 [.int .i64 m]
    rwa [World.size_alloc] at this
  by_cases h3 : c = 3
  · subst h3
    have hn8 : 0 ≤ n ∧ n < 8 := by rw [okW_3, Bool.and_eq_true, decide_eq_true_iff] at ho; exact ho.1
    obtain rfl : ks = [] := List.eq_nil_of_length_eq_zero (by have : tkI 3 = 0 := rfl; omega)
    obtain ⟨i, rfl⟩ := Int.eq_ofNat_of_zero_le hn8.1
    clear ho hn hka
    by_cases hi : i < s.length
    · obtain ⟨y, hy⟩ : ∃ y, s[i]? = some y := ⟨_, List.getElem?_eq_getElem hi⟩
      have hFo : Hid (F = .ok y.2) := by show _ = _; rw [hF]; unfold kdF; rw [if_pos rfl]; simp only [Int.toNat_natCast]; rw [hy]
      obtain ⟨b, o, rfl, -, hb, c0, c1⟩ := hat i y hy
      have hiI : ¬ (s.length : Int) ≤ (i : Int) := by omega
      have hiI' : (i : Int) < s.length := by omega
      replace hcon := hide (hcon.out 1 (w.heap.size + 1) _ (((Ext.refl w).alloc _).alloc _) (hobw w 1))
      obtain ⟨yn, yk⟩ := y
      clear hat hF hy hobw
      go_enter Try.func42, Try.ntmps42
      go_wp2_with (go_at_call 68; (with_reducible refine seq_gw hcon.out ?_); intro g)
      go_returns
      exact ⟨by rw [hFo.out]; rfl, (((Ext.refl w).alloc _).alloc _).trans g.grown⟩
    · have hFo : Hid (F = .error 3) := by show _ = _; rw [hF]; unfold kdF; rw [if_pos rfl]; simp only [Int.toNat_natCast]; rw [List.getElem?_eq_none (by omega)]
      have hiI : (s.length : Int) ≤ (i : Int) := by omega
      clear hat hF hobw hcon
      go_enter Try.func42, Try.ntmps42
      go_wp2_with fail
      go_returns
      exact ⟨by rw [hFo.out]; rfl, ((Ext.refl w).alloc _).alloc _⟩
  clear hat
  have b3 : (c == 3) = false := by rw [beq_eq_false_iff_ne]; exact h3
  by_cases h2 : c = 2
  · subst h2
    obtain rfl : ks = [] := List.eq_nil_of_length_eq_zero (by have : tkI 2 = 0 := rfl; omega)
    have hFo : Hid (F = .ok 2) := by show _ = _; rw [hF]; rfl
    replace hcon := hide (hcon.out 2 (w.heap.size + 1) _ (((Ext.refl w).alloc _).alloc _) (hobw w 2))
    clear hF hka hn ho h3 b3 hobw
    go_enter Try.func42, Try.ntmps42
    go_wp2_with (go_at_call 68; (with_reducible refine seq_gw hcon.out ?_); intro g)
    go_returns
    exact ⟨by rw [hFo.out]; rfl, (((Ext.refl w).alloc _).alloc _).trans g.grown⟩
  rw [kd_not3 h3 h2] at hF
  have b2 : (c == 2) = false := by rw [beq_eq_false_iff_ne]; exact h2
  replace hcon := hide (hcon.out (mustK c ks) (w.heap.size + 1) _ (((Ext.refl w).alloc _).alloc _) (hobw w _))
  have hc1 : 1 ≤ c ∧ c ≤ 20 := by
    have := okW_tk ho
    simp only at this
    rcases this with e | e | e
    · have := tkI_iff0.1 e; omega
    · have := tkI_iff1.1 e; omega
    · have := tkI_iff2.1 e; omega
  simp only at hF
  clear hobw
  by_cases h12 : c = 12
  · subst h12
    have hm2 : mustK 12 ks = 2 := rfl
    rw [hm2] at hF hcon
    rw [if_pos rfl] at hF
    clear ho hn h3 h2 hm2 hka hc1 b3 b2
    generalize (ks.any fun k => k != 2) = z at *
    cases z
    · have hFo : Hid (F = .ok 2) := hF
      clear hF
      go_enter Try.func42, Try.ntmps42
      go_wp2_with (go_at_call 68; (with_reducible refine seq_gw hcon.out ?_); intro g)
      go_returns
      exact ⟨by rw [hFo.out]; rfl, (((Ext.refl w).alloc _).alloc _).trans g.grown⟩
    · have hFo : Hid (F = .error 12) := hF
      clear hF
      go_enter Try.func42, Try.ntmps42
      go_wp2_with (go_at_call 68; (with_reducible refine seq_gw hcon.out ?_); intro g)
      go_returns
      exact ⟨by rw [hFo.out]; rfl, (((Ext.refl w).alloc _).alloc _).trans g.grown⟩
  rw [if_neg h12] at hF
  have b12 : (c == 12) = false := by rw [beq_eq_false_iff_ne]; exact h12
  by_cases h6 : c = 6
  · subst h6
    have hm2 : mustK 6 ks = 2 := rfl
    rw [hm2] at hF hcon
    clear ho hn h3 h2 hm2 hka hc1 b3 b2 h12 b12
    generalize (ks.any fun k => k != 2) = z at *
    cases z
    · have hFo : Hid (F = .ok 1) := hF
      clear hF
      go_enter Try.func42, Try.ntmps42
      go_wp2_with (go_at_call 68; (with_reducible refine seq_gw hcon.out ?_); intro g)
      go_returns
      exact ⟨by rw [hFo.out]; rfl, (((Ext.refl w).alloc _).alloc _).trans g.grown⟩
    · have hFo : Hid (F = .error 12) := hF
      clear hF
      go_enter Try.func42, Try.ntmps42
      go_wp2_with (go_at_call 68; (with_reducible refine seq_gw hcon.out ?_); intro g)
      go_returns
      exact ⟨by rw [hFo.out]; rfl, (((Ext.refl w).alloc _).alloc _).trans g.grown⟩
  have b6 : (c == 6) = false := by rw [beq_eq_false_iff_ne]; exact h6
  by_cases hcmp : 13 ≤ c ∧ c ≤ 18
  · have ht2 : tkI c = 2 := tkI_iff2.2 (by omega)
    obtain ⟨k0, kr, rfl⟩ : ∃ k0 kr, ks = k0 :: kr := by
      match ks, hn with
      | [], hn => rw [ht2] at hn; cases hn
      | k0 :: kr, _ => exact ⟨k0, kr, rfl⟩
    obtain ⟨bk, ok, rfl, -, hbk, q0⟩ := hka.out 0 k0 rfl
    have hm2 : mustK c (k0 :: kr) = k0 := by unfold mustK; rw [if_neg (by omega), if_pos hcmp]; rfl
    rw [hm2] at hF hcon
    have hkpos : (0 : Int) < ((k0 :: kr).length : Int) := by rw [List.length_cons]; omega
    rw [Nat.add_zero] at q0
    have hX2 : ((k0 :: kr).any fun k => k != k0) = (kr.any fun k => k != k0) := by simp
    generalize ((k0 :: kr).any fun k => k != k0) = z at *
    generalize (k0 :: kr).length = N at *
    clear hX2 ho hn hka hm2 h12 b12 h6 b6 h3 b3 h2 b2 ht2 hc1
    cases z
    · have hFo : Hid (F = .ok 1) := hF
      clear hF
      have c6 : c = 13 ∨ c = 14 ∨ c = 15 ∨ c = 16 ∨ c = 17 ∨ c = 18 := by omega
      clear hcmp
      rcases c6 with rfl | rfl | rfl | rfl | rfl | rfl <;>
      · go_enter Try.func42, Try.ntmps42
        go_wp2_with (go_at_call 68; (with_reducible refine seq_gw hcon.out ?_); intro g)
        go_returns
        exact ⟨by rw [hFo.out]; rfl, (((Ext.refl w).alloc _).alloc _).trans g.grown⟩
    · have hFo : Hid (F = .error 12) := hF
      clear hF
      have c6 : c = 13 ∨ c = 14 ∨ c = 15 ∨ c = 16 ∨ c = 17 ∨ c = 18 := by omega
      clear hcmp
      rcases c6 with rfl | rfl | rfl | rfl | rfl | rfl <;>
      · go_enter Try.func42, Try.ntmps42
        go_wp2_with (go_at_call 68; (with_reducible refine seq_gw hcon.out ?_); intro g)
        go_returns
        exact ⟨by rw [hFo.out]; rfl, (((Ext.refl w).alloc _).alloc _).trans g.grown⟩
  · have hm2 : mustK c ks = 1 := by unfold mustK; rw [if_neg (by omega), if_neg hcmp]
    rw [hm2] at hF hcon
    have d13 : (c == 13) = false := by rw [beq_eq_false_iff_ne]; omega
    have d14 : (c == 14) = false := by rw [beq_eq_false_iff_ne]; omega
    have d15 : (c == 15) = false := by rw [beq_eq_false_iff_ne]; omega
    have d16 : (c == 16) = false := by rw [beq_eq_false_iff_ne]; omega
    have d17 : (c == 17) = false := by rw [beq_eq_false_iff_ne]; omega
    have d18 : (c == 18) = false := by rw [beq_eq_false_iff_ne]; omega
    generalize (ks.any fun k => k != 1) = z at *
    clear ho hn hka hm2 h12 h6 h3 h2 hc1 hcmp
    cases z
    · have hFo : Hid (F = .ok 1) := hF
      clear hF
      go_enter Try.func42, Try.ntmps42
      go_wp2_with (go_at_call 68; (with_reducible refine seq_gw hcon.out ?_); intro g)
      go_returns
      exact ⟨by rw [hFo.out]; rfl, (((Ext.refl w).alloc _).alloc _).trans g.grown⟩
    · have hFo : Hid (F = .error 12) := hF
      clear hF
      go_enter Try.func42, Try.ntmps42
      go_wp2_with (go_at_call 68; (with_reducible refine seq_gw hcon.out ?_); intro g)
      go_returns
      exact ⟨by rw [hFo.out]; rfl, (((Ext.refl w).alloc _).alloc _).trans g.grown⟩
end Go.Proofs.Ytopgapbipmblbaa
