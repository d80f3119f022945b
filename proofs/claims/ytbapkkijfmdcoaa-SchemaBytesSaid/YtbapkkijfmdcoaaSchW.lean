/-
  A helper of ours: no claim of its own. Layer 7 (schema): a schema written, by the document.
-/
import Derived.Test.YtbapkkijfmdcoaaSchI
set_option linter.unusedVariables false
set_option linter.unusedSimpArgs false
namespace Go.Proofs.Ytbapkkijfmdcoaa
open Go.RowKit
attribute [local go_sem] GW.cell GW.frozen In.eq_true In.le_true In.ne In.ne' In.ne_add In.ne_add' In.lt_add Upto.le_true Upto.le_add Upto.lt_add
theorem join_snocS (l : List (List UInt8)) (x sep : List UInt8) (h : l ≠ []) : Lib.join (l ++ [x]) sep = Lib.join l sep ++ sep ++ x := by
  rcases l with _ | ⟨y, r⟩
  · exact absurd rfl h
  · rw [List.cons_append, Lib.join_cons, Lib.join_cons]; simp [Lib.joinTail]
theorem ba_cat (x y : ByteArray) : (x ++ y).data.toList = x.data.toList ++ y.data.toList := by rw [ByteArray.data_append, Array.toList_append]
theorem ba_eq {x : ByteArray} {l : List UInt8} (h : x.data.toList = l) : x = ⟨l.toArray⟩ := by
  subst h
  cases x
  simp
theorem S2 : (⟨#[44, 32]⟩ : ByteArray).size = 2 := rfl
theorem S7 : (⟨#[32, 110, 117, 109, 98, 101, 114]⟩ : ByteArray).size = 7 := rfl
theorem S5 : (⟨#[32, 116, 101, 120, 116]⟩ : ByteArray).size = 5 := rfl
theorem cat7 : (⟨#[32, 110, 117, 109, 98, 101, 114]⟩ : ByteArray) = ⟨#[32]⟩ ++ ⟨#[110, 117, 109, 98, 101, 114]⟩ := rfl
theorem cat5 : (⟨#[32, 116, 101, 120, 116]⟩ : ByteArray) = ⟨#[32]⟩ ++ ⟨#[116, 101, 120, 116]⟩ := rfl
abbrev joinS (l : List Cl) : List UInt8 := Lib.join (l.map fun c => (colT c).data.toList) [44, 32]
set_option maxHeartbeats 8000000 in
set_option maxRecDepth 100000 in
theorem refShowS_c (l : List Cl) (v : Value) (w : World) (hl : Cw w [] v l) : Calls Try.prog 31 #[v] w fun e w' => e = .returned (.string (showS l)) ∧ Ext w w' := by
  have h1 := hide (fun w' (hX : Ext w w') => refMayS_c l v w' (Sl.ext hl hX))
  have hX0 := hide (Ext.refl w)
  obtain ⟨A, cap, rfl, hlc, hlm, hat⟩ := cw_form hl
  unfold maxLen at hlm
  replace hat := hide hat
  clear hl
  cases ha : mayS l
  · have e : showS l = ⟨#[]⟩ := by unfold showS; rw [ha, if_neg (by decide)]
    rw [e]
    rw [ha] at h1
    clear ha e
    go_enter Try.func31, Try.ntmps31
    go_wp2_with (go_at_call 13; (with_reducible refine seq_gw (h1.out _ hX0.out) ?_); intro g)
    go_returns
    exact ⟨rfl, g.grown⟩
  · obtain ⟨l8, hn, -⟩ := mayS_iff.1 ha
    have e : showS l = ⟨(joinS l).toArray⟩ := by unfold showS; rw [if_pos ha]
    rw [ha] at h1
    obtain ⟨R, hR⟩ : ∃ R, R = showS l := ⟨_, rfl⟩
    rw [← hR]
    rw [e] at hR
    replace hR := hide hR
    replace hn := hide hn
    clear ha e
    go_enter Try.func31, Try.ntmps31
    go_wp2_with (go_at_call 13; (with_reducible refine seq_gw (h1.out _ hX0.out) ?_); intro g)
    clear h1 hX0
    go_loopg [3, 4] l.length (fun gh s i wr => ∃ (k : Nat) (a : ByteArray), s = .string a ∧ i = .int .i64 k ∧ k + gh = l.length ∧ a.size ≤ 25 * k ∧ Hid (a.data.toList = joinS (l.take k)) ∧ Ext w wr)
    case atStart => exact ⟨0, ⟨#[]⟩, rfl, rfl, by omega, by simp [ByteArray.size], rfl, g.grown⟩
    case round =>
      obtain ⟨k, a, rfl, rfl, hk, hsz, hL, hX⟩ := hrel
      clear g
      by_cases hlt : k < l.length
      · obtain ⟨x, hx⟩ : ∃ x, l[k]? = some x := ⟨_, List.getElem?_eq_getElem hlt⟩
        obtain ⟨b, o, rfl, -, hb', c0, c1⟩ := hat.out k x hx
        have k0 := cell_later hX c0
        have k1 := cell_later hX c1
        have hbr : b < wr.heap.size := block_lt_of_cell k0
        have hok := hn.out x (List.mem_of_getElem? hx)
        have hs16 := okC_size hok
        have hkd : x.2 = 1 ∨ x.2 = 2 := by
          unfold okC at hok
          rw [Bool.and_eq_true, decide_eq_true_iff] at hok
          exact hok.1
        have h0 : k = 0 → ∀ z : ByteArray, z = a ++ colT x → z.data.toList = joinS (l.take (k + 1)) := by
          rintro h z rfl
          subst h
          rw [ba_cat, hL.out, List.take_add_one, hx]
          simp [joinS, Lib.join_one, Lib.join_nil]
        have h2 : 0 < k → ∀ z : ByteArray, z = a ++ (⟨#[44, 32]⟩ : ByteArray) ++ colT x → z.data.toList = joinS (l.take (k + 1)) := by
          rintro h z rfl
          rw [ba_cat, ba_cat, hL.out, List.take_add_one, hx, Option.toList_some]
          unfold joinS
          rw [List.map_append, List.map_singleton, join_snocS _ _ _ (by intro h; have := congrArg List.length h; rw [List.length_map, List.length_take] at this; simp only [List.length_nil] at this; omega)]
        obtain ⟨xn, xk⟩ := x
        simp only at k0 k1 hs16 hkd
        replace h0 := hide h0
        replace h2 := hide h2
        replace hx := hide hx
        clear c0 c1 hok hL
        by_cases hk0 : 0 < k
        · rcases hkd with rfl | rfl
          · go_wp2_with fail
            go_roundg (l.length - (k + 1))
            case measure => omega
            case rel => exact ⟨k + 1, _, rfl, by go_num, by omega, by simp only [cat_size, S2, S7]; omega, h2.out hk0 _ (by unfold colT; rw [show wordB (xn, (1 : Int)).2 = ⟨#[110, 117, 109, 98, 101, 114]⟩ from rfl, cat7]; simp only [ByteArray.append_assoc]), hX⟩
          · go_wp2_with fail
            go_roundg (l.length - (k + 1))
            case measure => omega
            case rel => exact ⟨k + 1, _, rfl, by go_num, by omega, by simp only [cat_size, S2, S5]; omega, h2.out hk0 _ (by unfold colT; rw [show wordB (xn, (2 : Int)).2 = ⟨#[116, 101, 120, 116]⟩ from rfl, cat5]; simp only [ByteArray.append_assoc]), hX⟩
        · have hk1 := hide (show k = 0 by omega)
          rcases hkd with rfl | rfl
          · go_wp2_with fail
            go_roundg (l.length - (k + 1))
            case measure => omega
            case rel => exact ⟨k + 1, _, rfl, by go_num, by omega, by simp only [cat_size, S2, S7]; omega, h0.out hk1.out _ (by unfold colT; rw [show wordB (xn, (1 : Int)).2 = ⟨#[110, 117, 109, 98, 101, 114]⟩ from rfl, cat7]; simp only [ByteArray.append_assoc]), hX⟩
          · go_wp2_with fail
            go_roundg (l.length - (k + 1))
            case measure => omega
            case rel => exact ⟨k + 1, _, rfl, by go_num, by omega, by simp only [cat_size, S2, S5]; omega, h0.out hk1.out _ (by unfold colT; rw [show wordB (xn, (2 : Int)).2 = ⟨#[116, 101, 120, 116]⟩ from rfl, cat5]; simp only [ByteArray.append_assoc]), hX⟩
      · have hk' : k = l.length := by omega
        have hge : (l.length : Int) ≤ k := by omega
        have hf := hL.out
        rw [hk', List.take_length] at hf
        have hRa := hide (show a = R from (ba_eq hf).trans hR.out.symm)
        replace hk' := hide hk'
        clear hL hf
        go_wp2_with fail
        go_returns
        exact ⟨by rw [hRa.out]; rfl, hX⟩
end Go.Proofs.Ytbapkkijfmdcoaa
