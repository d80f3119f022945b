/-
  A helper of ours: no claim of its own. Layer 19 (lex): tokens joined, by the document.
-/
import Derived.Test.YtjkfkecabhcnfaaDoorLexU
set_option linter.unusedVariables false
set_option linter.unusedSimpArgs false
namespace Go.Proofs.YtjkfkecabhcnfaaDoor
open Go.RowKit
attribute [local go_sem] GW.cell GW.frozen In.eq_true In.le_true In.ne In.ne' In.ne_add In.ne_add' In.lt_add Upto.le_true Upto.le_add Upto.lt_add
theorem joinB_snoc : ∀ (l : List (List UInt8)) (a : List UInt8), l ≠ [] → joinB (l ++ [a]) = joinB l ++ 32 :: a
  | [b], a, _ => rfl
  | b :: c :: r, a, _ => by
    show joinB (b :: (c :: r ++ [a])) = _
    rw [joinB_cons b (by simp), joinB_snoc (c :: r) a (by simp), joinB_cons b (by simp)]; simp
theorem str_cat (a b : List UInt8) : (⟨a.toArray⟩ : ByteArray) ++ ⟨b.toArray⟩ = ⟨(a ++ b).toArray⟩ := by
  apply ByteArray.ext; simp [ByteArray.append]
theorem joinB_take (l : List Tk) : ∀ k, (joinB ((l.take k).map (·.2))).length ≤ (joinB (l.map (·.2))).length := by
  intro k
  by_cases h : k < l.length
  · rcases Nat.eq_zero_or_pos k with rfl | hk
    · simp [joinB]
    · have e : l.map (·.2) = (l.take k).map (·.2) ++ (l.drop k).map (·.2) := by rw [← List.map_append, List.take_append_drop]
      rw [e]
      have : ∀ (b a : List (List UInt8)), a ≠ [] → (joinB a).length ≤ (joinB (a ++ b)).length := by
        intro b
        induction b with
        | nil => intro a _; simp
        | cons x r ih =>
          intro a ha
          have h1 := ih (a ++ [x]) (by simp)
          rw [joinB_snoc a x ha, List.append_assoc] at h1
          simp only [List.length_append, List.singleton_append] at h1
          omega
      refine this _ _ ?_
      intro e2
      have := congrArg List.length e2
      rw [List.length_map, List.length_take, List.length_nil] at this
      omega
  · rw [List.take_of_length_le (by omega)]; exact Nat.le_refl _
set_option maxHeartbeats 8000000 in
set_option maxRecDepth 100000 in
theorem refJoin_c (l : List Tk) (v : Value) (w : World) (h : Tw w [] v l) (hlen : (joinB (l.map (·.2))).length + l.length ≤ 1048576) : Calls Tryd.prog 14 #[v] w fun e w' => e = .returned (.string ⟨(joinB (l.map (·.2))).toArray⟩) ∧ Ext w w' := by
  obtain ⟨A, cap, rfl, hl, hm, hat⟩ := tw_form h
  replace hat := hide hat
  have hlen2 := hide (fun k => joinB_take l k)
  obtain ⟨R, hR⟩ : ∃ R : ByteArray, R = ⟨(joinB (l.map (·.2))).toArray⟩ := ⟨_, rfl⟩
  rw [← hR]
  replace hR := hide hR
  obtain ⟨n, hn⟩ : ∃ n, n = l.length := ⟨_, rfl⟩
  rw [← hn] at hl hlen ⊢
  obtain ⟨J, hJ⟩ : ∃ J, J = (joinB (l.map (·.2))).length := ⟨_, rfl⟩
  rw [← hJ] at hlen hlen2
  replace hn := hide hn
  replace hJ := hide hJ
  clear h hm
  go_enter Tryd.func14, Tryd.ntmps14
  go_wp2_with fail
  go_loopg [3, 4] n (fun gh sv iv wr => ∃ (k : Nat) (p : ByteArray), iv = .int .i64 k ∧ sv = .string p ∧ k + gh = n ∧ Hid (p.data.toList = joinB ((l.take k).map (·.2))) ∧ Ext w wr)
  case atStart => exact ⟨0, ⟨#[]⟩, rfl, rfl, by omega, (by show _ = _; rw [List.take_zero]; rfl), Ext.refl w⟩
  case round =>
    obtain ⟨k, p, rfl, rfl, hk, hp, hX⟩ := hrel
    by_cases hlt : k < n
    · obtain ⟨x, hx⟩ : ∃ x, l[k]? = some x := ⟨_, List.getElem?_eq_getElem (by have := hn.out; omega)⟩
      obtain ⟨b, o, rfl, -, hb, c0, c1⟩ := hat.out k x hx
      have k0 := cell_later' hX c0
      have k1 := cell_later' hX c1
      have hbr : b < wr.heap.size := block_lt_of_cell k0
      haveI : In b wr := ⟨hbr⟩
      have htk : (l.take (k + 1)).map (·.2) = (l.take k).map (·.2) ++ [x.2] := by rw [List.take_add_one, hx]; simp
      have hle1 := hlen2.out (k + 1)
      have hpk := hp.out
      have hps : p.size = (joinB ((l.take k).map (·.2))).length := by rw [← str_len, hpk]
      obtain ⟨xk, xs⟩ := x
      simp only at k0 k1 htk
      obtain ⟨sx, hsx⟩ : ∃ sx : ByteArray, sx = ⟨xs.toArray⟩ := ⟨_, rfl⟩
      have hsl : sx.data.toList = xs := by rw [hsx]
      rw [← hsx] at k1
      by_cases hk0 : k = 0
      · subst hk0
        have hp0 : p = ⟨#[]⟩ := by rw [str_eq p, hpk, List.take_zero]; rfl
        subst hp0
        have hnx : Hid (((⟨#[]⟩ : ByteArray) ++ sx).data.toList = joinB ((l.take (0 + 1)).map (·.2))) := by
          show _ = _
          rw [htk, List.take_zero, show (⟨#[]⟩ : ByteArray) = ⟨([] : List UInt8).toArray⟩ from rfl, str_eq sx, str_cat, str_back, hsl]; rfl
        rw [htk, List.take_zero] at hle1
        have hsz : sx.size ≤ 1048576 := by rw [← str_len, hsl]; simp only [List.map_nil, List.nil_append, joinB] at hle1; omega
        clear hle1 hpk hps hsx hsl htk c0 c1 hat hx hp
        go_wp2_with fail
        go_roundg (n - (0 + 1))
        case measure => omega
        case rel => exact ⟨0 + 1, _, by go_num, rfl, by omega, hnx, hX⟩
      · have hne : (l.take k).map (·.2) ≠ [] := by
          intro e
          have := congrArg List.length e
          rw [List.length_map, List.length_take, List.length_nil] at this
          have := hn.out
          omega
        have hnx : Hid (((p ++ ⟨#[32]⟩) ++ sx).data.toList = joinB ((l.take (k + 1)).map (·.2))) := by
          show _ = _
          rw [htk, joinB_snoc _ _ hne, str_eq p, show (⟨#[32]⟩ : ByteArray) = ⟨([32] : List UInt8).toArray⟩ from rfl, str_cat, str_eq sx, str_cat, str_back, hsl, hpk]; simp
        rw [htk, joinB_snoc _ _ hne] at hle1
        have hsz : p.size + 1 + sx.size ≤ 1048576 := by rw [← str_len sx, hsl, hps]; simp only [List.length_append, List.length_cons] at hle1; omega
        have hkI : (0 : Int) < (k : Int) := by omega
        clear hle1 hpk hps hsx hsl htk c0 c1 hat hx hp hne
        go_wp2_with fail
        go_roundg (n - (k + 1))
        case measure => omega
        case rel => exact ⟨k + 1, _, by go_num, rfl, by omega, hnx, hX⟩
    · have hge : (n : Int) ≤ k := by omega
      have hpR := hide (show p = R by rw [hR.out, str_eq p, hp.out, List.take_of_length_le (by have := hn.out; omega)])
      clear hat hlt hp
      go_wp2_with fail
      go_returns
      exact ⟨by rw [hpR.out]; rfl, hX⟩
end Go.Proofs.YtjkfkecabhcnfaaDoor
