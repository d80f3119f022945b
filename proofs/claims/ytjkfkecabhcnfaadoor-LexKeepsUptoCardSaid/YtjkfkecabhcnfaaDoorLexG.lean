/-
  A helper of ours: no claim of its own. Layer 19 (lex): a text without blanks outside of quotes; what is split has all of it.
-/
import Derived.Test.YtjkfkecabhcnfaaDoorLexF
set_option linter.unusedVariables false
set_option linter.unusedSimpArgs false
namespace Go.Proofs.YtjkfkecabhcnfaaDoor
open Go.RowKit
attribute [local go_sem] GW.cell GW.frozen In.eq_true In.le_true In.ne In.ne' In.ne_add In.ne_add' In.lt_add Upto.le_true Upto.le_add Upto.lt_add
/-- Without blanks outside of quotes. -/
def bareB : Bool → List UInt8 → List UInt8
  | _, [] => []
  | q, c :: r => if (if c = 39 then !q else q) || decide (c ≠ 32) then c :: bareB (if c = 39 then !q else q) r else bareB (if c = 39 then !q else q) r
theorem bare_blank (r : List UInt8) : bareB false (32 :: r) = bareB false r := by simp [bareB]
theorem bare_plain : ∀ (a r : List UInt8), (∀ x ∈ a, x ≠ 39 ∧ x ≠ 32) → bareB false (a ++ r) = a ++ bareB false r
  | [], r, _ => rfl
  | c :: a, r, h => by
    obtain ⟨h1, h2⟩ := h c (by simp)
    have ih := bare_plain a r (fun x hx => h x (by simp [hx]))
    simp [bareB, h1, h2, ih]
theorem bare_in : ∀ (a r : List UInt8), (∀ x ∈ a, x ≠ 39) → bareB true (a ++ r) = a ++ bareB true r
  | [], r, _ => rfl
  | c :: a, r, h => by
    have h1 := h c (by simp)
    have ih := bare_in a r (fun x hx => h x (by simp [hx]))
    simp [bareB, h1, ih]
theorem bare_quote (m r : List UInt8) (h : ∀ x ∈ m, x ≠ 39) : bareB false (39 :: (m ++ 39 :: r)) = 39 :: (m ++ 39 :: bareB false r) := by
  have e1 : bareB false (39 :: (m ++ 39 :: r)) = 39 :: bareB true (m ++ 39 :: r) := by simp [bareB]
  have e2 : bareB true (39 :: r) = 39 :: bareB false r := by simp [bareB]
  rw [e1, bare_in m _ h, e2]
theorem runN_all (p : Nat → UInt8 → Bool) : ∀ (l : List UInt8) (k : Nat), runN p k l = l.length → ∀ x ∈ l, ∃ i, p i x = true
  | [], _, _, x, hx => by cases hx
  | c :: r, k, h, x, hx => by
    simp only [runN] at h
    split at h
    · next hp =>
      rcases List.mem_cons.1 hx with rfl | hx
      · exact ⟨k, hp⟩
      · exact runN_all p r (k + 1) (by simpa using h) x hx
    · simp at h
theorem sign_plain {c : UInt8} (h : isS c = true) : c ≠ 39 ∧ c ≠ 32 := ⟨(isS_L h).2.2, by rintro rfl; exact absurd h (by decide)⟩
theorem bare_tok {t : Tk} (h : mayT t = true) (r : List UInt8) : bareB false (t.2 ++ r) = t.2 ++ bareB false r := by
  obtain ⟨k, a⟩ := t
  obtain ⟨h1, h2⟩ := mayT_iff.1 h
  simp only at h1 h2 ⊢
  have hpos : 0 < a.length := List.length_pos_iff.2 h1
  unfold lenK at h2
  by_cases k1 : k = 1
  · rw [if_pos k1] at h2
    refine bare_plain a r fun x hx => ?_
    obtain ⟨i, hp⟩ := runN_all _ _ _ h2 x hx
    constructor
    · rintro rfl; simp [pName, isL, isD] at hp
    · rintro rfl; simp [pName, isL, isD] at hp
  rw [if_neg k1] at h2
  by_cases k2 : k = 2
  · rw [if_pos k2] at h2
    refine bare_plain a r fun x hx => ?_
    obtain ⟨i, hp⟩ := runN_all _ _ _ h2 x hx
    constructor
    · rintro rfl; simp [pDig, isD] at hp
    · rintro rfl; simp [pDig, isD] at hp
  rw [if_neg k2] at h2
  by_cases k3 : k = 3
  · rw [if_pos k3] at h2
    obtain ⟨m, q, e, hm, hl⟩ := (quoL_iff _ _ (by omega)).1 h2
    have hq : q = [] := by
      have := congrArg List.length e
      simp at this
      exact List.eq_nil_of_length_eq_zero (by omega)
    subst hq
    subst e
    rw [List.cons_append, List.append_assoc, List.cons_append, List.nil_append, bare_quote m r hm]
    simp
  rw [if_neg k3] at h2
  by_cases k4 : k = 4
  · rw [if_pos k4] at h2
    refine bare_plain a r fun x hx => ?_
    match a, h2, hx with
    | [c], h2, hx =>
      have hs : isS c = true := by
        cases e : isS c
        · simp [sgnL, e] at h2
        · rfl
      obtain rfl : x = c := by simpa using hx
      exact sign_plain hs
    | [c, d], h2, hx =>
      have hs : isS2 c d = true := by
        cases e : isS2 c d
        · cases e2 : isS c <;> simp [sgnL, e, e2] at h2
        · rfl
      simp only [List.mem_cons, List.not_mem_nil, or_false] at hx
      rcases hx with rfl | rfl
      · exact sign_plain (isS2_S hs)
      · unfold isS2 at hs
        simp only [Bool.or_eq_true, Bool.and_eq_true, beq_iff_eq] at hs
        rcases hs with (⟨_, rfl | rfl⟩ | ⟨_, rfl⟩) | ⟨_, rfl⟩ <;> decide
    | c :: d :: e :: q, h2, _ =>
      have := sgnL_two (c :: d :: e :: q)
      simp only [List.length_cons] at h2; omega
  · rw [if_neg k4] at h2; omega
theorem bare_skip (l : List UInt8) : bareB false (skipB l) = bareB false l := by
  induction l with
  | nil => rfl
  | cons c r ih =>
    by_cases hc : c = 32
    · subst hc; rw [skipB_blank, bare_blank, ih]
    · rw [skipB_other _ hc]
theorem spF_bare : ∀ (n : Nat) (l : List UInt8) (t : List Tk), l.length < n → spF n l = .ok t → bareB false (joinB (t.map (·.2))) = bareB false l
  | 0, l, t, hn, h => by omega
  | n + 1, l, t, hn, h => by
    have hmay := spF_may (n + 1) l t h
    unfold spF at h
    rw [← bare_skip l]
    have hsl := skipB_le l
    cases e : skipB l with
    | nil => rw [e] at h; injection h with h; subst h; rfl
    | cons c r =>
      rw [e] at h hsl
      simp only at h
      by_cases h0 : tokN (c :: r) = 0
      · rw [if_pos h0] at h; cases h
      · rw [if_neg h0] at h
        cases e2 : spF n ((c :: r).drop (tokN (c :: r))) with
        | error z => rw [e2] at h; cases h
        | ok u =>
          rw [e2] at h
          injection h with h
          subst h
          have hd : ((c :: r).drop (tokN (c :: r))).length < n := by rw [List.length_drop]; simp only [List.length_cons] at hsl ⊢; omega
          have ih := spF_bare n _ u hd e2
          have hb := fun q => bare_tok (hmay (kindOf c, (c :: r).take (tokN (c :: r))) (by simp)) q
          simp only at hb
          rw [← List.take_append_drop (tokN (c :: r)) (c :: r), hb]
          rw [List.take_append_drop]
          cases u with
          | nil =>
            have hn0 : bareB false ((c :: r).drop (tokN (c :: r))) = [] := by rw [← ih]; rfl
            have h1 := hb []
            rw [List.append_nil] at h1
            show bareB false ((c :: r).take (tokN (c :: r))) = _
            rw [h1, hn0]; rfl
          | cons t2 u =>
            rw [List.map_cons, joinB_cons _ (by simp), hb, bare_blank, ih]
theorem spl_bare {l : List UInt8} {t : List Tk} (h : spl l = .ok t) : bareB false (joinB (t.map (·.2))) = bareB false l := spF_bare _ l t (Nat.lt_succ_self _) h
theorem spF_lens : ∀ (n : Nat) (l : List UInt8) (t : List Tk), spF n l = .ok t → (joinB (t.map (·.2))).length ≤ l.length * 2 ∧ t.length ≤ l.length
  | 0, l, t, h => by unfold spF at h; injection h with h; subst h; simp [joinB]
  | n + 1, l, t, h => by
    unfold spF at h
    have hsl := skipB_le l
    cases e : skipB l with
    | nil => rw [e] at h; injection h with h; subst h; simp [joinB]
    | cons c r =>
      rw [e] at h hsl
      simp only at h
      by_cases h0 : tokN (c :: r) = 0
      · rw [if_pos h0] at h; cases h
      · rw [if_neg h0] at h
        cases e2 : spF n ((c :: r).drop (tokN (c :: r))) with
        | error z => rw [e2] at h; cases h
        | ok u =>
          rw [e2] at h
          injection h with h
          subst h
          obtain ⟨i1, i2⟩ := spF_lens n _ u e2
          have hle := tokN_le (c :: r)
          rw [List.length_drop] at i1 i2
          constructor
          · rw [List.map_cons]
            cases u with
            | nil => show ((c :: r).take (tokN (c :: r))).length ≤ _; rw [List.length_take]; omega
            | cons t2 u => rw [joinB_cons _ (by simp), List.length_append, List.length_cons, List.length_take]; omega
          · rw [List.length_cons]; omega
theorem spF_err : ∀ (n : Nat) (l : List UInt8) (z : Int), spF n l = .error z → z ≠ 0
  | 0, l, z, h => by unfold spF at h; cases h
  | n + 1, l, z, h => by
    unfold spF at h
    cases e : skipB l with
    | nil => rw [e] at h; cases h
    | cons c r =>
      rw [e] at h
      simp only at h
      by_cases h0 : tokN (c :: r) = 0
      · rw [if_pos h0] at h; injection h with h; subst h; split <;> decide
      · rw [if_neg h0] at h
        cases e2 : spF n ((c :: r).drop (tokN (c :: r))) with
        | error y => rw [e2] at h; injection h with h; subst h; exact spF_err n _ _ e2
        | ok u => rw [e2] at h; cases h
theorem spl_err {l : List UInt8} {z : Int} (h : spl l = .error z) : z ≠ 0 := spF_err _ l z h
theorem mem_joinB : ∀ (l : List (List UInt8)) (a : List UInt8), a ∈ l → a.length ≤ (joinB l).length
  | [b], a, h => by obtain rfl : a = b := by simpa using h
                    exact Nat.le_refl _
  | b :: c :: r, a, h => by
    rw [joinB_cons b (by simp), List.length_append, List.length_cons]
    rcases List.mem_cons.1 h with rfl | h
    · omega
    · have := mem_joinB (c :: r) a h; omega
theorem spl_lens {l : List UInt8} {t : List Tk} (h : spl l = .ok t) : (joinB (t.map (·.2))).length ≤ l.length * 2 ∧ t.length ≤ l.length := spF_lens _ l t h
theorem tByte' : ElemT Tryd.prog 47 5 (.int .u8 0) 1 1 := ElemT.mk' Tryd.underlying47 (by kernel_rfl) rfl (by omega)
theorem src_byte {P : Program} {tx e' : TypeId} (hk : P.underlying tx = some (.slice e')) (w : World) (n : Int) (c : UInt8) (hc : n = (c.toNat : Int)) (E : TypeId) : Src P 1 tx (.slice (some ⟨w.heap.size, 0, none⟩) 1 1) 1 (bs [c]) (w.alloc (.cells #[.int .u8 n] E)) := by
  subst hc; exact src_one hk w _ E rfl
set_option maxHeartbeats 8000000 in
set_option maxRecDepth 100000 in
theorem bare_c (s : ByteArray) (hs : s.size ≤ 140737488355328) (w : World) : Calls Tryd.prog 16 #[.string s] w fun e w' => e = .returned (.string ⟨(bareB false s.data.toList).toArray⟩) ∧ Ext w w' := by
  obtain ⟨R, hR⟩ : ∃ R, R = bareB false s.data.toList := ⟨_, rfl⟩
  rw [← hR]
  replace hR := hide hR
  have hlit := hide (World.ownsRow_lit (base := w.heap.size) (e := 5) (size := 1) w #[] 0 (Nat.le_refl _) (by decide) rfl)
  go_enter Tryd.func16, Tryd.ntmps16
  go_wp2_with fail
  go_loopg [3, 4, 5] s.size (fun gh ov qv iv wr => ∃ (k : Nat) (q : Bool) (out : List UInt8), iv = .int .i64 k ∧ qv = .bool q ∧ k + gh = s.size ∧ out.length ≤ k ∧ OwnB wr w.heap.size ov out ∧ Hid (R = out ++ bareB q (s.data.toList.drop k)) ∧ Ext w wr)
  case atStart => exact ⟨0, false, [], rfl, rfl, by omega, by simp, (by have h := hlit.out; exact h), (by show _ = _; rw [hR.out]; simp), (Ext.refl w).alloc _⟩
  case round =>
    obtain ⟨k, q, out, rfl, rfl, hk, hol, ho, hRk, hX⟩ := hrel
    clear hlit hR
    have hzX := hX.size
    by_cases hlt : k < s.size
    · have hR2 := hRk.out
      rw [str_drop s k hlt] at hR2
      have hb39 := byte_eq s[k] 39
      have hb32 := byte_eq s[k] 32
      obtain ⟨q2, hq2⟩ : ∃ q2, q2 = (if s[k] = 39 then !q else q) := ⟨_, rfl⟩
      unfold bareB at hR2
      rw [← hq2] at hR2
      have b39 : ((s[k].toNat : Int) == 39) = decide (s[k] = 39) := hb39
      have b32 : ((s[k].toNat : Int) != 32) = decide (s[k] ≠ 32) := by unfold bne; rw [show ((s[k].toNat : Int) == 32) = decide (s[k] = 32) from hb32]; simp
      obtain ⟨c, hc⟩ : ∃ c, c = s[k] := ⟨_, rfl⟩
      have hcn := hide (show (s[k].toNat : Int) = (c.toNat : Int) by rw [hc])
      rw [← hc] at hR2 hq2
      by_cases h39 : c = 39
      · have c39 : ((s[k].toNat : Int) == 39) = true := by rw [b39, ← hc]; exact decide_eq_true h39
        have c32 : ((s[k].toNat : Int) != 32) = true := by rw [b32, ← hc]; exact decide_eq_true (by rw [h39]; decide)
        have e : (q2 || decide (c ≠ 32)) = true := by rw [h39]; simp
        rw [e, if_pos rfl] at hR2
        rw [if_pos h39] at hq2
        subst hq2
        replace hR2 := hide (show R = (out ++ [c]) ++ bareB (!q) (s.data.toList.drop (k + 1)) by rw [hR2]; simp)
        clear b39 b32 hb39 hb32 hRk e h39 hc
        cases q <;>
        (go_wp2_with (first | (at_builtin; (refine wpl_app tByte' rfl (.tmp 26) (.tmp 30) rfl rfl (own_ext ho ((Ext.refl wr).alloc _)) rfl (src_byte Tryd.underlying47 wr _ c hcn.out _) (by unfold maxLen; omega) (by omega) (by simp only [World.size_alloc]; omega) ?_; intro v2 w2 ho2 hg2 _)))
         go_roundg (s.size - (k + 1))
         case measure => omega
         case rel => exact ⟨k + 1, _, out ++ [c], by go_num, rfl, by omega, (by rw [List.length_append, List.length_singleton]; omega), own_app ho2, hR2, ext_grown (hX.alloc _) hg2 (fun k hk => (ho.lt k hk).1)⟩)
      · have c39 : ((s[k].toNat : Int) == 39) = false := by rw [b39, ← hc]; exact decide_eq_false h39
        rw [if_neg h39] at hq2
        subst hq2
        by_cases h32 : c = 32
        · have c32 : ((s[k].toNat : Int) != 32) = false := by rw [b32, ← hc]; exact decide_eq_false (by simp [h32])
          cases q2 with
          | false =>
            rw [show (false || decide (c ≠ 32)) = false by simp [h32], if_neg (by decide)] at hR2
            replace hR2 := hide hR2
            clear b39 b32 hb39 hb32 hRk h39 hc h32
            go_wp2_with fail
            go_roundg (s.size - (k + 1))
            case measure => omega
            case rel => exact ⟨k + 1, _, out, by go_num, rfl, by omega, by omega, ho, hR2, hX⟩
          | true =>
            rw [Bool.true_or, if_pos rfl] at hR2
            replace hR2 := hide (show R = (out ++ [c]) ++ bareB true (s.data.toList.drop (k + 1)) by rw [hR2]; simp)
            clear b39 b32 hb39 hb32 hRk h39 hc h32
            go_wp2_with (first | (at_builtin; (refine wpl_app tByte' rfl (.tmp 26) (.tmp 30) rfl rfl (own_ext ho ((Ext.refl wr).alloc _)) rfl (src_byte Tryd.underlying47 wr _ c hcn.out _) (by unfold maxLen; omega) (by omega) (by simp only [World.size_alloc]; omega) ?_; intro v2 w2 ho2 hg2 _)))
            go_roundg (s.size - (k + 1))
            case measure => omega
            case rel => exact ⟨k + 1, _, out ++ [c], by go_num, rfl, by omega, (by rw [List.length_append, List.length_singleton]; omega), own_app ho2, hR2, ext_grown (hX.alloc _) hg2 (fun k hk => (ho.lt k hk).1)⟩
        · have c32 : ((s[k].toNat : Int) != 32) = true := by rw [b32, ← hc]; exact decide_eq_true h32
          rw [show (q2 || decide (c ≠ 32)) = true by simp [h32], if_pos rfl] at hR2
          replace hR2 := hide (show R = (out ++ [c]) ++ bareB q2 (s.data.toList.drop (k + 1)) by rw [hR2]; simp)
          clear b39 b32 hb39 hb32 hRk h39 hc h32
          cases q2 <;>
          (go_wp2_with (first | (at_builtin; (refine wpl_app tByte' rfl (.tmp 26) (.tmp 30) rfl rfl (own_ext ho ((Ext.refl wr).alloc _)) rfl (src_byte Tryd.underlying47 wr _ c hcn.out _) (by unfold maxLen; omega) (by omega) (by simp only [World.size_alloc]; omega) ?_; intro v2 w2 ho2 hg2 _)))
           go_roundg (s.size - (k + 1))
           case measure => omega
           case rel => exact ⟨k + 1, _, out ++ [c], by go_num, rfl, by omega, (by rw [List.length_append, List.length_singleton]; omega), own_app ho2, hR2, ext_grown (hX.alloc _) hg2 (fun k hk => (ho.lt k hk).1)⟩)
    · have hge : (s.size : Int) ≤ k := by omega
      have hR2 := hRk.out
      rw [List.drop_of_length_le (by rw [str_len]; omega)] at hR2
      unfold bareB at hR2
      rw [List.append_nil] at hR2
      replace hR2 := hide hR2
      have hby : Hid (By wr [] u3 out) := Sl.own (S := []) ho (by simp)
      have hrs := hide (fun w' (hX : Ext wr w') => run_str (P := Tryd.prog) (src := 47) (dst := 9) Tryd.underlying47 Tryd.underlying5 Tryd.underlying9 (Sl.ext hby.out hX))
      have hrs0 := hrs.out wr (Ext.refl wr)
      clear hRk hlt
      go_wp2_with fail
      go_returns
      exact ⟨by rw [hR2.out]; rfl, hX⟩
end Go.Proofs.YtjkfkecabhcnfaaDoor
