/-
  A helper of ours: no claim of its own. Layer 3 (bin): readers in later worlds.
-/
import Derived.Test.YtoghgjgaolinaaaBinA
import Derived.Test.YtoghgjgaolinaaaBinS
import Derived.Test.YtoghgjgaolinaaaRowA
import Derived.WalkSpells
import Derived.Deep.LoopGhost
set_option linter.unusedVariables false
set_option linter.unusedSimpArgs false
namespace Go.Proofs.Ytoghgjgaolinaaa

theorem u8_low (k : Nat) (h : k < 256) : (UInt8.ofNat k).toNat = k := by simp; omega
/-- The byte that ends a number, and where it stands. -/
theorem grb_top (m : Nat) : ∀ (n : Nat) (r : List UInt8), n ≤ m → lead (grb n ++ r) + 1 = (grb n).length ∧ ((grb n ++ r).getD (lead (grb n ++ r)) 0).toNat < 128 ∧
    (n ≠ 0 → ((grb n ++ r).getD (lead (grb n ++ r)) 0).toNat ≠ 0) ∧ ((grb n ++ r).getD (lead (grb n ++ r)) 0).toNat * 128 ^ lead (grb n ++ r) ≤ n := by
  induction m with
  | zero =>
    intro n r hn
    obtain rfl : n = 0 := by omega
    rw [grb_small (by omega)]
    simp [lead]
  | succ m ih =>
    intro n r hn
    by_cases h : n < 128
    · rw [grb_small h]
      have e := u8_low n (by omega)
      have hl : lead ([UInt8.ofNat n] ++ r) = 0 := by
        show lead (UInt8.ofNat n :: r) = 0
        unfold lead; rw [if_neg (by omega)]
      rw [hl]
      have hg : ([UInt8.ofNat n] ++ r).getD 0 0 = UInt8.ofNat n := rfl
      rw [hg, e]
      exact ⟨rfl, h, id, by simp⟩
    · have hd : n / 128 ≤ m := by omega
      obtain ⟨h1, h2, h3, h4⟩ := ih (n / 128) r hd
      rw [grb_great h]
      have e := u8_low (n % 128 + 128) (by omega)
      have hl : lead ((UInt8.ofNat (n % 128 + 128) :: grb (n / 128)) ++ r) = lead (grb (n / 128) ++ r) + 1 := by
        show lead (UInt8.ofNat (n % 128 + 128) :: (grb (n / 128) ++ r)) = _
        rw [lead, if_pos (by omega)]
      rw [hl]
      have hg : ((UInt8.ofNat (n % 128 + 128) :: grb (n / 128)) ++ r).getD (lead (grb (n / 128) ++ r) + 1) 0 = (grb (n / 128) ++ r).getD (lead (grb (n / 128) ++ r)) 0 := rfl
      rw [hg]
      refine ⟨by simp; exact h1, h2, fun _ => h3 (by omega), ?_⟩
      rw [Nat.pow_succ, ← Nat.mul_assoc]
      have := Nat.mul_le_mul_right 128 h4
      omega
theorem grb_gval (m : Nat) : ∀ n, n ≤ m → gval (grb n) = n := by
  induction m with
  | zero =>
    intro n hn
    obtain rfl : n = 0 := by omega
    rw [grb_small (n := 0) (by omega)]
    rfl
  | succ m ih =>
    intro n hn
    by_cases h : n < 128
    · rw [grb_small h]; simp only [gval, u8_low n (by omega)]; omega
    · rw [grb_great h]; simp only [gval, u8_low (n % 128 + 128) (by omega), ih (n / 128) (by omega)]; omega
theorem par_grp {most n : Nat} (r : List UInt8) (hm : (grb n).length ≤ most) (h64 : n < 18446744073709551616) : parE most (grb n ++ r) = 0 ∧ parV most (grb n ++ r) = n ∧ parR most (grb n ++ r) = r := by
  obtain ⟨h1, h2, h3, h4⟩ := grb_top n n r (Nat.le_refl _)
  have e : parE most (grb n ++ r) = 0 := by
    unfold parE
    rw [if_neg (by omega), if_neg (by simp; omega), if_neg, if_neg]
    · rintro ⟨ha, hb⟩
      have : n = 0 := by
        by_cases hn : n = 0
        · exact hn
        · exact absurd hb (h3 hn)
      subst this
      rw [grb_small (by omega)] at h1
      simp at h1; rw [grb_small (by omega)] at ha; simp at ha; omega
    · rintro ⟨ha, hb⟩
      rw [ha] at h4 hb
      have := Nat.mul_le_mul_right (128 ^ 9) hb
      omega
  have ht : (grb n ++ r).take (lead (grb n ++ r) + 1) = grb n := by rw [h1]; simp
  have hd : (grb n ++ r).drop (lead (grb n ++ r) + 1) = r := by rw [h1]; simp
  exact ⟨e, by unfold parV; rw [if_pos e, ht, grb_gval n n (Nat.le_refl _)], by unfold parR; rw [if_pos e, hd]⟩

theorem num_back (n : Int) (h0 : 0 ≤ n) (h1 : n ≤ 9223372036854775807) (r : List UInt8) : (numVal 9 (numB n ++ r) 0 : Int) = n ∧ numSt 9 (numB n ++ r) 0 = (r, 0) := by
  have hl := grb_le 8 n.toNat (by have : (128 : Nat) ^ (8 + 1) = 9223372036854775808 := by decide
                                  omega)
  obtain ⟨a, b, c⟩ := par_grp (most := 9) (n := n.toNat) r hl (by omega)
  unfold numVal numSt numB
  rw [if_pos rfl, if_pos rfl, if_neg (by omega), a, b, c]
  exact ⟨by omega, rfl⟩
theorem unz_zz (n : Int) : unz (zz n).toNat = n := by
  unfold unz zz
  split <;> split <;> omega
theorem zz_unz (v : Nat) : (zz (unz v)).toNat = v := by
  unfold unz zz
  split <;> split <;> omega
theorem int_back (n : Int) (h : -9223372036854775808 ≤ n ∧ n ≤ 9223372036854775807) (r : List UInt8) : unz (numVal 10 (intB n ++ r) 0) = n ∧ numSt 10 (intB n ++ r) 0 = (r, 0) := by
  have hz := zz_in h
  obtain ⟨a, b, c⟩ := par_grp (most := 10) (n := (zz n).toNat) r (grb_ten (by omega)) (by omega)
  unfold numVal numSt intB
  rw [if_pos rfl, if_pos rfl, a, b, c]
  exact ⟨unz_zz n, rfl⟩
theorem text_back (l : List UInt8) (hl : l.length ≤ 140737488355000) (r : List UInt8) : textVal l.length (textB l ++ r) 0 = l ∧ textSt l.length (textB l ++ r) 0 = (r, 0) := by
  have h := num_back (l.length : Int) (by omega) (by omega) (l ++ r)
  have e : numB (l.length : Int) = grb l.length := by unfold numB; rw [if_neg (by omega)]; simp
  rw [e] at h
  have e2 : textB l ++ r = grb l.length ++ (l ++ r) := by unfold textB; rw [List.append_assoc]
  rw [e2]
  have hv : numVal 9 (grb l.length ++ (l ++ r)) 0 = l.length := by have := h.1; omega
  obtain ⟨h1, h2⟩ := text_ok (most := l.length) h.2 (by rw [hv]; omega) (by rw [hv]; simp)
  rw [h1, h2, hv]
  simp

/-- Each number has one form. -/
theorem grb_of : ∀ (p : List UInt8), p ≠ [] → lead p + 1 = p.length → (0 < lead p → (p.getD (lead p) 0).toNat ≠ 0) → grb (gval p) = p ∧ (p.length ≠ 1 → gval p ≠ 0) ∧ ((p.getD (lead p) 0).toNat ≠ 0 → gval p ≠ 0)
  | [], h, _, _ => absurd rfl h
  | [c], _, h1, _ => by
    have hc : c.toNat < 128 := by
      by_cases h : 128 ≤ c.toNat
      · simp [lead, h] at h1
      · omega
    have hl : lead [c] = 0 := by simp [lead]; omega
    have hg : gval [c] = c.toNat := by simp [gval]; omega
    rw [hg, hl]
    refine ⟨by rw [grb_small hc]; simp, by simp, id⟩
  | c :: d :: r, _, h1, h2 => by
    have hc : 128 ≤ c.toNat := by
      by_cases h : 128 ≤ c.toNat
      · exact h
      · simp [lead, h] at h1
    have hl : lead (c :: d :: r) = lead (d :: r) + 1 := by rw [lead, if_pos hc]
    rw [hl] at h1 h2
    have hlast : ((d :: r).getD (lead (d :: r)) 0).toNat ≠ 0 := h2 (by omega)
    obtain ⟨h3, h4, h5⟩ := grb_of (d :: r) (by simp) (by simpa using h1) (fun _ => hlast)
    have hpos := h5 hlast
    have hg : gval (c :: d :: r) = c.toNat % 128 + 128 * gval (d :: r) := rfl
    have hcl := c.toNat_lt
    refine ⟨?_, fun _ => by rw [hg]; omega, fun _ => by rw [hg]; omega⟩
    rw [hg, grb_great (by omega), show (c.toNat % 128 + 128 * gval (d :: r)) / 128 = gval (d :: r) by omega, h3, show (c.toNat % 128 + 128 * gval (d :: r)) % 128 + 128 = c.toNat by omega]
    simp
theorem lead_take : ∀ l : List UInt8, lead l < l.length → lead (l.take (lead l + 1)) = lead l
  | [], h => by simp at h
  | c :: r, h => by
    by_cases hc : 128 ≤ c.toNat
    · have hl : lead (c :: r) = lead r + 1 := by rw [lead, if_pos hc]
      rw [hl] at h ⊢
      rw [List.take_succ_cons, lead, if_pos hc, lead_take r (by simpa using h)]
    · have hl : lead (c :: r) = 0 := by rw [lead, if_neg hc]
      rw [hl]
      rw [List.take_succ_cons, lead, if_neg hc]
theorem par_short {most : Nat} {l : List UInt8} (h : parE most l = 0) : grb (parV most l) = l.take (lead l + 1) ∧ l.take (lead l + 1) ++ parR most l = l := by
  obtain ⟨h1, h2, _⟩ := parE_ne h
  have hlt := lead_take l h2
  refine ⟨?_, by unfold parR; rw [if_pos h]; exact List.take_append_drop _ _⟩
  unfold parV
  rw [if_pos h]
  have hlen : (l.take (lead l + 1)).length = lead l + 1 := by rw [List.length_take]; omega
  refine (grb_of _ (fun e => by rw [e] at hlen; simp at hlen) (by rw [hlt, hlen]) (fun hp => ?_)).1
  rw [hlt] at hp ⊢
  have : (l.take (lead l + 1)).getD (lead l) 0 = l.getD (lead l) 0 := by
    rw [List.getD_eq_getElem?_getD, List.getD_eq_getElem?_getD, List.getElem?_take, if_pos (by omega)]
  rw [this]
  unfold parE at h
  rw [if_neg (by omega), if_neg (by omega)] at h
  split at h
  · cases h
  split at h
  · cases h
  · rename_i h3; intro e; exact h3 ⟨hp, e⟩
end Go.Proofs.Ytoghgjgaolinaaa
set_option linter.unusedVariables false
set_option linter.unusedSimpArgs false
namespace Go.Proofs.Ytoghgjgaolinaaa
open Go.RowKit
attribute [local go_sem] GW.cell GW.frozen In.eq_true In.le_true In.ne In.ne' In.ne_add In.ne_add' In.lt_add Upto.le_true Upto.le_add Upto.lt_add
/-- A value's bytes. -/
def valB (a : Vl) : List UInt8 := if may a then (if a.1 = 1 then 1 :: intB a.2.1 else 2 :: textB a.2.2.data.toList) else []
theorem intB_len {n : Int} (h : -9223372036854775808 ≤ n ∧ n ≤ 9223372036854775807) : (intB n).length ≤ 10 := grb_ten (by have := zz_in h; omega)
theorem textB_len {s : ByteArray} (h : s.size ≤ 64) : (textB s.data.toList).length ≤ 74 := by
  unfold textB
  rw [List.length_append, size_list]
  have := grb_ten (n := s.size) (by omega); omega
set_option maxHeartbeats 1000000 in
set_option maxRecDepth 100000 in
theorem numBytes_c (n : Int) (h : -9223372036854775808 ≤ n ∧ n ≤ 9223372036854775807) (w : World) : Calls Try.prog 189 #[.int .i64 n] w fun e w' => ∃ v, e = .returned v ∧ OwnB w' w.heap.size v (1 :: intB n) ∧ Ext w w' := by
  have hl := intB_len h
  have hlit := hide (World.ownsRow_lit (base := w.heap.size) (e := 5) (size := 1) w #[.int .u8 1] 1 (Nat.le_refl _) (by decide) rfl)
  have hc := hide (fun w => int_c n h w)
  clear h
  go_enter Try.func189, Try.ntmps189
  go_wp2_with (first | (go_at_call 192; refine (hc.out _).mono ?_; rintro ee w1 ⟨v1, rfl, ho1, hx1⟩; have hz1 := hx1.size; simp only [World.size_alloc] at hz1; have hk1 := own_ext hlit.out hx1) | (at_builtin; (refine wpl_app tBytes rfl (.tmp 3) (.tmp 5) rfl rfl hk1 rfl (src_sl Try.underlying159 (Sl.own (S := []) ho1 (by simp)) (bs_one _) (by omega)) (by unfold maxLen; omega) (by omega) (by omega) ?_; intro v2 w2 hp2 hg2 _; replace hp2 := own_app (l := [1]) hp2; have he2 := ext_grown (((Ext.refl w).alloc _).trans hx1) hg2 (fun k hk => (hlit.out.lt k hk).1))))
  go_returns
  exact ⟨_, rfl, hp2, he2⟩
set_option maxHeartbeats 1000000 in
set_option maxRecDepth 100000 in
theorem textBytes_c (s : ByteArray) (hs : s.size ≤ 64) (w : World) : Calls Try.prog 197 #[.string s] w fun e w' => ∃ v, e = .returned v ∧ OwnB w' w.heap.size v (2 :: textB s.data.toList) ∧ Ext w w' := by
  have hl := textB_len hs
  have hlit := hide (World.ownsRow_lit (base := w.heap.size) (e := 5) (size := 1) w #[.int .u8 2] 1 (Nat.le_refl _) (by decide) rfl)
  have hc := hide (fun w => text_c s (by omega) w)
  clear hs
  go_enter Try.func197, Try.ntmps197
  go_wp2_with (first | (go_at_call 200; refine (hc.out _).mono ?_; rintro ee w1 ⟨v1, rfl, ho1, hx1⟩; have hz1 := hx1.size; simp only [World.size_alloc] at hz1; have hk1 := own_ext hlit.out hx1) | (at_builtin; (refine wpl_app tBytes rfl (.tmp 3) (.tmp 5) rfl rfl hk1 rfl (src_sl Try.underlying159 (Sl.own (S := []) ho1 (by simp)) (bs_one _) (by omega)) (by unfold maxLen; omega) (by omega) (by omega) ?_; intro v2 w2 hp2 hg2 _; replace hp2 := own_app (l := [2]) hp2; have he2 := ext_grown (((Ext.refl w).alloc _).trans hx1) hg2 (fun k hk => (hlit.out.lt k hk).1))))
  go_returns
  exact ⟨_, rfl, hp2, he2⟩
set_option maxHeartbeats 1000000 in
set_option maxRecDepth 100000 in
theorem vbytes_c (k n : Int) (s : ByteArray) (hn : -9223372036854775808 ≤ n ∧ n ≤ 9223372036854775807) (w : World) : Calls Try.prog 131 #[val k n s] w fun e w' => ∃ v, e = .returned v ∧ OwnB w' w.heap.size v (valB (k, n, s)) ∧ Ext w w' := by
  unfold valB may
  simp only
  rcases may_cases (k := k) (n := n) (s := s) with ⟨rfl, h⟩ | ⟨rfl, rfl, h⟩ | ⟨hm, h⟩
  · rw [may_num h, if_pos rfl, if_pos rfl]
    have h1 := hide (fun w => inner_num n s h w)
    have hc := hide (fun w => numBytes_c n hn w)
    clear h hn
    go_enter Try.func131, Try.ntmps131
    go_wp2_with (first | (go_at_call 145; with_reducible refine seq_gw (h1.out _) ?_; intro g) | (go_at_call 189; refine (hc.out _).mono ?_; rintro ee w1 ⟨v1, rfl, ho1, hx1⟩))
    go_returns
    have hz := GW.size g
    exact ⟨_, rfl, own_base ho1 (by simp only [World.size_alloc] at hz; omega), (((Ext.refl w).alloc _).trans g.grown).trans hx1⟩
  · rw [may_text h, if_pos rfl, if_neg (by decide)]
    have h1 := hide (fun w => inner_text s h w)
    have hc := hide (fun w => textBytes_c s h w)
    clear h hn
    go_enter Try.func131, Try.ntmps131
    go_wp2_with (first | (go_at_call 145; with_reducible refine seq_gw (h1.out _) ?_; intro g) | (go_at_call 197; refine (hc.out _).mono ?_; rintro ee w1 ⟨v1, rfl, ho1, hx1⟩))
    go_returns
    have hz := GW.size g
    exact ⟨_, rfl, own_base ho1 (by simp only [World.size_alloc] at hz; omega), (((Ext.refl w).alloc _).trans g.grown).trans hx1⟩
  · rw [hm, if_neg (by decide)]
    have h1 := hide (fun w => inner_none k n s h w)
    clear h hn
    go_enter Try.func131, Try.ntmps131
    go_wp2_with (go_at_call 145; with_reducible refine seq_gw (h1.out _) ?_; intro g)
    go_returns
    exact ⟨_, rfl, World.ownsRow_nil _ _ _ _, ((Ext.refl w).alloc _).trans g.grown⟩
end Go.Proofs.Ytoghgjgaolinaaa
set_option linter.unusedVariables false
set_option linter.unusedSimpArgs false
namespace Go.Proofs.Ytoghgjgaolinaaa
open Go.RowKit
attribute [local go_sem] GW.cell GW.frozen In.eq_true In.le_true In.ne In.ne' In.ne_add In.ne_add' In.lt_add Upto.le_true Upto.le_add Upto.lt_add
attribute [-go_sem] sliced
attribute [local go_sem] sliced_eq

end Go.Proofs.Ytoghgjgaolinaaa
set_option linter.unusedVariables false
set_option linter.unusedSimpArgs false
namespace Go.Proofs.Ytoghgjgaolinaaa
open Go.RowKit
attribute [local go_sem] GW.cell GW.frozen In.eq_true In.le_true In.ne In.ne' In.ne_add In.ne_add' In.lt_add Upto.le_true Upto.le_add Upto.lt_add
attribute [-go_sem] sliced
attribute [local go_sem] sliced_eq


end Go.Proofs.Ytoghgjgaolinaaa
set_option linter.unusedVariables false
set_option linter.unusedSimpArgs false
namespace Go.Proofs.Ytoghgjgaolinaaa
open Go.RowKit
attribute [local go_sem] GW.cell GW.frozen In.eq_true In.le_true In.ne In.ne' In.ne_add In.ne_add' In.lt_add Upto.le_true Upto.le_add Upto.lt_add
attribute [-go_sem] sliced
attribute [local go_sem] sliced_eq

def manyN (most : Nat) (l : List UInt8) : Nat := if parE most l = 0 then lead l + 1 else 0
theorem manyN_no {most : Nat} {l : List UInt8} (h : parE most l = 4 ∨ parE most l = 5) : manyN most l = 0 := by unfold manyN; rw [if_neg (by omega)]
theorem gval_from {l : List UInt8} {n k : Nat} {c : UInt8} (hk : k < n) (hc : l[k]? = some c) : gval ((l.take n).drop k) = c.toNat % 128 + 128 * gval ((l.take n).drop (k + 1)) := by
  have h : (l.take n)[k]? = some c := by rw [List.getElem?_take, if_pos hk]; exact hc
  have hl : k < (l.take n).length := by
    rcases Nat.lt_or_ge k (l.take n).length with h2 | h2
    · exact h2
    · rw [List.getElem?_eq_none h2] at h; cases h
  rw [List.drop_eq_getElem_cons hl]
  rw [List.getElem?_eq_getElem hl] at h
  cases h
  rfl
theorem gval_mono : ∀ (l : List UInt8) (k : Nat), gval (l.drop k) ≤ gval l
  | [], k => by simp
  | c :: r, 0 => by simp
  | c :: r, k + 1 => by have := gval_mono r k; simp only [List.drop_succ_cons, gval]; omega
theorem numVal_in (most : Nat) (hm : most = 9 ∨ most = 10) (l : List UInt8) (e : Int) : (numVal most l e : Int) ≤ 18446744073709551615 ∧ (most = 9 → (numVal most l e : Int) ≤ 9223372036854775807) := by
  unfold numVal
  split
  · rcases hm with rfl | rfl
    · have := parV_nine l; exact ⟨by omega, fun _ => this⟩
    · exact ⟨parV_ten l, fun h => absurd h (by decide)⟩
  · exact ⟨by decide, fun _ => by decide⟩
end Go.Proofs.Ytoghgjgaolinaaa
set_option linter.unusedVariables false
set_option linter.unusedSimpArgs false
namespace Go.Proofs.Ytoghgjgaolinaaa
open Go.RowKit
end Go.Proofs.Ytoghgjgaolinaaa
