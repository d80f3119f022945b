/-
  A helper of ours: no claim of its own. Layer 6 (row): the next row that a reader has, by the document.
-/
import Derived.Test.YthidjngipkelcaaDoorRowR
import Derived.Test.YthidjngipkelcaaDoorValY
set_option linter.unusedVariables false
set_option linter.unusedSimpArgs false
namespace Go.Proofs.YthidjngipkelcaaDoor
open Go.RowKit
attribute [local go_sem] GW.cell GW.frozen In.eq_true In.le_true In.ne In.ne' In.ne_add In.ne_add' In.lt_add Upto.le_true Upto.le_add Upto.lt_add
theorem qdr_app {w w' : World} {S : List Nat} {b base : Nat} {st : List UInt8 × Int} {v v' : Value} (h : Qdr w (ob v ++ S) b st) (hbS : b ∈ S) (hg : w.grownBy w' v.ownBlock) (hv : v'.ownBlock = v.ownBlock ∨ v'.ownBlock = some w.heap.size) (hob : ∀ k ∈ ob v, base ≤ k) (hb : b < base) : Qdr w' (ob v' ++ S) b st := by
  have hF := fr_grown hg
  have hnb : b ∉ ob v := fun m => by have := hob b m; omega
  rcases hv with e | e
  · have := h.fr hF hnb (fun x hx => by simp only [List.mem_append]; exact .inl hx)
    rwa [show ob v' = ob v by unfold ob; rw [e]]
  · have h2 : Qdr w (w.heap.size :: (ob v ++ S)) b st := h.more (fun x hx => by rcases List.mem_cons.1 hx with rfl | hx; exact .inr (Nat.le_refl _); exact .inl hx) (by simp [hbS])
    have h3 := h2.fr hF hnb (fun x hx => by simp only [List.mem_cons, List.mem_append]; exact .inr (.inl hx))
    refine h3.more (fun x hx => ?_) (by simp [hbS])
    have e2 : ob v' = [w.heap.size] := by unfold ob; rw [e]; rfl
    rw [e2] at hx
    left
    simp only [List.mem_append, List.mem_cons, List.not_mem_nil, or_false] at hx ⊢
    rcases hx with rfl | hx
    · exact .inl rfl
    · exact .inr (.inr hx)
set_option maxHeartbeats 8000000 in
set_option maxRecDepth 100000 in
theorem refRowRead_c_nil (S : List Nat) (b : Nat) (w : World) (h : Qdr w S b ([], 0)) : Calls Tryd.prog 42 #[.pointer (some ⟨b, 0, none⟩)] w fun z w' => ∃ v', z = .returned (.tuple #[v', .int .i64 (rwE ([]))]) ∧ OwnR w' w.heap.size v' (rwV ([])) ∧ Qdr w' S b (rwS ([])) ∧ Fr [b] w w' := by
  have hb := h.blt
  have hbS := h.1
  have hR0 := hide h
  clear h
  rw [show rwE [] = 5 from rfl, show rwV [] = [] from rfl, show rwS [] = ([], 5) from rfl]
  go_enter Tryd.func42, Tryd.ntmps42
  go_wp2_with (first | (go_at_call 40; refine (qbyte_c _ b [] 0 _ hR0.out).mono ?_; rintro ee w1 ⟨rfl, hR1, hF1⟩; replace hR1 : Qdr w1 S b ([], 5) := hR1; have q1 := hR1.err; have hblt1 := hR1.blt; haveI : In b w1 := ⟨hblt1⟩))
  go_quiet (fail)
  go_wp2_with fail
  go_returns
  exact ⟨_, rfl, World.ownsRow_nil _ _ _ _, hR1, hF1.drewN _⟩
set_option maxHeartbeats 8000000 in
set_option maxRecDepth 100000 in
theorem refRowRead_c_many (S : List Nat) (b : Nat) (c : UInt8) (r : List UInt8) (h8 : 8 < c.toNat) (w : World) (h : Qdr w S b (c :: r, 0)) : Calls Tryd.prog 42 #[.pointer (some ⟨b, 0, none⟩)] w fun z w' => ∃ v', z = .returned (.tuple #[v', .int .i64 (rwE (c :: r))]) ∧ OwnR w' w.heap.size v' (rwV (c :: r)) ∧ Qdr w' S b (rwS (c :: r)) ∧ Fr [b] w w' := by
  have hb := h.blt
  have hbS := h.1
  have hR0 := hide h
  clear h
  have e1 : rwE (c :: r) = 4 := by simp only [rwE]; rw [if_pos h8]
  have e2 : rwV (c :: r) = [] := by unfold rwV; rw [e1, if_neg (by decide)]
  have e3 : rwS (c :: r) = (r, 0) := by simp only [rwS]; rw [if_pos h8]
  rw [e1, e2, e3]
  have hbv : (byteVal (c :: r) 0).toNat = c.toNat := rfl
  have h8I : (8 : Int) < c.toNat := by omega
  have h255 : (c.toNat : Int) ≤ 255 := by have := c.toNat_lt; omega
  replace hbv := hide hbv
  clear e1 e2 e3
  go_enter Tryd.func42, Tryd.ntmps42
  go_wp2_with (first | (go_at_call 40; refine (qbyte_c _ b (c :: r) 0 _ hR0.out).mono ?_; rintro ee w1 ⟨rfl, hR1, hF1⟩; rw [hbv.out]; replace hR1 : Qdr w1 S b (r, 0) := hR1; have q1 := hR1.err; have hblt1 := hR1.blt; haveI : In b w1 := ⟨hblt1⟩))
  go_returns
  exact ⟨_, rfl, World.ownsRow_nil _ _ _ _, hR1, hF1⟩
set_option maxHeartbeats 8000000 in
set_option maxRecDepth 100000 in
theorem refRowRead_c_vals (S : List Nat) (b : Nat) (c : UInt8) (r : List UInt8) (h8 : c.toNat ≤ 8) (w : World) (h : Qdr w S b (c :: r, 0)) : Calls Tryd.prog 42 #[.pointer (some ⟨b, 0, none⟩)] w fun z w' => ∃ v', z = .returned (.tuple #[v', .int .i64 (rwE (c :: r))]) ∧ OwnR w' w.heap.size v' (rwV (c :: r)) ∧ Qdr w' S b (rwS (c :: r)) ∧ Fr [b] w w' := by
  have hb := h.blt
  have hbS := h.1
  have hR0 := hide h
  clear h
  obtain ⟨n, hn⟩ : ∃ n, n = c.toNat := ⟨_, rfl⟩
  obtain ⟨RE, hRE⟩ : ∃ x, x = rwE (c :: r) := ⟨_, rfl⟩
  obtain ⟨RV, hRV⟩ : ∃ x, x = rwV (c :: r) := ⟨_, rfl⟩
  obtain ⟨RS, hRS⟩ : ∃ x, x = rwS (c :: r) := ⟨_, rfl⟩
  rw [← hRE, ← hRV, ← hRS]
  have e1 : rwE (c :: r) = rsE n r := by simp only [rwE]; rw [if_neg (by omega), ← hn]
  have e3 : rwS (c :: r) = rsS n r := by simp only [rwS]; rw [if_neg (by omega), ← hn]
  have e2 : rwV (c :: r) = if rwE (c :: r) = 0 then rsV n r else [] := by unfold rwV; rw [hn]
  have hV : Hid (RV = if RE = 0 then rsV n r else []) := by rw [hRV, hRE]; exact e2
  have hI : Hid (RE = rsE n r ∧ RS = rsS n r ∧ rsV n r = [] ++ rsV n r) := ⟨hRE.trans e1, hRS.trans e3, rfl⟩
  have hbv : (byteVal (c :: r) 0).toNat = n := hn.symm
  have hn8 : n ≤ 8 := by omega
  have h8I : (n : Int) ≤ 8 := by omega
  replace hbv := hide hbv
  clear e1 e2 e3 hRE hRV hRS hn h8
  go_enter Tryd.func42, Tryd.ntmps42
  go_wp2_with (first | (go_at_call 40; refine (qbyte_c _ b (c :: r) 0 _ hR0.out).mono ?_; rintro ee w1 ⟨rfl, hR1, hF1⟩; rw [hbv.out]; replace hR1 : Qdr w1 S b (r, 0) := hR1; have q1 := hR1.err; have hblt1 := hR1.blt; haveI : In b w1 := ⟨hblt1⟩; have hlit := World.ownsRow_lit (base := w.heap.size) (e := 58) (size := 3) w1 #[] 0 hF1.size (by decide) rfl))
  go_loopg [5, 6] n (fun gh vv i wr => ∃ (k : Nat) (acc : List Vl) (st : List UInt8), i = .int .i64 k ∧ k + gh = n ∧ OwnR wr w.heap.size vv acc ∧ acc.length ≤ k ∧ Qdr wr (ob vv ++ S) b (st, 0) ∧ Hid (RE = rsE gh st ∧ RS = rsS gh st ∧ rsV n r = acc ++ rsV gh st) ∧ Fr [b] w wr)
  case atStart => exact ⟨0, [], r, rfl, by omega, hlit, Nat.le_refl _, qdr_ext (hR1.front' (.cells #[] 58) |>.more (fun x hx => by simp [ob, Value.ownBlock] at hx ⊢; exact .inl hx) (by simp [hbS])) (Ext.refl _), hI, hF1.alloc _⟩
  case round =>
    obtain ⟨k, acc, st, rfl, hk, ho, hak, hR, hIk, hF⟩ := hrel
    clear hI
    have hzF := hF.size
    have hobg := ob_ge ho
    by_cases hlt : k < n
    · have hkI : (k : Int) < n := by omega
      obtain ⟨gh', rfl⟩ : ∃ g', gk = g' + 1 := ⟨gk - 1, by omega⟩
      obtain ⟨⟨k0, n0, s0⟩, hVa⟩ : ∃ a, rdV st = a := ⟨_, rfl⟩
      have hVl : vl (rdV st) = val k0 n0 s0 := by rw [hVa]; rfl
      obtain ⟨x, hXe⟩ : ∃ x, rdE st = x := ⟨_, rfl⟩
      obtain ⟨⟨l2, x2⟩, hSt⟩ : ∃ p, rdS st = p := ⟨_, rfl⟩
      have hz := rd_zero st
      rw [hXe, hSt] at hz
      obtain ⟨i1, i2, i3⟩ := hIk.out
      simp only [rsE, rsS, rsV] at i1 i2 i3
      rw [hXe] at i1 i2
      rw [hSt] at i1 i2 i3
      rw [hVa] at i3
      have hbl' : b < wr.heap.size := hR.blt
      have hnb : ∀ k ∈ ob u5, b ≠ k := fun k hk => by have := hobg k hk; omega
      replace hXe := hide hXe
      replace hSt := hide hSt
      replace hVl := hide hVl
      clear hVa hIk
      by_cases h0 : x = 0
      · subst h0
        obtain rfl : x2 = 0 := hz rfl
        rw [if_pos rfl] at i1 i2
        have hIn := hide (show RE = rsE gh' l2 ∧ RS = rsS gh' l2 ∧ rsV n r = (acc ++ [(k0, n0, s0)]) ++ rsV gh' l2 from ⟨i1, i2, by rw [i3]; simp⟩)
        clear hz i1 i2 i3
        go_wp2_with (first | (go_at_call 66; refine (qread_c (ob u5 ++ S) b st _ hR).mono ?_; rintro ee w2 ⟨rfl, hR2, hF2⟩; rw [hVl.out, hXe.out]; rw [hSt.out] at hR2; have hz2 := hF2.size; replace hR2 := hide hR2) | (at_builtin; (refine wpl_app tVal rfl (.tmp 37) (.tmp 39) rfl rfl (own_ext (own_fr ho hF2 (by simp; omega)) (((Ext.refl w2).alloc (zW k0 n0 s0)).alloc _)) rfl (src_valB Tryd.underlying24 (w2.alloc (zW k0 n0 s0)) (k0, n0, s0) _ (w2.heap.size + 1) (World.size_alloc _ _)) (by unfold maxLen; omega) (by omega) (by simp only [World.size_alloc]; omega) ?_; intro v2 w3 ho2 hg2 hob2)))
        go_roundg gh'
        case measure => omega
        case rel =>
          have ho3 : OwnR w3 w.heap.size v2 (acc ++ [(k0, n0, s0)]) := own_appR (m := [(k0, n0, s0)]) (by simpa [rc] using ho2)
          have hR3 := qdr_app (base := w.heap.size) (qdr_ext hR2.out (((Ext.refl w2).alloc (zW k0 n0 s0)).alloc (zW k0 n0 s0))) hbS hg2 hob2 (fun k hk => (hobg k hk).1) hb
          exact ⟨k + 1, acc ++ [(k0, n0, s0)], l2, by go_num, by omega, ho3, by rw [List.length_append, List.length_singleton]; omega, hR3, hIn, (((hF.trans hF2).alloc _).alloc _).grown hg2 (fun k hk => .inr (hobg k (by unfold ob; rw [show (u5).ownBlock = some k from hk]; exact List.mem_singleton.2 rfl)).1)⟩
      · rw [if_neg h0] at i1 i2
        have hV3 := hV.out
        rw [i1, if_neg h0] at hV3
        replace i1 := hide i1
        replace i2 := hide i2
        replace hV3 := hide hV3
        clear hz i3
        replace h0 := hide h0
        have hx0 : (x != 0) = true := by simp [h0.out]
        go_wp2_with (first | (go_at_call 66; refine (qread_c (ob u5 ++ S) b st _ hR).mono ?_; rintro ee w2 ⟨rfl, hR2, hF2⟩; rw [hVl.out, hXe.out]; rw [hSt.out] at hR2; have hz2 := hF2.size; replace hR2 := hide hR2))
        go_returns
        rw [i1.out, hV3.out]
        exact ⟨_, rfl, World.ownsRow_nil _ _ _ _, by rw [i2.out]; exact qdr_ext ((hR2.out).less (fun x hx => by simp [hx]) hbS) ((Ext.refl w2).alloc _), (hF.trans hF2).alloc _⟩
    · have hk' : k = n := by omega
      have hge : (n : Int) ≤ k := by omega
      have hg0 : gk = 0 := by omega
      obtain ⟨i1, i2, i3⟩ := hIk.out
      rw [hg0] at i1 i2 i3
      replace i1 : RE = 0 := i1
      replace i2 : RS = (st, 0) := i2
      replace i3 : rsV n r = acc := by rw [i3]; show acc ++ [] = acc; simp
      have hV3 := hV.out
      rw [i1, if_pos rfl, i3] at hV3
      replace i1 := hide i1
      replace i2 := hide i2
      replace hV3 := hide hV3
      replace hk' := hide hk'
      replace hg0 := hide hg0
      clear i3
      go_wp2_with fail
      go_returns
      rw [i1.out, hV3.out]
      exact ⟨_, rfl, ho, by rw [i2.out]; exact hR.less (fun x hx => by simp [hx]) hbS, hF⟩
theorem refRowRead_c (S : List Nat) (b : Nat) (l : List UInt8) (w : World) (h : Qdr w S b (l, 0)) : Calls Tryd.prog 42 #[.pointer (some ⟨b, 0, none⟩)] w fun z w' => ∃ v', z = .returned (.tuple #[v', .int .i64 (rwE l)]) ∧ OwnR w' w.heap.size v' (rwV l) ∧ Qdr w' S b (rwS l) ∧ Fr [b] w w' := by
  rcases l with _ | ⟨c, r⟩
  · exact refRowRead_c_nil S b w h
  · by_cases h8 : 8 < c.toNat
    · exact refRowRead_c_many S b c r h8 w h
    · exact refRowRead_c_vals S b c r (by omega) w h
end Go.Proofs.YthidjngipkelcaaDoor
