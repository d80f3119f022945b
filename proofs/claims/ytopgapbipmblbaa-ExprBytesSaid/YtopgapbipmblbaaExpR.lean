/-
  A helper of ours: no claim of its own. Layer 17 (expr): an expression read back, by the code.
-/
import Derived.Test.YtopgapbipmblbaaExpQ
import Derived.Test.YtopgapbipmblbaaExpD
import Derived.Test.YtopgapbipmblbaaOwn
set_option linter.unusedVariables false
set_option linter.unusedSimpArgs false
namespace Go.Proofs.Ytopgapbipmblbaa
open Go.RowKit
attribute [local go_sem] GW.cell GW.frozen In.eq_true In.le_true In.ne In.ne' In.ne_add In.ne_add' In.lt_add Upto.le_true Upto.le_add Upto.lt_add
theorem src_wordQ {P : Program} {tx e' : TypeId} (hk : P.underlying tx = some (.slice e')) (w : World) (x : Vl) (E : TypeId) (B : Nat) (hB : B = w.heap.size) : Src P 3 tx (.slice (some ⟨B, 0, none⟩) 1 1) 1 (vc x) (w.alloc (.cells #[.int .i64 x.1, .int .i64 x.2.1, .string x.2.2] E)) := by
  subst hB; exact src_word hk w x E
theorem rdrx_app {w w' : World} {S : List Nat} {b base : Nat} {st : List UInt8 × Int} {v v' : Value} (h : Rdr w (ob v ++ S) b st) (hbS : b ∈ S) (hg : w.grownBy w' v.ownBlock) (hv : v'.ownBlock = v.ownBlock ∨ v'.ownBlock = some w.heap.size) (hob : ∀ k ∈ ob v, base ≤ k) (hb : b < base) : Rdr w' (ob v' ++ S) b st := by
  have hF := fr_grown hg
  have hnb : b ∉ ob v := fun m => by have := hob b m; omega
  rcases hv with e | e
  · have := h.fr hF hnb (fun x hx => by simp only [List.mem_append]; exact .inl hx)
    rwa [show ob v' = ob v by unfold ob; rw [e]]
  · have h2 : Rdr w (w.heap.size :: (ob v ++ S)) b st := h.more (fun x hx => by rcases List.mem_cons.1 hx with rfl | hx; exact .inr (Nat.le_refl _); exact .inl hx) (by simp [hbS])
    have h3 := h2.fr hF hnb (fun x hx => by simp only [List.mem_cons, List.mem_append]; exact .inr (.inl hx))
    refine h3.more (fun x hx => ?_) (by simp [hbS])
    have e2 : ob v' = [w.heap.size] := by unfold ob; rw [e]; rfl
    rw [e2] at hx
    left
    simp only [List.mem_append, List.mem_cons, List.not_mem_nil, or_false] at hx ⊢
    rcases hx with rfl | hx
    · exact .inl rfl
    · exact .inr (.inr hx)

theorem take_snoc_at {α : Type} (l : List α) (k : Nat) (x : α) (h : l[k]? = some x) : l.take (k + 1) = l.take k ++ [x] := by
  rw [List.take_add_one, h, Option.toList_some]
set_option maxHeartbeats 8000000 in
set_option maxRecDepth 100000 in
theorem exprRead_c (l : List Vl) (hn : ∀ x ∈ l, inW x) (hz : formE l = 0) (S : List Nat) (b : Nat) (r : List UInt8) (w : World) (h : Rdr w S b (UInt8.ofNat l.length :: (wordsB l ++ r), 0)) : Calls Try.prog 14 #[.pointer (some ⟨b, 0, none⟩)] w fun z w' => ∃ v', z = .returned (.tuple #[v', .int .i64 0]) ∧ OwnX w' w.heap.size v' l ∧ Rdr w' S b (r, 0) ∧ Fr [b] w w' := by
  have hb := h.blt
  have hbS := h.1
  have hR0 := hide h
  clear h
  obtain ⟨h1, l64, hgood⟩ : 1 ≤ l.length ∧ l.length ≤ 64 ∧ Hid (∀ x ∈ l, okW x = true) := by
    obtain ⟨t, tg, et, l64⟩ := formE_tree hz
    exact ⟨by rw [et]; exact t.flat_pos, l64, form_ok hz⟩
  have hform := hide (fun v w (hw : Rw w [] v l) => form_c l v w hw)
  rw [hz] at hform
  have hin := hide hn
  have hbv : Hid (((byteVal (UInt8.ofNat l.length :: (wordsB l ++ r)) 0).toNat : Nat) = l.length) := by
    show _ = _
    rw [show (byteVal (UInt8.ofNat l.length :: (wordsB l ++ r)) 0).toNat = l.length % 256 from rfl, Nat.mod_eq_of_lt (by omega)]
  have hnI0 : ((l.length : Int) == 0) = false := by rw [beq_eq_false_iff_ne]; omega
  have hnI1 : (l.length : Int) ≤ 64 := by omega
  clear hz hn
  go_enter Try.func14, Try.ntmps14
  go_wp2_with (first | (go_at_call 33; refine (rbyte_c _ b (UInt8.ofNat l.length :: (wordsB l ++ r)) 0 _ hR0.out).mono ?_; rintro ee w1 ⟨rfl, hR1, hF1⟩; rw [hbv.out]; replace hR1 : Rdr w1 S b (wordsB l ++ r, 0) := hR1; clear hR0 hbv) | (go_at_call 34; refine (err_c _ b (wordsB l ++ r) 0 _ hR1).mono ?_; rintro ee w9 ⟨rfl, rfl⟩))
  go_loopg [6, 25] l.length (fun gh vv i wr => ∃ (k : Nat), i = .int .i64 k ∧ k + gh = l.length ∧ OwnX wr w.heap.size vv (l.take k) ∧ Rdr wr (ob vv ++ S) b (wordsB (l.drop k) ++ r, 0) ∧ Fr [b] w wr)
  case atStart => exact ⟨0, rfl, by omega, World.ownsRow_nil _ _ _ _, hR1, hF1⟩
  case round =>
    obtain ⟨k, rfl, hk, ho, hR, hF⟩ := hrel
    clear hR1 hF1
    have hzF := hF.size
    have hobg := ob_ge ho
    by_cases hlt : k < l.length
    · have hkI : (k : Int) < l.length := by omega
      obtain ⟨⟨k0, n0, s0⟩, hx⟩ : ∃ x, l[k]? = some x := ⟨_, List.getElem?_eq_getElem hlt⟩
      have hmem := List.mem_of_getElem? hx
      have hok := hgood.out _ hmem
      have hiw := hin.out _ hmem
      have hdr : l.drop k = (k0, n0, s0) :: l.drop (k + 1) := by
        rw [List.drop_eq_getElem_cons hlt]
        rw [List.getElem?_eq_getElem hlt, Option.some.injEq] at hx
        rw [hx]
      rw [hdr, wordsB_cons, List.append_assoc] at hR
      have hR' := hide hR
      have htk := hide (take_snoc_at l k _ hx)
      have hlk : (l.take k).length = k := by rw [List.length_take]; omega
      have hnb : ∀ q ∈ ob u6, b ≠ q := fun q hq => by have := hobg q hq; omega
      have hrd := hide (readOp_c (ob u6 ++ S) b (k0, n0, s0) hok hiw (wordsB (l.drop (k + 1)) ++ r) wr hR)
      clear hdr hR hmem hok hiw hx
      go_wp2_with (first | (go_at_call 35; refine hrd.out.mono ?_; rintro ee w2 ⟨rfl, hR2, hF2⟩; have hz2 := hF2.size; replace hR2 := hide hR2) | (at_builtin; (refine wpl_app tOp rfl (.tmp 35) (.tmp 37) rfl rfl (own_ext (own_fr ho hF2 (by simp; omega)) (((Ext.refl w2).alloc (.cells #[.int .i64 k0, .int .i64 n0, .string s0] 57)).alloc _)) rfl (src_wordQ Try.underlying23 (w2.alloc (.cells #[.int .i64 k0, .int .i64 n0, .string s0] 57)) (k0, n0, s0) _ (w2.heap.size + 1) (World.size_alloc _ _).symm) (by unfold maxLen; omega) (by omega) (by simp only [World.size_alloc]; omega) ?_; intro v2 w3 ho2 hg2 hob2)))
      go_roundg (l.length - (k + 1))
      case measure => omega
      case rel =>
        have ho3 : OwnX w3 w.heap.size v2 (l.take k ++ [(k0, n0, s0)]) := own_appX (m := [(k0, n0, s0)]) (by simpa [rc] using ho2)
        rw [← htk.out] at ho3
        have hR3 := rdrx_app (base := w.heap.size) (rdr_ext hR2.out (((Ext.refl w2).alloc (.cells #[.int .i64 k0, .int .i64 n0, .string s0] 57)).alloc (.cells #[.int .i64 k0, .int .i64 n0, .string s0] 57))) hbS hg2 hob2 (fun q hq => (hobg q hq).1) hb
        exact ⟨k + 1, by go_num, by omega, ho3, hR3, (((hF.trans hF2).alloc _).alloc _).grown hg2 (fun q hq => .inr (hobg q (by unfold ob; rw [show (u6).ownBlock = some q from hq]; exact List.mem_singleton.2 rfl)).1)⟩
    · have hge : (l.length : Int) ≤ k := by omega
      rw [List.take_of_length_le (by omega)] at ho
      rw [List.drop_eq_nil_of_le (by omega)] at hR
      replace hR : Rdr wr (ob u6 ++ S) b (r, 0) := hR
      have hf := hide (hform.out u6 wr (own_xw (S := []) ho (by simp)))
      have ho' := hide ho
      have hR' := hide (hR.less (S' := S) (fun x hx => by simp [hx]) hbS)
      clear ho hR hform
      go_wp2_with (go_at_call 11; (with_reducible refine seq_gw hf.out ?_); intro g)
      go_returns
      exact ⟨_, rfl, own_ext ho'.out g.grown, rdr_ext hR'.out g.grown, hF.trans (Fr.of_ext g.grown)⟩
end Go.Proofs.Ytopgapbipmblbaa
