/-
  A helper of ours: no claim of its own. Layer 5 (value): a value written.
-/
import Derived.Test.YthidjngipkelcaaDoorValB
import Derived.Test.YthidjngipkelcaaDoorBits
import Derived.Test.YthidjngipkelcaaDoorReg3
import Derived.Deep.LoopGhost
import Derived.BigQuiet
set_option linter.unusedVariables false
set_option linter.unusedSimpArgs false
namespace Go.Proofs.YthidjngipkelcaaDoor
open Go.RowKit
attribute [local go_sem] GW.cell GW.frozen In.eq_true In.le_true In.ne In.ne' In.ne_add In.ne_add' In.lt_add Upto.le_true Upto.le_add Upto.lt_add
theorem tBytes' : ElemT Tryd.prog 27 5 (.int .u8 0) 1 1 := ElemT.mk' Tryd.underlying27 (by kernel_rfl) rfl (by omega)
/-- A byte that stands for itself. -/
def plainB (c : UInt8) : Bool := decide (32 ≤ c.toNat ∧ c.toNat ≤ 126 ∧ c.toNat ≠ 39 ∧ c.toNat ≠ 92)
def hexd (n : Nat) : UInt8 := if n < 10 then UInt8.ofNat (48 + n) else UInt8.ofNat (87 + n)
def esc (c : UInt8) : List UInt8 := if plainB c then [c] else [92, hexd (c.toNat / 16), hexd (c.toNat % 16)]
/-- A text, written. -/
def showB (l : List UInt8) : List UInt8 := 39 :: (l.flatMap esc ++ [39])
theorem esc_len (c : UInt8) : (esc c).length ≤ 3 := by unfold esc; split <;> simp
set_option maxHeartbeats 1000000 in
theorem isPlain_c (c : UInt8) (w : World) : Calls Tryd.prog 127 #[.int .u8 c.toNat] w fun e w' => e = .returned (.bool (plainB c)) ∧ Ext w w' := by
  have key : ∀ b, plainB c = b → Calls Tryd.prog 127 #[.int .u8 c.toNat] w fun e w' => e = .returned (.bool b) ∧ Ext w w' := by
    intro b hb
    unfold plainB at hb
    by_cases h1 : 32 ≤ c.toNat
    · by_cases h2 : c.toNat ≤ 126
      · by_cases h3 : c.toNat = 39
        · have hb' : b = false := by rw [← hb, decide_eq_false_iff_not]; omega
          subst hb'
          clear hb
          have hd1 : ((c.toNat : Int) != 39) = false := by simp; omega
          go_enter Tryd.func127, Tryd.ntmps127
          go_wp2_with fail
          go_returns
          exact ⟨rfl, Ext.refl w⟩
        · by_cases h4 : c.toNat = 92
          · have hb' : b = false := by rw [← hb, decide_eq_false_iff_not]; omega
            subst hb'
            clear hb
            have hd1 : ((c.toNat : Int) != 39) = true := by simp; omega
            have hd2 : ((c.toNat : Int) != 92) = false := by simp; omega
            go_enter Tryd.func127, Tryd.ntmps127
            go_wp2_with fail
            go_returns
            exact ⟨rfl, Ext.refl w⟩
          · have hb' : b = true := by rw [← hb, decide_eq_true_iff]; omega
            subst hb'
            clear hb
            have hd1 : ((c.toNat : Int) != 39) = true := by simp; omega
            have hd2 : ((c.toNat : Int) != 92) = true := by simp; omega
            go_enter Tryd.func127, Tryd.ntmps127
            go_wp2_with fail
            go_returns
            exact ⟨rfl, Ext.refl w⟩
      · have hb' : b = false := by rw [← hb, decide_eq_false_iff_not]; omega
        subst hb'
        clear hb
        have hd1 : decide ((c.toNat : Int) ≤ 126) = false := by rw [decide_eq_false_iff_not]; omega
        go_enter Tryd.func127, Tryd.ntmps127
        go_wp2_with fail
        go_returns
        exact ⟨rfl, Ext.refl w⟩
    · have hb' : b = false := by rw [← hb, decide_eq_false_iff_not]; omega
      subst hb'
      clear hb
      have hd1 : decide ((32 : Int) ≤ c.toNat) = false := by rw [decide_eq_false_iff_not]; omega
      go_enter Tryd.func127, Tryd.ntmps127
      go_wp2_with fail
      go_returns
      exact ⟨rfl, Ext.refl w⟩
  exact key _ rfl
def hexS : ByteArray := ⟨#[48, 49, 50, 51, 52, 53, 54, 55, 56, 57, 97, 98, 99, 100, 101, 102]⟩
theorem hex_at (n : Nat) (h : n < 16) (w : World) : (Instr.index 9 (.string hexS) (.int .u8 (n : Int))).run Tryd.prog w = .ok (.int .u8 (hexd n).toNat) w := by
  rcases (by omega : n = 0 ∨ n = 1 ∨ n = 2 ∨ n = 3 ∨ n = 4 ∨ n = 5 ∨ n = 6 ∨ n = 7 ∨ n = 8 ∨ n = 9 ∨ n = 10 ∨ n = 11 ∨ n = 12 ∨ n = 13 ∨ n = 14 ∨ n = 15) with rfl | rfl | rfl | rfl | rfl | rfl | rfl | rfl | rfl | rfl | rfl | rfl | rfl | rfl | rfl | rfl <;> kernel_rfl
theorem and15_all : ∀ n : Fin 256, bits .and .u8 (n.val : Int) 15 = ((n.val % 16 : Nat) : Int) := by decide +kernel
theorem run_and15 (c : UInt8) (w : World) : (binOp .and 5 (.int .u8 c.toNat) (.int .u8 15)).run Tryd.prog w = .ok (.int .u8 ((c.toNat % 16 : Nat) : Int)) w := by
  have h := and15_all ⟨c.toNat, c.toNat_lt⟩
  simp only at h
  rw [← h]
  simp [go_sem]
theorem run_shr4 (c : UInt8) (w : World) : (binOp .shr 5 (.int .u8 c.toNat) (.int .u64 4)).run Tryd.prog w = .ok (.int .u8 ((c.toNat / 16 : Nat) : Int)) w := by
  simp [go_sem]
theorem build3 (x y z : Int) (w : World) : (Instr.buildSlice 27 3 #[(0, .int .u8 x), (1, .int .u8 y), (2, .int .u8 z)]).run Tryd.prog w = .ok (.slice (some ⟨w.heap.size, 0, none⟩) 3 3) (w.alloc (.cells #[.int .u8 x, .int .u8 y, .int .u8 z] 5)) := by
  simp [go_sem]
theorem own_alloc' {w : World} {B e size n : Nat} {v : Value} {xs : List Value} (h : w.ownsRow B e size v n xs) (o : Obj) : (w.alloc o).ownsRow B e size v n xs := own_ext h ((Ext.refl w).alloc o)
set_option maxHeartbeats 4000000 in
set_option maxRecDepth 100000 in
theorem textShow_c (s : ByteArray) (hs : s.size ≤ 64) (w : World) : Calls Tryd.prog 125 #[.string s] w fun e w' => e = .returned (.string ⟨(showB s.data.toList).toArray⟩) ∧ Ext w w' := by
  have hlit : (w.alloc (Obj.cells #[.int .u8 39] 5)).ownsRow w.heap.size 5 1 (.slice (some ⟨w.heap.size, 0, none⟩) 1 1) 1 (bs [39]) := World.ownsRow_lit (base := w.heap.size) (e := 5) (size := 1) w #[.int .u8 39] 1 (Nat.le_refl _) (by decide) rfl
  have hX0 := (Ext.refl w).alloc (Obj.cells #[.int .u8 39] 5)
  go_enter Tryd.func125, Tryd.ntmps125
  go_wp2_with fail
  go_loopg [3, 9] s.size (fun g v i wr => ∃ (k : Nat) (l : List UInt8), i = .int .i64 k ∧ k + g = s.size ∧ OwnB wr w.heap.size v l ∧ l.length ≤ 1 + 3 * k ∧ Hid (l = 39 :: (s.data.toList.take k).flatMap esc) ∧ Ext w wr)
  case atStart => exact ⟨0, [39], rfl, by omega, hlit, by simp, rfl, hX0⟩
  case round =>
    obtain ⟨k, l, rfl, hk, ho, hl, hL, hX⟩ := hrel
    clear hlit hX0
    by_cases hlt : k < s.size
    · obtain ⟨c, hc⟩ : ∃ c, c = s[k] := ⟨_, rfl⟩
      have hck : s.data.toList[k]? = some c := by rw [hc, List.getElem?_eq_getElem (by rw [Array.length_toList]; exact hlt)]; rfl
      have hL' := hide (show l ++ esc c = 39 :: (s.data.toList.take (k + 1)).flatMap esc by rw [List.take_add_one, hck, hL.out, List.flatMap_append]; simp)
      have hip := hide (fun w => isPlain_c c w)
      have hcc : Hid (s[k] = c) := hc.symm
      obtain ⟨A, cp, rfl⟩ := own_form ho
      cases hp : plainB c
      · rw [hp] at hip
        have he : esc c = [92, hexd (c.toNat / 16), hexd (c.toNat % 16)] := by unfold esc; rw [hp]; rfl
        rw [he] at hL'
        replace he := hide he
        go_wp2_with (go_at_call 127; rw [hcc.out]; refine seq_gw (hip.out _) ?_; intro g)
        have hzX := hX.size
        have hzg := GW.size g
        have hcu : (s[k]).toNat = c.toNat := by rw [hcc.out]
        have hd16 : c.toNat / 16 < 16 := by have := c.toNat_lt; omega
        have hm16 : c.toNat % 16 < 16 := by omega
        have hho := hide ho
        refine wp_region_list_tail 8 [.is (.slice A l.length cp), .is (.int .u8 c.toNat), .is (.int .u8 ((c.toNat / 16 : Nat) : Int)), .is (.int .u8 (hexd (c.toNat / 16)).toNat), .is (.int .u8 c.toNat), .is (.int .u8 ((c.toNat % 16 : Nat) : Int)), .is (.int .u8 (hexd (c.toNat % 16)).toNat), .bytes [92, hexd (c.toNat / 16), hexd (c.toNat % 16)]]
          (by kernel_rfl) (by kernel_rfl) (by kernel_rfl) (by kernel_rfl) (by kernel_rfl) (by kernel_rfl) (by kernel_rfl) ?_ ?_
        · refine ⟨?_, ?_, ?_, ?_, ?_, ?_, ?_, ?_, trivial⟩
          · intro b w' h hE
            have f3 : b.tmps.getD 3 undef = .slice A l.length cp := hE 3 (of_decide_eq_true (by kernel_rfl))
            exact good_move (wanted_none rfl) rfl f3
          · intro b w' h hE
            have f5 : b.tmps.getD 5 undef = .int .u8 c.toNat := (hE 5 (of_decide_eq_true (by kernel_rfl))).trans (by rw [← hcu]; rfl)
            exact good_move (wanted_none rfl) rfl f5
          · intro b w' h hE
            have f22 : b.tmps.getD 22 undef = .int .u8 c.toNat := h.dep 1 _ 22 (by kernel_rfl) rfl rfl
            exact good_bin (wanted_none rfl) rfl f22 rfl (guard_int _) (run_shr4 c _) rfl
          · intro b w' h hE
            have f23 : b.tmps.getD 23 undef = .int .u8 ((c.toNat / 16 : Nat) : Int) := h.dep 2 _ 23 (by kernel_rfl) rfl rfl
            exact good_indexS (wanted_none rfl) rfl rfl f23 (hex_at _ hd16 _) rfl
          · intro b w' h hE
            have f5 : b.tmps.getD 5 undef = .int .u8 c.toNat := (hE 5 (of_decide_eq_true (by kernel_rfl))).trans (by rw [← hcu]; rfl)
            exact good_move (wanted_none rfl) rfl f5
          · intro b w' h hE
            have f25 : b.tmps.getD 25 undef = .int .u8 c.toNat := h.dep 4 _ 25 (by kernel_rfl) rfl rfl
            exact good_bin (wanted_none rfl) rfl f25 rfl (guard_int _) (run_and15 c _) rfl
          · intro b w' h hE
            have f26 : b.tmps.getD 26 undef = .int .u8 ((c.toNat % 16 : Nat) : Int) := h.dep 5 _ 26 (by kernel_rfl) rfl rfl
            exact good_indexS (wanted_none rfl) rfl rfl f26 (hex_at _ hm16 _) rfl
          · intro b w' h hE
            have f24 : b.tmps.getD 24 undef = .int .u8 (hexd (c.toNat / 16)).toNat := h.dep 3 _ 24 (by kernel_rfl) rfl rfl
            have f27 : b.tmps.getD 27 undef = .int .u8 (hexd (c.toNat % 16)).toNat := h.dep 6 _ 27 (by kernel_rfl) rfl rfl
            refine good_grow (w' := w'.alloc (.cells #[.int .u8 92, .int .u8 (hexd (c.toNat / 16)).toNat, .int .u8 (hexd (c.toNat % 16)).toNat] 5)) (v := .slice (some ⟨w'.heap.size, 0, none⟩) 3 3) (wanted_none rfl) ?_ ?_ ((Ext.refl _).alloc _)
            · have g24 : b.tmps[24]?.getD undef = .int .u8 (hexd (c.toNat / 16)).toNat := by rw [← Array.getD_eq_getD_getElem?]; exact f24
              have g27 : b.tmps[27]?.getD undef = .int .u8 (hexd (c.toNat % 16)).toNat := by rw [← Array.getD_eq_getD_getElem?]; exact f27
              have := build3 92 (hexd (c.toNat / 16)).toNat (hexd (c.toNat % 16)).toNat w'
              simp [execOp, Act.eval, g24, g27, this, Sem.run_bind, Sem.run_pure, Result.andThen_ok]
            · exact Sl.own (World.ownsRow_lit (base := w'.heap.size) (e := 5) (size := 1) w' #[.int .u8 92, .int .u8 (hexd (c.toNat / 16)).toNat, .int .u8 (hexd (c.toNat % 16)).toNat] 3 (Nat.le_refl _) (by decide) rfl) (by simp)
        · intro b w2 hX2 hd hz he' hf
          have f21 : b.tmps.getD 21 undef = .slice A l.length cp := hf 0 _ 21 (by omega) rfl rfl
          have f28 : By w2 [] (b.tmps.getD 28 undef) [92, hexd (c.toNat / 16), hexd (c.toNat % 16)] := hf 7 _ 28 (by omega) rfl rfl
          have e := frame_puts hd hz he'
          obtain ⟨x, hx⟩ : ∃ x : Nat → Value, ∀ d, b.tmps.getD d undef = x d := ⟨_, fun _ => rfl⟩
          rw [hx] at f21 f28
          obtain ⟨A2, c2, e28, _⟩ := id f28
          rw [show dstsOf _ = [21, 22, 23, 24, 25, 26, 27, 28] from rfl] at e
          simp only [List.foldl_cons, List.foldl_nil, hx, Act.put, List.setIfInBounds_toArray, List.set_cons_succ, List.set_cons_zero] at e
          rw [f21, e28] at e
          rw [e28] at f28
          replace f28 := hide f28
          clear hf he' hz hd hx f21
          subst e
          have hXg := hX.trans (g.grown.trans hX2)
          have hzw := hXg.size
          simp only [List.drop_succ_cons, List.drop_zero]
          go_wp2_with (at_builtin; (refine wpl_app tBytes' rfl (.tmp 21) (.tmp 28) rfl rfl (own_ext hho.out (g.grown.trans hX2)) rfl (src_sl Tryd.underlying27 f28.out (bs_one _) (by omega)) (by unfold maxLen; (try simp only [List.length_cons, List.length_nil]); omega) (by (try simp only [List.length_cons, List.length_nil]); omega) hzw ?_; intro v1 w1 ho1 hg1 _))
          go_roundg (s.size - (k + 1))
          case measure => omega
          case rel =>
            have ho2 : OwnB w1 w.heap.size v1 (l ++ [92, hexd (c.toNat / 16), hexd (c.toNat % 16)]) := own_app ho1
            exact ⟨k + 1, l ++ [92, hexd (c.toNat / 16), hexd (c.toNat % 16)], by go_num, by omega, ho2, by simp; omega, hL', ext_grown hXg hg1 (fun k hk => (hho.out.lt k hk).1)⟩
      · rw [hp] at hip
        have he : esc c = [c] := by unfold esc; rw [hp]; rfl
        rw [he] at hL'
        replace he := hide he
        have hzX := hX.size
        go_wp2_with (first | (go_at_call 127; rw [hcc.out]; refine seq_gw (hip.out _) ?_; intro g; have hzg := GW.size g) | (at_builtin; (refine wpl_app tBytes' rfl (.tmp 17) (.tmp 19) rfl rfl (own_alloc' (own_ext ho g.grown) _) rfl (src_one Tryd.underlying27 _ _ _ rfl) (by unfold maxLen; omega) (by omega) (by simp only [World.size_alloc]; omega) ?_; intro v1 w1 ho1 hg1 _)))
        go_roundg (s.size - (k + 1))
        case measure => omega
        case rel =>
          have hb : [Value.int .u8 s[k].toNat] = bs [c] := by rw [hcc.out]; rfl
          rw [hb] at ho1
          have ho2 : OwnB w1 w.heap.size v1 (l ++ [c]) := own_app (m := [c]) ho1
          exact ⟨k + 1, l ++ [c], by go_num, by omega, ho2, by simp; omega, hL', ext_grown ((hX.trans g.grown).alloc _) hg1 (fun k hk => (ho.lt k hk).1)⟩
    · have hge : (s.size : Int) ≤ k := by omega
      have hk' : k = s.size := by omega
      have hL' := hide (show l ++ [39] = showB s.data.toList by rw [hL.out, hk', List.take_of_length_le (by rw [Array.length_toList]; exact Nat.le_refl _)]; rfl)
      obtain ⟨A, cp, rfl⟩ := own_form ho
      have hzX := hX.size
      go_wp2_with (at_builtin; (refine wpl_app tBytes' rfl (.tmp 31) (.tmp 32) rfl rfl (own_alloc' ho _) rfl (src_one Tryd.underlying27 _ _ _ rfl) (by unfold maxLen; omega) (by omega) (by simp only [World.size_alloc]; omega) ?_; intro v1 w1 ho1 hg1 _; have ho2 : OwnB w1 w.heap.size v1 (l ++ [39]) := own_app (m := [39]) ho1; have hcv := run_str (P := Tryd.prog) Tryd.underlying27 Tryd.underlying5 Tryd.underlying9 (Sl.own (S := []) ho2 (by simp))))
      go_returns
      rw [hL'.out]
      exact ⟨rfl, ext_grown (hX.alloc _) hg1 (fun k hk => (ho.lt k hk).1)⟩
end Go.Proofs.YthidjngipkelcaaDoor
