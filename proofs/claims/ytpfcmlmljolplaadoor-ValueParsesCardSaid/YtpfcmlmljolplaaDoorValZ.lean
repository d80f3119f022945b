/-
  A helper of ours: no claim of its own. Layer 5 (value): the document's value written, and read back.
-/
import Derived.Test.YtpfcmlmljolplaaDoorValV
import Derived.Test.YtpfcmlmljolplaaDoorNumT
import Derived.Test.YtpfcmlmljolplaaDoorValC
set_option linter.unusedVariables false
set_option linter.unusedSimpArgs false
namespace Go.Proofs.YtpfcmlmljolplaaDoor
open Go.RowKit
attribute [local go_sem] GW.cell GW.frozen In.eq_true In.le_true In.ne In.ne' In.ne_add In.ne_add' In.lt_add Upto.le_true Upto.le_add Upto.lt_add
theorem run_quo16 (c : UInt8) (w : World) : (binOp .quo 5 (.int .u8 c.toNat) (.int .u8 16)).run Tryd.prog w = .ok (.int .u8 ((c.toNat / 16 : Nat) : Int)) w := by
  have h := c.toNat_lt
  have e : IntKind.u8.wrap ((c.toNat : Int) / 16) = (c.toNat : Int) / 16 := by
    simp only [IntKind.wrap, IntKind.bits, IntKind.signed]; simp; omega
  simp [go_sem, e]
theorem run_rem16 (c : UInt8) (w : World) : (binOp .rem 5 (.int .u8 c.toNat) (.int .u8 16)).run Tryd.prog w = .ok (.int .u8 ((c.toNat % 16 : Nat) : Int)) w := by
  have h := c.toNat_lt
  have e : (c.toNat : Int).tmod 16 = (c.toNat : Int) % 16 := Int.tmod_eq_emod_of_nonneg (by omega)
  simp [go_sem, e]
theorem run_addS (a b : ByteArray) (h : a.size + b.size ≤ 4000) (w : World) : (binOp .add 9 (.string a) (.string b)).run Tryd.prog w = .ok (.string (a ++ b)) w := by
  first | (simp [go_sem]; done) | (simp [go_sem, Op.stringOp]; omega) | (simp [go_sem, Op.stringOp, maxLen]; omega)
theorem build2 (x y : Int) (w : World) : (Instr.buildSlice 41 2 #[(0, .int .u8 x), (1, .int .u8 y)]).run Tryd.prog w = .ok (.slice (some ⟨w.heap.size, 0, none⟩) 2 2) (w.alloc (.cells #[.int .u8 x, .int .u8 y] 5)) := by
  simp [go_sem]
theorem str_snoc (a : List UInt8) (b : List UInt8) : (⟨a.toArray⟩ : ByteArray) ++ ⟨b.toArray⟩ = ⟨(a ++ b).toArray⟩ := by
  apply ByteArray.ext; simp [ByteArray.append]
/-- Which bytes are not plain: the tests in their order. -/
theorem not_plain {c : UInt8} (h : plainB c = false) : c.toNat < 32 ∨ (¬ c.toNat < 32 ∧ 126 < c.toNat) ∨ (¬ c.toNat < 32 ∧ ¬ 126 < c.toNat ∧ c.toNat = 39) ∨ (¬ c.toNat < 32 ∧ ¬ 126 < c.toNat ∧ c.toNat ≠ 39 ∧ c.toNat = 92) := by
  unfold plainB at h
  rw [decide_eq_false_iff_not] at h
  omega
theorem is_plain {c : UInt8} (h : plainB c = true) : ¬ c.toNat < 32 ∧ ¬ 126 < c.toNat ∧ c.toNat ≠ 39 ∧ c.toNat ≠ 92 := by
  unfold plainB at h
  rw [decide_eq_true_iff] at h
  omega
set_option maxHeartbeats 8000000 in
set_option maxRecDepth 100000 in
theorem refShowT_c (s : ByteArray) (hs : s.size ≤ 64) (w : World) : Calls Tryd.prog 7 #[val 2 0 s] w fun e w' => e = .returned (.string ⟨(showB s.data.toList).toArray⟩) ∧ Ext w w' := by
  have hm := hide (fun w => refMay_c 2 0 s w)
  rw [may_text hs] at hm
  have hXw := hide (show Ext w (w.alloc (obV 2 0 s)) from (Ext.refl w).alloc _)
  have O0 := hide (Ob.new w 24 [.int .i64 2, .int .i64 0, .string s])
  go_enter Tryd.func7, Tryd.ntmps7
  go_wp2_with (go_at_call 15; (with_reducible refine seq_gw (hm.out _) ?_); intro g)
  have hX0 : Ext (w.alloc (obV 2 0 s)) g.val := g.grown
  go_loopg [3, 4] s.size (fun gh x i wr => ∃ (k : Nat) (a : List UInt8), x = .string ⟨a.toArray⟩ ∧ i = .int .i64 k ∧ k + gh = s.size ∧ a.length ≤ 1 + 3 * k ∧ Hid (a = 39 :: (s.data.toList.take k).flatMap esc) ∧ Ext (w.alloc (obV 2 0 s)) wr)
  case atStart => exact ⟨0, [39], rfl, rfl, by omega, by simp, rfl, hX0⟩
  case round =>
    obtain ⟨k, a, rfl, rfl, hk, hl, hL, hX⟩ := hrel
    clear hX0 g
    have O1 := O0.out.ext hX
    have k2 := O1.cell 2 rfl
    have hlt1 := O1.lt
    haveI : In w.heap.size wr := ⟨hlt1⟩
    have hsz : (⟨a.toArray⟩ : ByteArray).size ≤ 200 := by show a.toArray.size ≤ 200; simp; omega
    by_cases hlt : k < s.size
    · obtain ⟨c, hc⟩ : ∃ c, c = s[k] := ⟨_, rfl⟩
      have hck : s.data.toList[k]? = some c := by rw [hc, List.getElem?_eq_getElem (by rw [Array.length_toList]; exact hlt)]; rfl
      have hL' := hide (show a ++ esc c = 39 :: (s.data.toList.take (k + 1)).flatMap esc by rw [List.take_add_one, hck, hL.out, List.flatMap_append]; simp)
      have hcc : Hid (s[k] = c) := hc.symm
      have hcu : s[k].toNat = c.toNat := by rw [hc]
      clear hck
      cases hp : plainB c
      · have he : esc c = [92, hexd (c.toNat / 16), hexd (c.toNat % 16)] := by unfold esc; rw [hp]; rfl
        rw [he] at hL'
        clear he
        have hd16 : c.toNat / 16 < 16 := by have := c.toNat_lt; omega
        have hm16 : c.toNat % 16 < 16 := by omega
        have hways := not_plain hp
        clear hp hL
        rcases hways with h1 | ⟨h1, h2⟩ | ⟨h1, h2, h3⟩ | ⟨h1, h2, h3, h4⟩
        · have t1 : decide ((s[k].toNat : Int) < 32) = true := by rw [decide_eq_true_iff]; omega
          clear h1
          clear hc
          replace hcu := hide hcu
          go_wp2_with fail
          refine wp_region_list_tail 11 [.is (.string ⟨a.toArray⟩), .is (.string (⟨a.toArray⟩ ++ ⟨#[92]⟩)), .is (.int .u8 c.toNat), .is (.int .u8 ((c.toNat / 16 : Nat) : Int)), .is (.int .u8 (hexd (c.toNat / 16)).toNat), .is (.int .u8 c.toNat), .is (.int .u8 ((c.toNat % 16 : Nat) : Int)), .is (.int .u8 (hexd (c.toNat % 16)).toNat), .bytes [hexd (c.toNat / 16), hexd (c.toNat % 16)], .is (.string ⟨[hexd (c.toNat / 16), hexd (c.toNat % 16)].toArray⟩), .is (.string (⟨a.toArray⟩ ++ ⟨#[92]⟩ ++ ⟨[hexd (c.toNat / 16), hexd (c.toNat % 16)].toArray⟩))] (by kernel_rfl) (by kernel_rfl) (by kernel_rfl) (by kernel_rfl) (by kernel_rfl) (by kernel_rfl) (by kernel_rfl) ?_ ?_
          · refine ⟨?_, ?_, ?_, ?_, ?_, ?_, ?_, ?_, ?_, ?_, ?_, trivial⟩
            · intro b w' h hE
              have f3 : b.tmps.getD 3 undef = .string ⟨a.toArray⟩ := hE 3 (of_decide_eq_true (by kernel_rfl))
              exact good_move (wanted_none rfl) rfl f3
            · intro b w' h hE
              have f40 : b.tmps.getD 40 undef = (.string ⟨a.toArray⟩) := h.dep 0 _ 40 (by kernel_rfl) rfl rfl
              exact good_bin (wanted_none rfl) rfl f40 rfl (guard_str _) (run_addS _ _ (by show _ + 1 ≤ 4000; omega) _) rfl
            · intro b w' h hE
              have f5 : b.tmps.getD 5 undef = .int .u8 c.toNat := (hE 5 (of_decide_eq_true (by kernel_rfl))).trans (by rw [← hcu.out]; rfl)
              exact good_move (wanted_none rfl) rfl f5
            · intro b w' h hE
              have f42 : b.tmps.getD 42 undef = (.int .u8 c.toNat) := h.dep 2 _ 42 (by kernel_rfl) rfl rfl
              exact good_bin (wanted_none rfl) rfl f42 rfl (guard_int _) (run_quo16 c _) rfl
            · intro b w' h hE
              have f43 : b.tmps.getD 43 undef = (.int .u8 ((c.toNat / 16 : Nat) : Int)) := h.dep 3 _ 43 (by kernel_rfl) rfl rfl
              exact good_indexS (wanted_none rfl) rfl rfl f43 (hex_at _ hd16 _) rfl
            · intro b w' h hE
              have f5 : b.tmps.getD 5 undef = .int .u8 c.toNat := (hE 5 (of_decide_eq_true (by kernel_rfl))).trans (by rw [← hcu.out]; rfl)
              exact good_move (wanted_none rfl) rfl f5
            · intro b w' h hE
              have f45 : b.tmps.getD 45 undef = (.int .u8 c.toNat) := h.dep 5 _ 45 (by kernel_rfl) rfl rfl
              exact good_bin (wanted_none rfl) rfl f45 rfl (guard_int _) (run_rem16 c _) rfl
            · intro b w' h hE
              have f46 : b.tmps.getD 46 undef = (.int .u8 ((c.toNat % 16 : Nat) : Int)) := h.dep 6 _ 46 (by kernel_rfl) rfl rfl
              exact good_indexS (wanted_none rfl) rfl rfl f46 (hex_at _ hm16 _) rfl
            · intro b w' h hE
              have f44 : b.tmps.getD 44 undef = (.int .u8 (hexd (c.toNat / 16)).toNat) := h.dep 4 _ 44 (by kernel_rfl) rfl rfl
              have f47 : b.tmps.getD 47 undef = (.int .u8 (hexd (c.toNat % 16)).toNat) := h.dep 7 _ 47 (by kernel_rfl) rfl rfl
              refine good_grow (w' := w'.alloc (.cells #[.int .u8 (hexd (c.toNat / 16)).toNat, .int .u8 (hexd (c.toNat % 16)).toNat] 5)) (v := .slice (some ⟨w'.heap.size, 0, none⟩) 2 2) (wanted_none rfl) ?_ ?_ ((Ext.refl _).alloc _)
              · have g44 : b.tmps[44]?.getD undef = .int .u8 (hexd (c.toNat / 16)).toNat := by rw [← Array.getD_eq_getD_getElem?]; exact f44
                have g47 : b.tmps[47]?.getD undef = .int .u8 (hexd (c.toNat % 16)).toNat := by rw [← Array.getD_eq_getD_getElem?]; exact f47
                have := build2 (hexd (c.toNat / 16)).toNat (hexd (c.toNat % 16)).toNat w'
                simp [execOp, Act.eval, g44, g47, this, Sem.run_bind, Sem.run_pure, Result.andThen_ok]
              · exact Sl.own (World.ownsRow_lit (base := w'.heap.size) (e := 5) (size := 1) w' #[.int .u8 (hexd (c.toNat / 16)).toNat, .int .u8 (hexd (c.toNat % 16)).toNat] 2 (Nat.le_refl _) (by decide) rfl) (by simp)
            · intro b w' h hE
              have f48 := h.dep 8 _ 48 (by kernel_rfl) rfl rfl
              exact good_convert (wanted_none rfl) rfl (run_str Tryd.underlying41 Tryd.underlying5 Tryd.underlying9 f48) rfl
            · intro b w' h hE
              have f41 : b.tmps.getD 41 undef = (.string (⟨a.toArray⟩ ++ ⟨#[92]⟩)) := h.dep 1 _ 41 (by kernel_rfl) rfl rfl
              have f49 : b.tmps.getD 49 undef = (.string ⟨[hexd (c.toNat / 16), hexd (c.toNat % 16)].toArray⟩) := h.dep 9 _ 49 (by kernel_rfl) rfl rfl
              exact good_bin (wanted_none rfl) rfl f41 f49 (guard_str _) (run_addS _ _ (by rw [str_snoc a [92]]; show (a ++ [92]).toArray.size + 2 ≤ 4000; simp; omega) _) rfl
          · intro b w2 hX2 hd hz he' hf
            have f3 : b.tmps.getD 50 undef = (.string (⟨a.toArray⟩ ++ ⟨#[92]⟩ ++ ⟨[hexd (c.toNat / 16), hexd (c.toNat % 16)].toArray⟩)) := hf 10 _ 50 (by omega) rfl rfl
            have e := frame_puts hd hz he'
            obtain ⟨x, hx⟩ : ∃ x : Nat → Value, ∀ d, b.tmps.getD d undef = x d := ⟨_, fun _ => rfl⟩
            rw [show dstsOf _ = [40, 41, 42, 43, 44, 45, 46, 47, 48, 49, 50] from rfl] at e
            simp only [List.foldl_cons, List.foldl_nil, hx, Act.put, List.setIfInBounds_toArray, List.set_cons_succ, List.set_cons_zero] at e f3
            rw [f3] at e
            clear hf he' hz hd hx f3
            subst e
            have hsa := hide (show (⟨a.toArray⟩ : ByteArray) ++ ⟨#[92]⟩ ++ ⟨[hexd (c.toNat / 16), hexd (c.toNat % 16)].toArray⟩ = ⟨(a ++ [92, hexd (c.toNat / 16), hexd (c.toNat % 16)]).toArray⟩ by rw [str_snoc a [92], str_snoc]; simp)
            rw [hsa.out]
            simp only [List.drop_succ_cons, List.drop_zero]
            go_wp2_with fail
            go_roundg (s.size - (k + 1))
            case measure => omega
            case rel => exact ⟨k + 1, a ++ [92, hexd (c.toNat / 16), hexd (c.toNat % 16)], rfl, by go_num, by omega, by simp; omega, hL', hX.trans hX2⟩
        · have t1 : decide ((s[k].toNat : Int) < 32) = false := by rw [decide_eq_false_iff_not]; omega
          have t2 : decide ((126 : Int) < s[k].toNat) = true := by rw [decide_eq_true_iff]; omega
          clear h1 h2
          clear hc
          replace hcu := hide hcu
          go_wp2_with fail
          refine wp_region_list_tail 11 [.is (.string ⟨a.toArray⟩), .is (.string (⟨a.toArray⟩ ++ ⟨#[92]⟩)), .is (.int .u8 c.toNat), .is (.int .u8 ((c.toNat / 16 : Nat) : Int)), .is (.int .u8 (hexd (c.toNat / 16)).toNat), .is (.int .u8 c.toNat), .is (.int .u8 ((c.toNat % 16 : Nat) : Int)), .is (.int .u8 (hexd (c.toNat % 16)).toNat), .bytes [hexd (c.toNat / 16), hexd (c.toNat % 16)], .is (.string ⟨[hexd (c.toNat / 16), hexd (c.toNat % 16)].toArray⟩), .is (.string (⟨a.toArray⟩ ++ ⟨#[92]⟩ ++ ⟨[hexd (c.toNat / 16), hexd (c.toNat % 16)].toArray⟩))] (by kernel_rfl) (by kernel_rfl) (by kernel_rfl) (by kernel_rfl) (by kernel_rfl) (by kernel_rfl) (by kernel_rfl) ?_ ?_
          · refine ⟨?_, ?_, ?_, ?_, ?_, ?_, ?_, ?_, ?_, ?_, ?_, trivial⟩
            · intro b w' h hE
              have f3 : b.tmps.getD 3 undef = .string ⟨a.toArray⟩ := hE 3 (of_decide_eq_true (by kernel_rfl))
              exact good_move (wanted_none rfl) rfl f3
            · intro b w' h hE
              have f40 : b.tmps.getD 40 undef = (.string ⟨a.toArray⟩) := h.dep 0 _ 40 (by kernel_rfl) rfl rfl
              exact good_bin (wanted_none rfl) rfl f40 rfl (guard_str _) (run_addS _ _ (by show _ + 1 ≤ 4000; omega) _) rfl
            · intro b w' h hE
              have f5 : b.tmps.getD 5 undef = .int .u8 c.toNat := (hE 5 (of_decide_eq_true (by kernel_rfl))).trans (by rw [← hcu.out]; rfl)
              exact good_move (wanted_none rfl) rfl f5
            · intro b w' h hE
              have f42 : b.tmps.getD 42 undef = (.int .u8 c.toNat) := h.dep 2 _ 42 (by kernel_rfl) rfl rfl
              exact good_bin (wanted_none rfl) rfl f42 rfl (guard_int _) (run_quo16 c _) rfl
            · intro b w' h hE
              have f43 : b.tmps.getD 43 undef = (.int .u8 ((c.toNat / 16 : Nat) : Int)) := h.dep 3 _ 43 (by kernel_rfl) rfl rfl
              exact good_indexS (wanted_none rfl) rfl rfl f43 (hex_at _ hd16 _) rfl
            · intro b w' h hE
              have f5 : b.tmps.getD 5 undef = .int .u8 c.toNat := (hE 5 (of_decide_eq_true (by kernel_rfl))).trans (by rw [← hcu.out]; rfl)
              exact good_move (wanted_none rfl) rfl f5
            · intro b w' h hE
              have f45 : b.tmps.getD 45 undef = (.int .u8 c.toNat) := h.dep 5 _ 45 (by kernel_rfl) rfl rfl
              exact good_bin (wanted_none rfl) rfl f45 rfl (guard_int _) (run_rem16 c _) rfl
            · intro b w' h hE
              have f46 : b.tmps.getD 46 undef = (.int .u8 ((c.toNat % 16 : Nat) : Int)) := h.dep 6 _ 46 (by kernel_rfl) rfl rfl
              exact good_indexS (wanted_none rfl) rfl rfl f46 (hex_at _ hm16 _) rfl
            · intro b w' h hE
              have f44 : b.tmps.getD 44 undef = (.int .u8 (hexd (c.toNat / 16)).toNat) := h.dep 4 _ 44 (by kernel_rfl) rfl rfl
              have f47 : b.tmps.getD 47 undef = (.int .u8 (hexd (c.toNat % 16)).toNat) := h.dep 7 _ 47 (by kernel_rfl) rfl rfl
              refine good_grow (w' := w'.alloc (.cells #[.int .u8 (hexd (c.toNat / 16)).toNat, .int .u8 (hexd (c.toNat % 16)).toNat] 5)) (v := .slice (some ⟨w'.heap.size, 0, none⟩) 2 2) (wanted_none rfl) ?_ ?_ ((Ext.refl _).alloc _)
              · have g44 : b.tmps[44]?.getD undef = .int .u8 (hexd (c.toNat / 16)).toNat := by rw [← Array.getD_eq_getD_getElem?]; exact f44
                have g47 : b.tmps[47]?.getD undef = .int .u8 (hexd (c.toNat % 16)).toNat := by rw [← Array.getD_eq_getD_getElem?]; exact f47
                have := build2 (hexd (c.toNat / 16)).toNat (hexd (c.toNat % 16)).toNat w'
                simp [execOp, Act.eval, g44, g47, this, Sem.run_bind, Sem.run_pure, Result.andThen_ok]
              · exact Sl.own (World.ownsRow_lit (base := w'.heap.size) (e := 5) (size := 1) w' #[.int .u8 (hexd (c.toNat / 16)).toNat, .int .u8 (hexd (c.toNat % 16)).toNat] 2 (Nat.le_refl _) (by decide) rfl) (by simp)
            · intro b w' h hE
              have f48 := h.dep 8 _ 48 (by kernel_rfl) rfl rfl
              exact good_convert (wanted_none rfl) rfl (run_str Tryd.underlying41 Tryd.underlying5 Tryd.underlying9 f48) rfl
            · intro b w' h hE
              have f41 : b.tmps.getD 41 undef = (.string (⟨a.toArray⟩ ++ ⟨#[92]⟩)) := h.dep 1 _ 41 (by kernel_rfl) rfl rfl
              have f49 : b.tmps.getD 49 undef = (.string ⟨[hexd (c.toNat / 16), hexd (c.toNat % 16)].toArray⟩) := h.dep 9 _ 49 (by kernel_rfl) rfl rfl
              exact good_bin (wanted_none rfl) rfl f41 f49 (guard_str _) (run_addS _ _ (by rw [str_snoc a [92]]; show (a ++ [92]).toArray.size + 2 ≤ 4000; simp; omega) _) rfl
          · intro b w2 hX2 hd hz he' hf
            have f3 : b.tmps.getD 50 undef = (.string (⟨a.toArray⟩ ++ ⟨#[92]⟩ ++ ⟨[hexd (c.toNat / 16), hexd (c.toNat % 16)].toArray⟩)) := hf 10 _ 50 (by omega) rfl rfl
            have e := frame_puts hd hz he'
            obtain ⟨x, hx⟩ : ∃ x : Nat → Value, ∀ d, b.tmps.getD d undef = x d := ⟨_, fun _ => rfl⟩
            rw [show dstsOf _ = [40, 41, 42, 43, 44, 45, 46, 47, 48, 49, 50] from rfl] at e
            simp only [List.foldl_cons, List.foldl_nil, hx, Act.put, List.setIfInBounds_toArray, List.set_cons_succ, List.set_cons_zero] at e f3
            rw [f3] at e
            clear hf he' hz hd hx f3
            subst e
            have hsa := hide (show (⟨a.toArray⟩ : ByteArray) ++ ⟨#[92]⟩ ++ ⟨[hexd (c.toNat / 16), hexd (c.toNat % 16)].toArray⟩ = ⟨(a ++ [92, hexd (c.toNat / 16), hexd (c.toNat % 16)]).toArray⟩ by rw [str_snoc a [92], str_snoc]; simp)
            rw [hsa.out]
            simp only [List.drop_succ_cons, List.drop_zero]
            go_wp2_with fail
            go_roundg (s.size - (k + 1))
            case measure => omega
            case rel => exact ⟨k + 1, a ++ [92, hexd (c.toNat / 16), hexd (c.toNat % 16)], rfl, by go_num, by omega, by simp; omega, hL', hX.trans hX2⟩
        · have t1 : decide ((s[k].toNat : Int) < 32) = false := by rw [decide_eq_false_iff_not]; omega
          have t2 : decide ((126 : Int) < s[k].toNat) = false := by rw [decide_eq_false_iff_not]; omega
          have t3 : ((s[k].toNat : Int) == 39) = true := by rw [beq_iff_eq]; omega
          clear h1 h2 h3
          clear hc
          replace hcu := hide hcu
          go_wp2_with fail
          refine wp_region_list_tail 11 [.is (.string ⟨a.toArray⟩), .is (.string (⟨a.toArray⟩ ++ ⟨#[92]⟩)), .is (.int .u8 c.toNat), .is (.int .u8 ((c.toNat / 16 : Nat) : Int)), .is (.int .u8 (hexd (c.toNat / 16)).toNat), .is (.int .u8 c.toNat), .is (.int .u8 ((c.toNat % 16 : Nat) : Int)), .is (.int .u8 (hexd (c.toNat % 16)).toNat), .bytes [hexd (c.toNat / 16), hexd (c.toNat % 16)], .is (.string ⟨[hexd (c.toNat / 16), hexd (c.toNat % 16)].toArray⟩), .is (.string (⟨a.toArray⟩ ++ ⟨#[92]⟩ ++ ⟨[hexd (c.toNat / 16), hexd (c.toNat % 16)].toArray⟩))] (by kernel_rfl) (by kernel_rfl) (by kernel_rfl) (by kernel_rfl) (by kernel_rfl) (by kernel_rfl) (by kernel_rfl) ?_ ?_
          · refine ⟨?_, ?_, ?_, ?_, ?_, ?_, ?_, ?_, ?_, ?_, ?_, trivial⟩
            · intro b w' h hE
              have f3 : b.tmps.getD 3 undef = .string ⟨a.toArray⟩ := hE 3 (of_decide_eq_true (by kernel_rfl))
              exact good_move (wanted_none rfl) rfl f3
            · intro b w' h hE
              have f40 : b.tmps.getD 40 undef = (.string ⟨a.toArray⟩) := h.dep 0 _ 40 (by kernel_rfl) rfl rfl
              exact good_bin (wanted_none rfl) rfl f40 rfl (guard_str _) (run_addS _ _ (by show _ + 1 ≤ 4000; omega) _) rfl
            · intro b w' h hE
              have f5 : b.tmps.getD 5 undef = .int .u8 c.toNat := (hE 5 (of_decide_eq_true (by kernel_rfl))).trans (by rw [← hcu.out]; rfl)
              exact good_move (wanted_none rfl) rfl f5
            · intro b w' h hE
              have f42 : b.tmps.getD 42 undef = (.int .u8 c.toNat) := h.dep 2 _ 42 (by kernel_rfl) rfl rfl
              exact good_bin (wanted_none rfl) rfl f42 rfl (guard_int _) (run_quo16 c _) rfl
            · intro b w' h hE
              have f43 : b.tmps.getD 43 undef = (.int .u8 ((c.toNat / 16 : Nat) : Int)) := h.dep 3 _ 43 (by kernel_rfl) rfl rfl
              exact good_indexS (wanted_none rfl) rfl rfl f43 (hex_at _ hd16 _) rfl
            · intro b w' h hE
              have f5 : b.tmps.getD 5 undef = .int .u8 c.toNat := (hE 5 (of_decide_eq_true (by kernel_rfl))).trans (by rw [← hcu.out]; rfl)
              exact good_move (wanted_none rfl) rfl f5
            · intro b w' h hE
              have f45 : b.tmps.getD 45 undef = (.int .u8 c.toNat) := h.dep 5 _ 45 (by kernel_rfl) rfl rfl
              exact good_bin (wanted_none rfl) rfl f45 rfl (guard_int _) (run_rem16 c _) rfl
            · intro b w' h hE
              have f46 : b.tmps.getD 46 undef = (.int .u8 ((c.toNat % 16 : Nat) : Int)) := h.dep 6 _ 46 (by kernel_rfl) rfl rfl
              exact good_indexS (wanted_none rfl) rfl rfl f46 (hex_at _ hm16 _) rfl
            · intro b w' h hE
              have f44 : b.tmps.getD 44 undef = (.int .u8 (hexd (c.toNat / 16)).toNat) := h.dep 4 _ 44 (by kernel_rfl) rfl rfl
              have f47 : b.tmps.getD 47 undef = (.int .u8 (hexd (c.toNat % 16)).toNat) := h.dep 7 _ 47 (by kernel_rfl) rfl rfl
              refine good_grow (w' := w'.alloc (.cells #[.int .u8 (hexd (c.toNat / 16)).toNat, .int .u8 (hexd (c.toNat % 16)).toNat] 5)) (v := .slice (some ⟨w'.heap.size, 0, none⟩) 2 2) (wanted_none rfl) ?_ ?_ ((Ext.refl _).alloc _)
              · have g44 : b.tmps[44]?.getD undef = .int .u8 (hexd (c.toNat / 16)).toNat := by rw [← Array.getD_eq_getD_getElem?]; exact f44
                have g47 : b.tmps[47]?.getD undef = .int .u8 (hexd (c.toNat % 16)).toNat := by rw [← Array.getD_eq_getD_getElem?]; exact f47
                have := build2 (hexd (c.toNat / 16)).toNat (hexd (c.toNat % 16)).toNat w'
                simp [execOp, Act.eval, g44, g47, this, Sem.run_bind, Sem.run_pure, Result.andThen_ok]
              · exact Sl.own (World.ownsRow_lit (base := w'.heap.size) (e := 5) (size := 1) w' #[.int .u8 (hexd (c.toNat / 16)).toNat, .int .u8 (hexd (c.toNat % 16)).toNat] 2 (Nat.le_refl _) (by decide) rfl) (by simp)
            · intro b w' h hE
              have f48 := h.dep 8 _ 48 (by kernel_rfl) rfl rfl
              exact good_convert (wanted_none rfl) rfl (run_str Tryd.underlying41 Tryd.underlying5 Tryd.underlying9 f48) rfl
            · intro b w' h hE
              have f41 : b.tmps.getD 41 undef = (.string (⟨a.toArray⟩ ++ ⟨#[92]⟩)) := h.dep 1 _ 41 (by kernel_rfl) rfl rfl
              have f49 : b.tmps.getD 49 undef = (.string ⟨[hexd (c.toNat / 16), hexd (c.toNat % 16)].toArray⟩) := h.dep 9 _ 49 (by kernel_rfl) rfl rfl
              exact good_bin (wanted_none rfl) rfl f41 f49 (guard_str _) (run_addS _ _ (by rw [str_snoc a [92]]; show (a ++ [92]).toArray.size + 2 ≤ 4000; simp; omega) _) rfl
          · intro b w2 hX2 hd hz he' hf
            have f3 : b.tmps.getD 50 undef = (.string (⟨a.toArray⟩ ++ ⟨#[92]⟩ ++ ⟨[hexd (c.toNat / 16), hexd (c.toNat % 16)].toArray⟩)) := hf 10 _ 50 (by omega) rfl rfl
            have e := frame_puts hd hz he'
            obtain ⟨x, hx⟩ : ∃ x : Nat → Value, ∀ d, b.tmps.getD d undef = x d := ⟨_, fun _ => rfl⟩
            rw [show dstsOf _ = [40, 41, 42, 43, 44, 45, 46, 47, 48, 49, 50] from rfl] at e
            simp only [List.foldl_cons, List.foldl_nil, hx, Act.put, List.setIfInBounds_toArray, List.set_cons_succ, List.set_cons_zero] at e f3
            rw [f3] at e
            clear hf he' hz hd hx f3
            subst e
            have hsa := hide (show (⟨a.toArray⟩ : ByteArray) ++ ⟨#[92]⟩ ++ ⟨[hexd (c.toNat / 16), hexd (c.toNat % 16)].toArray⟩ = ⟨(a ++ [92, hexd (c.toNat / 16), hexd (c.toNat % 16)]).toArray⟩ by rw [str_snoc a [92], str_snoc]; simp)
            rw [hsa.out]
            simp only [List.drop_succ_cons, List.drop_zero]
            go_wp2_with fail
            go_roundg (s.size - (k + 1))
            case measure => omega
            case rel => exact ⟨k + 1, a ++ [92, hexd (c.toNat / 16), hexd (c.toNat % 16)], rfl, by go_num, by omega, by simp; omega, hL', hX.trans hX2⟩
        · have t1 : decide ((s[k].toNat : Int) < 32) = false := by rw [decide_eq_false_iff_not]; omega
          have t2 : decide ((126 : Int) < s[k].toNat) = false := by rw [decide_eq_false_iff_not]; omega
          have t3 : ((s[k].toNat : Int) == 39) = false := by rw [beq_eq_false_iff_ne]; omega
          have t4 : ((s[k].toNat : Int) == 92) = true := by rw [beq_iff_eq]; omega
          clear h1 h2 h3 h4
          clear hc
          replace hcu := hide hcu
          go_wp2_with fail
          refine wp_region_list_tail 11 [.is (.string ⟨a.toArray⟩), .is (.string (⟨a.toArray⟩ ++ ⟨#[92]⟩)), .is (.int .u8 c.toNat), .is (.int .u8 ((c.toNat / 16 : Nat) : Int)), .is (.int .u8 (hexd (c.toNat / 16)).toNat), .is (.int .u8 c.toNat), .is (.int .u8 ((c.toNat % 16 : Nat) : Int)), .is (.int .u8 (hexd (c.toNat % 16)).toNat), .bytes [hexd (c.toNat / 16), hexd (c.toNat % 16)], .is (.string ⟨[hexd (c.toNat / 16), hexd (c.toNat % 16)].toArray⟩), .is (.string (⟨a.toArray⟩ ++ ⟨#[92]⟩ ++ ⟨[hexd (c.toNat / 16), hexd (c.toNat % 16)].toArray⟩))] (by kernel_rfl) (by kernel_rfl) (by kernel_rfl) (by kernel_rfl) (by kernel_rfl) (by kernel_rfl) (by kernel_rfl) ?_ ?_
          · refine ⟨?_, ?_, ?_, ?_, ?_, ?_, ?_, ?_, ?_, ?_, ?_, trivial⟩
            · intro b w' h hE
              have f3 : b.tmps.getD 3 undef = .string ⟨a.toArray⟩ := hE 3 (of_decide_eq_true (by kernel_rfl))
              exact good_move (wanted_none rfl) rfl f3
            · intro b w' h hE
              have f40 : b.tmps.getD 40 undef = (.string ⟨a.toArray⟩) := h.dep 0 _ 40 (by kernel_rfl) rfl rfl
              exact good_bin (wanted_none rfl) rfl f40 rfl (guard_str _) (run_addS _ _ (by show _ + 1 ≤ 4000; omega) _) rfl
            · intro b w' h hE
              have f5 : b.tmps.getD 5 undef = .int .u8 c.toNat := (hE 5 (of_decide_eq_true (by kernel_rfl))).trans (by rw [← hcu.out]; rfl)
              exact good_move (wanted_none rfl) rfl f5
            · intro b w' h hE
              have f42 : b.tmps.getD 42 undef = (.int .u8 c.toNat) := h.dep 2 _ 42 (by kernel_rfl) rfl rfl
              exact good_bin (wanted_none rfl) rfl f42 rfl (guard_int _) (run_quo16 c _) rfl
            · intro b w' h hE
              have f43 : b.tmps.getD 43 undef = (.int .u8 ((c.toNat / 16 : Nat) : Int)) := h.dep 3 _ 43 (by kernel_rfl) rfl rfl
              exact good_indexS (wanted_none rfl) rfl rfl f43 (hex_at _ hd16 _) rfl
            · intro b w' h hE
              have f5 : b.tmps.getD 5 undef = .int .u8 c.toNat := (hE 5 (of_decide_eq_true (by kernel_rfl))).trans (by rw [← hcu.out]; rfl)
              exact good_move (wanted_none rfl) rfl f5
            · intro b w' h hE
              have f45 : b.tmps.getD 45 undef = (.int .u8 c.toNat) := h.dep 5 _ 45 (by kernel_rfl) rfl rfl
              exact good_bin (wanted_none rfl) rfl f45 rfl (guard_int _) (run_rem16 c _) rfl
            · intro b w' h hE
              have f46 : b.tmps.getD 46 undef = (.int .u8 ((c.toNat % 16 : Nat) : Int)) := h.dep 6 _ 46 (by kernel_rfl) rfl rfl
              exact good_indexS (wanted_none rfl) rfl rfl f46 (hex_at _ hm16 _) rfl
            · intro b w' h hE
              have f44 : b.tmps.getD 44 undef = (.int .u8 (hexd (c.toNat / 16)).toNat) := h.dep 4 _ 44 (by kernel_rfl) rfl rfl
              have f47 : b.tmps.getD 47 undef = (.int .u8 (hexd (c.toNat % 16)).toNat) := h.dep 7 _ 47 (by kernel_rfl) rfl rfl
              refine good_grow (w' := w'.alloc (.cells #[.int .u8 (hexd (c.toNat / 16)).toNat, .int .u8 (hexd (c.toNat % 16)).toNat] 5)) (v := .slice (some ⟨w'.heap.size, 0, none⟩) 2 2) (wanted_none rfl) ?_ ?_ ((Ext.refl _).alloc _)
              · have g44 : b.tmps[44]?.getD undef = .int .u8 (hexd (c.toNat / 16)).toNat := by rw [← Array.getD_eq_getD_getElem?]; exact f44
                have g47 : b.tmps[47]?.getD undef = .int .u8 (hexd (c.toNat % 16)).toNat := by rw [← Array.getD_eq_getD_getElem?]; exact f47
                have := build2 (hexd (c.toNat / 16)).toNat (hexd (c.toNat % 16)).toNat w'
                simp [execOp, Act.eval, g44, g47, this, Sem.run_bind, Sem.run_pure, Result.andThen_ok]
              · exact Sl.own (World.ownsRow_lit (base := w'.heap.size) (e := 5) (size := 1) w' #[.int .u8 (hexd (c.toNat / 16)).toNat, .int .u8 (hexd (c.toNat % 16)).toNat] 2 (Nat.le_refl _) (by decide) rfl) (by simp)
            · intro b w' h hE
              have f48 := h.dep 8 _ 48 (by kernel_rfl) rfl rfl
              exact good_convert (wanted_none rfl) rfl (run_str Tryd.underlying41 Tryd.underlying5 Tryd.underlying9 f48) rfl
            · intro b w' h hE
              have f41 : b.tmps.getD 41 undef = (.string (⟨a.toArray⟩ ++ ⟨#[92]⟩)) := h.dep 1 _ 41 (by kernel_rfl) rfl rfl
              have f49 : b.tmps.getD 49 undef = (.string ⟨[hexd (c.toNat / 16), hexd (c.toNat % 16)].toArray⟩) := h.dep 9 _ 49 (by kernel_rfl) rfl rfl
              exact good_bin (wanted_none rfl) rfl f41 f49 (guard_str _) (run_addS _ _ (by rw [str_snoc a [92]]; show (a ++ [92]).toArray.size + 2 ≤ 4000; simp; omega) _) rfl
          · intro b w2 hX2 hd hz he' hf
            have f3 : b.tmps.getD 50 undef = (.string (⟨a.toArray⟩ ++ ⟨#[92]⟩ ++ ⟨[hexd (c.toNat / 16), hexd (c.toNat % 16)].toArray⟩)) := hf 10 _ 50 (by omega) rfl rfl
            have e := frame_puts hd hz he'
            obtain ⟨x, hx⟩ : ∃ x : Nat → Value, ∀ d, b.tmps.getD d undef = x d := ⟨_, fun _ => rfl⟩
            rw [show dstsOf _ = [40, 41, 42, 43, 44, 45, 46, 47, 48, 49, 50] from rfl] at e
            simp only [List.foldl_cons, List.foldl_nil, hx, Act.put, List.setIfInBounds_toArray, List.set_cons_succ, List.set_cons_zero] at e f3
            rw [f3] at e
            clear hf he' hz hd hx f3
            subst e
            have hsa := hide (show (⟨a.toArray⟩ : ByteArray) ++ ⟨#[92]⟩ ++ ⟨[hexd (c.toNat / 16), hexd (c.toNat % 16)].toArray⟩ = ⟨(a ++ [92, hexd (c.toNat / 16), hexd (c.toNat % 16)]).toArray⟩ by rw [str_snoc a [92], str_snoc]; simp)
            rw [hsa.out]
            simp only [List.drop_succ_cons, List.drop_zero]
            go_wp2_with fail
            go_roundg (s.size - (k + 1))
            case measure => omega
            case rel => exact ⟨k + 1, a ++ [92, hexd (c.toNat / 16), hexd (c.toNat % 16)], rfl, by go_num, by omega, by simp; omega, hL', hX.trans hX2⟩
      · have he : esc c = [c] := by unfold esc; rw [hp]; rfl
        rw [he] at hL'
        clear he
        obtain ⟨h1, h2, h3, h4⟩ := is_plain hp
        have t1 : decide ((s[k].toNat : Int) < 32) = false := by rw [decide_eq_false_iff_not]; omega
        have t2 : decide ((126 : Int) < s[k].toNat) = false := by rw [decide_eq_false_iff_not]; omega
        have t3 : ((s[k].toNat : Int) == 39) = false := by rw [beq_eq_false_iff_ne]; omega
        have t4 : ((s[k].toNat : Int) == 92) = false := by rw [beq_eq_false_iff_ne]; omega
        clear hp hL h1 h2 h3 h4
        have hsa := hide (str_snoc a [c])
        replace hcu := hide hcu
        clear hc
        go_wp2_with (rw [conv_one c _ _ _ (by rw [hcu.out])]; simp only [Result.andThen, Oper.upon_value])
        go_roundg (s.size - (k + 1))
        case measure => omega
        case rel => exact ⟨k + 1, a ++ [c], by rw [← hsa.out], by go_num, by omega, by simp; omega, hL', hX.alloc _⟩
    · have hge : (s.size : Int) ≤ k := by omega
      have hk' : k = s.size := by omega
      have hL' := hide (show a ++ [39] = showB s.data.toList by rw [hL.out, hk', List.take_of_length_le (by rw [Array.length_toList]; exact Nat.le_refl _)]; rfl)
      have hsa := hide (str_snoc a [39])
      replace hk' := hide hk'
      go_wp2_with fail
      go_returns
      rw [← hL'.out, ← hsa.out]
      exact ⟨rfl, hXw.out.trans hX⟩
end Go.Proofs.YtpfcmlmljolplaaDoor
