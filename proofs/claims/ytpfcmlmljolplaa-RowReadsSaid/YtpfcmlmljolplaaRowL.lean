/-
  A helper of ours: no claim of its own. Layer 6 (row): what must be whatever is asked.
-/
import Derived.Test.YtpfcmlmljolplaaRowD
import Derived.Test.YtpfcmlmljolplaaRowP
import Derived.Test.YtpfcmlmljolplaaRowF
set_option linter.unusedVariables false
set_option linter.unusedSimpArgs false
namespace Go.Proofs.Ytpfcmlmljolplaa
open Go.RowKit
attribute [local go_sem] GW.cell GW.frozen In.eq_true In.le_true In.ne In.ne' In.ne_add In.ne_add' In.lt_add Upto.le_true Upto.le_add Upto.lt_add
set_option maxHeartbeats 1000000 in
set_option maxRecDepth 100000 in
theorem small_1 (w : World) : Calls Try.prog 154 #[.int .i64 1] w fun e w' => e = .returned (.string ⟨#[49]⟩) ∧ Ext w w' := by
  go_enter Try.func154, Try.ntmps154
  go_wp2_with fail
  go_returns
  exact ⟨rfl, Ext.refl w⟩
set_option maxHeartbeats 1000000 in
set_option maxRecDepth 100000 in
theorem formatInt_1 (w : World) : Calls Try.prog 153 #[.int .i64 1, .int .i64 10] w fun e w' => e = .returned (.string ⟨#[49]⟩) ∧ Ext w w' := by
  go_enter Try.func153, Try.ntmps153
  go_wp2_with (first | (go_at_call 154; (first | (with_reducible refine seq_gw' (small_1 _) ?_) | (with_reducible refine seq_gw (small_1 _) ?_)); intro g))
  go_returns
  exact ⟨rfl, g.grown⟩
set_option maxHeartbeats 1000000 in
set_option maxRecDepth 100000 in
theorem itoa0_1 (w : World) : Calls Try.prog 152 #[.int .i64 1] w fun e w' => e = .returned (.string ⟨#[49]⟩) ∧ Ext w w' := by
  go_enter Try.func152, Try.ntmps152
  go_wp2_with (first | (go_at_call 153; (first | (with_reducible refine seq_gw' (formatInt_1 _) ?_) | (with_reducible refine seq_gw (formatInt_1 _) ?_)); intro g))
  go_returns
  exact ⟨rfl, g.grown⟩
set_option maxHeartbeats 1000000 in
set_option maxRecDepth 100000 in
theorem itoa_1 (w : World) : Calls Try.prog 151 #[.int .i64 1] w fun e w' => e = .returned (.string ⟨#[49]⟩) ∧ Ext w w' := by
  go_enter Try.func151, Try.ntmps151
  go_wp2_with (first | (go_at_call 152; (first | (with_reducible refine seq_gw' (itoa0_1 _) ?_) | (with_reducible refine seq_gw (itoa0_1 _) ?_)); intro g))
  go_returns
  exact ⟨rfl, g.grown⟩
set_option maxHeartbeats 1000000 in
set_option maxRecDepth 100000 in
theorem nshow_1 (w : World) : Calls Try.prog 147 #[.int .i64 1] w fun e w' => e = .returned (.string ⟨#[49]⟩) ∧ Ext w w' := by
  go_enter Try.func147, Try.ntmps147
  go_wp2_with (first | (go_at_call 151; (first | (with_reducible refine seq_gw' (itoa_1 _) ?_) | (with_reducible refine seq_gw (itoa_1 _) ?_)); intro g))
  go_returns
  exact ⟨rfl, g.grown⟩
set_option maxHeartbeats 1000000 in
set_option maxRecDepth 100000 in
theorem vnshow_1 (w : World) : Calls Try.prog 144 #[.int .i64 1] w fun e w' => e = .returned (.string ⟨#[49]⟩) ∧ Ext w w' := by
  go_enter Try.func144, Try.ntmps144
  go_wp2_with (first | (go_at_call 147; (first | (with_reducible refine seq_gw' (nshow_1 _) ?_) | (with_reducible refine seq_gw (nshow_1 _) ?_)); intro g))
  go_returns
  exact ⟨rfl, g.grown⟩
theorem inn_1 (w : World) : Calls Try.prog 90 #[val 1 1 ⟨#[]⟩] w fun e w' => e = .returned (.tuple #[.iface 133 (.int .i64 1), .bool true]) ∧ Ext w w' := inner_num 1 ⟨#[]⟩ rfl w
set_option maxHeartbeats 1000000 in
set_option maxRecDepth 100000 in
theorem vshow_1 (w : World) : Calls Try.prog 65 #[val 1 1 ⟨#[]⟩] w fun e w' => e = .returned (.string ⟨#[49]⟩) ∧ Ext w w' := by
  go_enter Try.func65, Try.ntmps65
  go_wp2_with (first | (go_at_call 90; (first | (with_reducible refine seq_gw' (inn_1 _) ?_) | (with_reducible refine seq_gw (inn_1 _) ?_)); intro g) | (go_at_call 144; (first | (with_reducible refine seq_gw' (vnshow_1 _) ?_) | (with_reducible refine seq_gw (vnshow_1 _) ?_)); intro g))
  go_returns
  exact ⟨rfl, ((Ext.refl w).alloc _).trans g.grown⟩
set_option maxHeartbeats 1000000 in
set_option maxRecDepth 100000 in
theorem small_2 (w : World) : Calls Try.prog 154 #[.int .i64 2] w fun e w' => e = .returned (.string ⟨#[50]⟩) ∧ Ext w w' := by
  go_enter Try.func154, Try.ntmps154
  go_wp2_with fail
  go_returns
  exact ⟨rfl, Ext.refl w⟩
set_option maxHeartbeats 1000000 in
set_option maxRecDepth 100000 in
theorem formatInt_2 (w : World) : Calls Try.prog 153 #[.int .i64 2, .int .i64 10] w fun e w' => e = .returned (.string ⟨#[50]⟩) ∧ Ext w w' := by
  go_enter Try.func153, Try.ntmps153
  go_wp2_with (first | (go_at_call 154; (first | (with_reducible refine seq_gw' (small_2 _) ?_) | (with_reducible refine seq_gw (small_2 _) ?_)); intro g))
  go_returns
  exact ⟨rfl, g.grown⟩
set_option maxHeartbeats 1000000 in
set_option maxRecDepth 100000 in
theorem itoa0_2 (w : World) : Calls Try.prog 152 #[.int .i64 2] w fun e w' => e = .returned (.string ⟨#[50]⟩) ∧ Ext w w' := by
  go_enter Try.func152, Try.ntmps152
  go_wp2_with (first | (go_at_call 153; (first | (with_reducible refine seq_gw' (formatInt_2 _) ?_) | (with_reducible refine seq_gw (formatInt_2 _) ?_)); intro g))
  go_returns
  exact ⟨rfl, g.grown⟩
set_option maxHeartbeats 1000000 in
set_option maxRecDepth 100000 in
theorem itoa_2 (w : World) : Calls Try.prog 151 #[.int .i64 2] w fun e w' => e = .returned (.string ⟨#[50]⟩) ∧ Ext w w' := by
  go_enter Try.func151, Try.ntmps151
  go_wp2_with (first | (go_at_call 152; (first | (with_reducible refine seq_gw' (itoa0_2 _) ?_) | (with_reducible refine seq_gw (itoa0_2 _) ?_)); intro g))
  go_returns
  exact ⟨rfl, g.grown⟩
set_option maxHeartbeats 1000000 in
set_option maxRecDepth 100000 in
theorem nshow_2 (w : World) : Calls Try.prog 147 #[.int .i64 2] w fun e w' => e = .returned (.string ⟨#[50]⟩) ∧ Ext w w' := by
  go_enter Try.func147, Try.ntmps147
  go_wp2_with (first | (go_at_call 151; (first | (with_reducible refine seq_gw' (itoa_2 _) ?_) | (with_reducible refine seq_gw (itoa_2 _) ?_)); intro g))
  go_returns
  exact ⟨rfl, g.grown⟩
set_option maxHeartbeats 1000000 in
set_option maxRecDepth 100000 in
theorem vnshow_2 (w : World) : Calls Try.prog 144 #[.int .i64 2] w fun e w' => e = .returned (.string ⟨#[50]⟩) ∧ Ext w w' := by
  go_enter Try.func144, Try.ntmps144
  go_wp2_with (first | (go_at_call 147; (first | (with_reducible refine seq_gw' (nshow_2 _) ?_) | (with_reducible refine seq_gw (nshow_2 _) ?_)); intro g))
  go_returns
  exact ⟨rfl, g.grown⟩
theorem inn_2 (w : World) : Calls Try.prog 90 #[val 1 2 ⟨#[]⟩] w fun e w' => e = .returned (.tuple #[.iface 133 (.int .i64 2), .bool true]) ∧ Ext w w' := inner_num 2 ⟨#[]⟩ rfl w
set_option maxHeartbeats 1000000 in
set_option maxRecDepth 100000 in
theorem vshow_2 (w : World) : Calls Try.prog 65 #[val 1 2 ⟨#[]⟩] w fun e w' => e = .returned (.string ⟨#[50]⟩) ∧ Ext w w' := by
  go_enter Try.func65, Try.ntmps65
  go_wp2_with (first | (go_at_call 90; (first | (with_reducible refine seq_gw' (inn_2 _) ?_) | (with_reducible refine seq_gw (inn_2 _) ?_)); intro g) | (go_at_call 144; (first | (with_reducible refine seq_gw' (vnshow_2 _) ?_) | (with_reducible refine seq_gw (vnshow_2 _) ?_)); intro g))
  go_returns
  exact ⟨rfl, ((Ext.refl w).alloc _).trans g.grown⟩
/-- The digit of a small number. -/
def svS (x : Vl) : List UInt8 := if x.2.1 = 1 then [49] else [50]
def r12 : List Vl := [(1, 1, ⟨#[]⟩), (1, 2, ⟨#[]⟩)]
def r121 : List Vl := [(1, 1, ⟨#[]⟩), (1, 2, ⟨#[]⟩), (1, 1, ⟨#[]⟩)]
def r21 : List Vl := [(1, 2, ⟨#[]⟩), (1, 1, ⟨#[]⟩)]
def r0 : List Vl := [(0, 0, ⟨#[]⟩)]
theorem svS_len (x : Vl) : (svS x).length ≤ 200 := by unfold svS; split <;> simp
theorem svS_1 (w : World) : SV svS w (1, 1, ⟨#[]⟩) := fun w' _ => vshow_1 w'
theorem svS_2 (w : World) : SV svS w (1, 2, ⟨#[]⟩) := fun w' _ => vshow_2 w'
theorem show121 (v : Value) (w : World) (h : Rw w [] v r121) : Calls Try.prog 28 #[v] w fun e w' => e = .returned (.string ⟨#[40, 49, 44, 32, 50, 44, 32, 49, 41]⟩) ∧ Ext w w' := by
  have h1 := rowShow_c svS r121 v w h (by decide +kernel) (fun x _ => svS_len x) (by
    intro x hx
    unfold r121 at hx
    simp only [List.mem_cons, List.not_mem_nil, or_false] at hx
    rcases hx with rfl | rfl | rfl
    · exact svS_1 w
    · exact svS_2 w
    · exact svS_1 w)
  have e : (⟨(rowT svS r121).toArray⟩ : ByteArray) = ⟨#[40, 49, 44, 32, 50, 44, 32, 49, 41]⟩ := by decide +kernel
  rwa [e] at h1
theorem show21 (v : Value) (w : World) (h : Rw w [] v r21) : Calls Try.prog 28 #[v] w fun e w' => e = .returned (.string ⟨#[40, 50, 44, 32, 49, 41]⟩) ∧ Ext w w' := by
  have h1 := rowShow_c svS r21 v w h (by decide +kernel) (fun x _ => svS_len x) (by
    intro x hx
    unfold r21 at hx
    simp only [List.mem_cons, List.not_mem_nil, or_false] at hx
    rcases hx with rfl | rfl
    · exact svS_2 w
    · exact svS_1 w)
  have e : (⟨(rowT svS r21).toArray⟩ : ByteArray) = ⟨#[40, 50, 44, 32, 49, 41]⟩ := by decide +kernel
  rwa [e] at h1
abbrev o12 : Obj := .cells #[.int .i64 1, .int .i64 1, .string ⟨#[]⟩, .int .i64 1, .int .i64 2, .string ⟨#[]⟩] 32
theorem rw12 (w : World) : Rw (w.alloc o12) [] (.slice (some ⟨w.heap.size, 0, none⟩) 2 2) r12 := Sl.own (World.ownsRow_lit (base := w.heap.size) (e := 32) (size := 3) w #[.int .i64 1, .int .i64 1, .string ⟨#[]⟩, .int .i64 1, .int .i64 2, .string ⟨#[]⟩] 2 (Nat.le_refl _) (by decide) rfl) (by simp)
theorem rw1 (w : World) : Rw (w.alloc o12) [] (.slice (some ⟨w.heap.size, 0, none⟩) 1 2) [(1, 1, ⟨#[]⟩)] := by
  obtain ⟨A, cap, e, h1, h2, h3, h4⟩ := rw12 w
  cases e
  refine ⟨_, _, rfl, by decide, by unfold maxLen; omega, rfl, ?_⟩
  rcases h4 with h4 | ⟨b, o, e, hb, hc⟩
  · cases h4
  · cases e
    refine .inr ⟨_, _, rfl, hb, fun j u hu => hc j u ?_⟩
    have hj : j < 3 := (List.getElem?_eq_some_iff.1 hu).1
    rcases (by omega : j = 0 ∨ j = 1 ∨ j = 2) with rfl | rfl | rfl <;> exact hu
abbrev i10 : Obj := .cells #[.int .i64 1, .int .i64 0] 3
theorem sl10 (w : World) : Sl (w.alloc i10) [] 1 (.slice (some ⟨w.heap.size, 0, none⟩) 2 2) 2 (ic [1, 0]) := Sl.own (World.ownsRow_lit (base := w.heap.size) (e := 3) (size := 1) w #[.int .i64 1, .int .i64 0] 2 (Nat.le_refl _) (by decide) rfl) (by simp)
abbrev oz : Obj := .cells #[.int .i64 0, .int .i64 0, .string ⟨#[]⟩] 32
theorem rwz (w : World) : Rw (w.alloc oz) [] (.slice (some ⟨w.heap.size, 0, none⟩) 1 1) r0 := Sl.own (World.ownsRow_lit (base := w.heap.size) (e := 32) (size := 3) w #[.int .i64 0, .int .i64 0, .string ⟨#[]⟩] 1 (Nat.le_refl _) (by decide) rfl) (by simp)
theorem j121E : joinE r12 [(1, 1, ⟨#[]⟩)] = 0 := by decide +kernel
theorem j121V : joinV r12 [(1, 1, ⟨#[]⟩)] = r121 := by decide +kernel
theorem p21E : pickE r12 [1, 0] = 0 := by decide +kernel
theorem p21V : pickV r12 [1, 0] = r21 := by decide +kernel
theorem c12 : cmpR r12 r121 = -1 := by decide +kernel
theorem m12 : mayR r12 = true := by decide +kernel
theorem m0 : mayR r0 = false := by decide +kernel
set_option maxHeartbeats 4000000 in
set_option maxRecDepth 100000 in
theorem rowLive_c (w : World) : Calls Try.prog 17 #[] w fun e w' => e = .returned (.bool true) ∧ Ext w w' := by
  have n1 := hide (fun w => vnum_c 1 w)
  have n2 := hide (fun w => vnum_c 2 w)
  have hmk : ∀ w, (Instr.makeSlice 23 (.int .i64 1) (.int .i64 1)).run Try.prog w = .ok (.slice (some ⟨w.heap.size, 0, none⟩) 1 1) (w.alloc oz) := fun _ => by kernel_rfl
  go_enter Try.func17, Try.ntmps17
  go_wp2_with (first | (go_at_call 59; first | ((with_reducible refine seq_gw (n1.out _) ?_); intro g1) | ((with_reducible refine seq_gw' (n2.out _) ?_); intro g2)) | (go_at_call 21; refine (rowJoin_c r12 [(1, 1, ⟨#[]⟩)] _ _ _ (rw12 _) (rw1 _)).mono ?_; rintro ee w3 ⟨v3, rfl, ho3, hx3⟩; rw [j121E]; rw [j121V] at ho3; have hr12 := hide (Sl.ext (rw12 g2.val) hx3)) | (go_at_call 23; refine (rowPick_c r12 [1, 0] _ _ _ (Sl.ext hr12.out ((Ext.refl w3).alloc _)) (sl10 _)).mono ?_; rintro ee w4 ⟨v4, rfl, ho4, hx4⟩; rw [p21E]; rw [p21V] at ho4; have hX4 := hide (((g2.grown.alloc o12).trans hx3).trans (((Ext.refl w3).alloc i10).trans hx4)); have r3 := hide (Sl.ext (own_rw (S := []) ho3 (by simp)) (((Ext.refl w3).alloc i10).trans hx4)); have r4 := hide (own_rw (S := []) ho4 (by simp)); have r12' := hide (Sl.ext hr12.out (((Ext.refl w3).alloc i10).trans hx4))) | (go_at_call 28; first | ((with_reducible refine seq_gw (show121 _ _ r3.out) ?_); intro g3) | ((with_reducible refine seq_gw' (show21 _ _ (Sl.ext r4.out g3.grown)) ?_); intro g5; have hX5 := hX4)) | (go_at_call 13; (with_reducible refine seq_gw' (rowCompare_c (Sl.ext r12'.out g5.grown) (Sl.ext r3.out g5.grown)) ?_); intro g6; rw [c12]) | (go_at_call 15; first | ((with_reducible refine seq_gw' (rowMay_c r12 _ _ (Sl.ext r12'.out g6.grown)) ?_); intro g7; rw [m12]) | ((with_reducible refine seq_gw (rowMay_c r0 _ _ (rwz _)) ?_); intro g8; rw [m0])))
  go_returns
  exact ⟨rfl, hX5.out.trans ((g7.grown.alloc _).trans g8.grown)⟩
end Go.Proofs.Ytpfcmlmljolplaa
