/-
  A helper of ours: no claim of its own. Layer 8 (msg): every message written, on both sides.
-/
import Derived.Test.YthidjngipkelcaaDoorMsgT
import Derived.Test.YthidjngipkelcaaDoorMsgB
import Derived.Test.YthidjngipkelcaaDoorValK
import Derived.Test.YthidjngipkelcaaDoorMsgW
import Derived.Test.YthidjngipkelcaaDoorMsgL
set_option linter.unusedVariables false
set_option linter.unusedSimpArgs false
namespace Go.Proofs.YthidjngipkelcaaDoor
open Go.RowKit
attribute [local go_sem] GW.cell GW.frozen In.eq_true In.le_true In.ne In.ne' In.ne_add In.ne_add' In.lt_add Upto.le_true Upto.le_add Upto.lt_add
set_option maxHeartbeats 8000000 in
set_option maxRecDepth 100000 in
theorem showRetract_c (i f t : Int) (hi : inI i) (ht : inI t) (l : List Vl) (v : Value) (w : World) (hl : Rw w [] v l) (hm : mchk 2 i f t l = 0) (hT : Tab w) :
    Calls Tryd.prog 7 #[mg 2 i f t v] w fun e w' => e = .returned (.string ⟨(wordsT [⟨#[114, 101, 116, 114, 97, 99, 116]⟩, dg i, ⟨#[116, 111]⟩, dg t]).toArray⟩) ∧ Ext w w' := by
  have hck := hide (fun w' (hX : Ext w w') => check_c 2 i f t l v w' (Sl.ext hl hX))
  rw [hm] at hck
  obtain ⟨Av, capv, rfl, hlc, hlm, -⟩ := rw_form hl
  have hX0 := hide ((Ext.refl w).alloc (mO 2 i f t (.slice Av l.length capv)))
  have M0 := hide (Ob.new w 26 [.int .i64 2, .int .i64 i, .int .i64 f, .int .i64 t, .slice Av l.length capv])
  have htb := hide hT
  have hmf : ∀ (fn : Fn) (first cap : Array Value) (w : World), (Instr.makeFunc fn first cap).run Tryd.prog w = .ok (.func fn first cap) w := fun _ _ _ _ => rfl
  have li := dg_len hi
  have lt := dg_len ht
  clear hl hm hT
  go_enter Tryd.func7, Tryd.ntmps7
  go_wp2_with (first | (go_at_call 9; (with_reducible refine seq_gw (hck.out _ hX0.out) ?_); intro g) | (go_at_call 22; refine (add_c (w.heap.size + 1) g.val.heap.size (.slice none 0 0) [] ⟨#[114, 101, 116, 114, 97, 99, 116]⟩ i hi _ (htb.out.ext (hX0.out.trans (g.grown.alloc _))) ⟨Ob.new g.val _ _, World.ownsRow_nil _ _ _ _, (by have := GW.size g; simp only [World.size_alloc] at this; omega)⟩ (by simp)).mono ?_; rintro ee wa ⟨rfl, va, hbx, hFa⟩; have hgs := GW.size g; simp only [World.size_alloc] at hgs; have hXa := hide (ext_fr (hX0.out.trans (g.grown.alloc (.cells #[.slice none 0 0] 48))) hFa (by intro y hy; simp [ob, Value.ownBlock] at hy; omega)); have hMa := ((M0.out.ext g.grown).alloc (.cells #[.slice none 0 0] 48)).fr hFa (by simp [ob, Value.ownBlock]; omega); have m0 := hMa.cell 0 rfl; have m1 := hMa.cell 1 rfl; have m2 := hMa.cell 2 rfl; have m3 := hMa.cell 3 rfl; have hMlt := hMa.lt; haveI : In w.heap.size wa := ⟨hMlt⟩; clear hMa; replace hbx := hide hbx) | (go_at_call 22; refine (add_c (w.heap.size + 1) g.val.heap.size va _ ⟨#[116, 111]⟩ t ht _ (htb.out.ext hXa.out) hbx.out (by simp)).mono ?_; rintro ee wb ⟨rfl, vb, hby, hFb⟩; have hXb := hide (ext_fr hXa.out hFb (by intro y hy; rcases List.mem_cons.1 hy with rfl | hy; omega; have := (ob_ge hbx.out.2.1 y hy).1; omega)); have hj := join_words hby.2.1 (by simp) (by simp) (Nat.le_trans (words_len _ 21 (by intro x hx; simp only [List.nil_append, List.cons_append, List.mem_cons, List.not_mem_nil, or_false] at hx; rcases hx with rfl | rfl | rfl | rfl; (show 7 ≤ 21; omega); omega; (show 2 ≤ 21; omega); omega)) (by simp)); unfold JoinsW at hj; replace hj := hide hj; have n0 := hby.1.cell 0 rfl; have hBlt := hby.1.lt; haveI : In g.val.heap.size wb := ⟨hBlt⟩; replace hby := hide hby) | (go_at_call 25; (with_reducible refine seq_gw hj.out ?_); intro g9))
  go_returns
  exact ⟨rfl, hXb.out.trans g9.grown⟩
set_option maxHeartbeats 8000000 in
set_option maxRecDepth 100000 in
theorem showCti_c (i f t : Int) (hf : inI f) (l : List Vl) (v : Value) (w : World) (hl : Rw w [] v l) (hm : mchk 3 i f t l = 0) (hT : Tab w) :
    Calls Tryd.prog 7 #[mg 3 i f t v] w fun e w' => e = .returned (.string ⟨(wordsT [⟨#[99, 116, 105]⟩, dg f]).toArray⟩) ∧ Ext w w' := by
  have hck := hide (fun w' (hX : Ext w w') => check_c 3 i f t l v w' (Sl.ext hl hX))
  rw [hm] at hck
  obtain ⟨Av, capv, rfl, hlc, hlm, -⟩ := rw_form hl
  have hX0 := hide ((Ext.refl w).alloc (mO 3 i f t (.slice Av l.length capv)))
  have M0 := hide (Ob.new w 26 [.int .i64 3, .int .i64 i, .int .i64 f, .int .i64 t, .slice Av l.length capv])
  have htb := hide hT
  have hmf : ∀ (fn : Fn) (first cap : Array Value) (w : World), (Instr.makeFunc fn first cap).run Tryd.prog w = .ok (.func fn first cap) w := fun _ _ _ _ => rfl
  have lf := dg_len hf
  clear hl hm hT
  go_enter Tryd.func7, Tryd.ntmps7
  go_wp2_with (first | (go_at_call 9; (with_reducible refine seq_gw (hck.out _ hX0.out) ?_); intro g) | (go_at_call 22; refine (add_c (w.heap.size + 1) g.val.heap.size (.slice none 0 0) [] ⟨#[99, 116, 105]⟩ f hf _ (htb.out.ext (hX0.out.trans (g.grown.alloc _))) ⟨Ob.new g.val _ _, World.ownsRow_nil _ _ _ _, (by have := GW.size g; simp only [World.size_alloc] at this; omega)⟩ (by simp)).mono ?_; rintro ee wa ⟨rfl, va, hbx, hFa⟩; have hgs := GW.size g; simp only [World.size_alloc] at hgs; have hXa := hide (ext_fr (hX0.out.trans (g.grown.alloc (.cells #[.slice none 0 0] 48))) hFa (by intro y hy; simp [ob, Value.ownBlock] at hy; omega)); have hj := join_words hbx.2.1 (by simp) (by simp) (Nat.le_trans (words_len _ 21 (by intro x hx; simp only [List.nil_append, List.cons_append, List.mem_cons, List.not_mem_nil, or_false] at hx; rcases hx with rfl | rfl; (show 3 ≤ 21; omega); omega)) (by simp)); unfold JoinsW at hj; replace hj := hide hj; have n0 := hbx.1.cell 0 rfl; have hBlt := hbx.1.lt; haveI : In g.val.heap.size wa := ⟨hBlt⟩; replace hbx := hide hbx) | (go_at_call 25; (with_reducible refine seq_gw hj.out ?_); intro g9))
  go_returns
  exact ⟨rfl, hXa.out.trans g9.grown⟩
set_option maxHeartbeats 4000000 in
set_option maxRecDepth 100000 in
theorem showBad_c (k i f t : Int) (l : List Vl) (v : Value) (w : World) (hl : Rw w [] v l) (hm : mchk k i f t l ≠ 0) : Calls Tryd.prog 7 #[mg k i f t v] w fun e w' => e = .returned (.string ⟨#[]⟩) ∧ Ext w w' := by
  have hck := hide (fun w' (hX : Ext w w') => check_c k i f t l v w' (Sl.ext hl hX))
  generalize mchk k i f t l = x at *
  have hx : (x != 0) = true := by simp [hm]
  obtain ⟨Av, capv, rfl, hlc, hlm, -⟩ := rw_form hl
  have hX0 := hide ((Ext.refl w).alloc (mO k i f t (.slice Av l.length capv)))
  clear hl hm
  go_enter Tryd.func7, Tryd.ntmps7
  go_wp2_with (go_at_call 9; (with_reducible refine seq_gw (hck.out _ hX0.out) ?_); intro g)
  go_returns
  exact ⟨rfl, hX0.out.trans g.grown⟩
set_option maxHeartbeats 4000000 in
set_option maxRecDepth 100000 in
theorem refShowBad_c (k i f t : Int) (l : List Vl) (v : Value) (w : World) (hl : Rw w [] v l) (hm : mchk k i f t l ≠ 0) : Calls Tryd.prog 8 #[mg k i f t v] w fun e w' => e = .returned (.string ⟨#[]⟩) ∧ Ext w w' := by
  have hck := hide (fun w' (hX : Ext w w') => refCheck_c k i f t l v w' (Sl.ext hl hX))
  generalize mchk k i f t l = x at *
  have hx : (x != 0) = true := by simp [hm]
  obtain ⟨Av, capv, rfl, hlc, hlm, -⟩ := rw_form hl
  have hX0 := hide ((Ext.refl w).alloc (mO k i f t (.slice Av l.length capv)))
  clear hl hm
  go_enter Tryd.func8, Tryd.ntmps8
  go_wp2_with (go_at_call 19; (with_reducible refine seq_gw (hck.out _ hX0.out) ?_); intro g)
  go_returns
  exact ⟨rfl, hX0.out.trans g.grown⟩
end Go.Proofs.YthidjngipkelcaaDoor
set_option linter.unusedVariables false
set_option linter.unusedSimpArgs false
namespace Go.Proofs.YthidjngipkelcaaDoor
open Go.RowKit
attribute [local go_sem] GW.cell GW.frozen In.eq_true In.le_true In.ne In.ne' In.ne_add In.ne_add' In.lt_add Upto.le_true Upto.le_add Upto.lt_add
theorem join_snoc (l : List (List UInt8)) (x sep : List UInt8) (h : l ≠ []) : Lib.join (l ++ [x]) sep = Lib.join l sep ++ sep ++ x := by
  rcases l with _ | ⟨y, r⟩
  · exact absurd rfl h
  · rw [List.cons_append, Lib.join_cons, Lib.join_cons]; simp [Lib.joinTail]
set_option maxHeartbeats 8000000 in
set_option maxRecDepth 100000 in
theorem refRowShow_c (l : List Vl) (hn : ∀ x ∈ l, inI x.2.1) (v : Value) (w : World) (hl : Rw w [] v l) (hm : mayR l = true) : Calls Tryd.prog 27 #[v] w fun e w' => e = .returned (.string ⟨(rowT showV l).toArray⟩) ∧ Ext w w' := by
  have h1 := hide (fun w' (hX : Ext w w') => refRowMay_c l v w' (Sl.ext hl hX))
  rw [hm] at h1
  have l8 := (mayR_iff.1 hm).1
  obtain ⟨A, cap, rfl, hlc, hlm, hat⟩ := rw_form hl
  unfold maxLen at hlm
  replace hat := hide hat
  replace hn := hide hn
  have hX0 := hide (Ext.refl w)
  clear hl hm
  go_enter Tryd.func27, Tryd.ntmps27
  go_wp2_with (go_at_call 45; (with_reducible refine seq_gw (h1.out _ hX0.out) ?_); intro g)
  clear h1 hX0
  go_loopg [3, 4] l.length (fun gh s i wr => ∃ (k : Nat) (a : List UInt8), s = .string ⟨a.toArray⟩ ∧ i = .int .i64 k ∧ k + gh = l.length ∧ a.length ≤ 1 + 202 * k ∧ Hid (a = 40 :: Lib.join ((l.take k).map showV) [44, 32]) ∧ Ext w wr)
  case atStart => exact ⟨0, [40], rfl, rfl, by omega, by simp, rfl, g.grown⟩
  case round =>
    obtain ⟨k, a, rfl, rfl, hk, hle, hL, hX⟩ := hrel
    clear g
    have hal : a.length ≤ 1700 := by omega
    have hsz : (⟨a.toArray⟩ : ByteArray).size ≤ 1700 := by show a.toArray.size ≤ 1700; simpa using hal
    by_cases hlt : k < l.length
    · obtain ⟨x, hx⟩ : ∃ x, l[k]? = some x := ⟨_, List.getElem?_eq_getElem hlt⟩
      obtain ⟨b, o, rfl, -, hb', c0, c1, c2⟩ := hat.out k x hx
      have k0 := cell_later hX c0
      have k1 := cell_later hX c1
      have k2 := cell_later hX c2
      have hbr : b < wr.heap.size := block_lt_of_cell k0
      have hin := hn.out x (List.mem_of_getElem? hx)
      have hsx := hide (fun w => vrefShow_c x.1 x.2.1 x.2.2 hin w)
      have hsl : (showV x).length ≤ 200 := showV_len (k := x.1) (n := x.2.1) (s := x.2.2) hin
      have hnx := hide (show k = 0 → a ++ showV x = 40 :: Lib.join ((l.take (k + 1)).map showV) [44, 32] by
        intro h0; subst h0; rw [hL.out, List.take_add_one, hx]; simp [Lib.join_one, Lib.join_nil])
      have hny := hide (show 0 < k → (a ++ [44, 32]) ++ showV x = 40 :: Lib.join ((l.take (k + 1)).map showV) [44, 32] by
        intro h0; rw [hL.out, List.take_add_one, hx, Option.toList_some, List.map_append, List.map_singleton, join_snoc _ _ _ (by intro h; have := congrArg List.length h; rw [List.length_map, List.length_take] at this; simp only [List.length_nil] at this; omega)]; simp)
      have hsx' : Hid (∀ w : World, Calls Tryd.prog 55 #[val x.1 x.2.1 x.2.2] w fun e w' => e = .returned (.string ⟨(showV x).toArray⟩) ∧ Ext w w') := hsx
      clear hsx hL hin
      obtain ⟨xk, xn, xs⟩ := x
      generalize showV (xk, xn, xs) = T at *
      have hsT : (⟨T.toArray⟩ : ByteArray).size ≤ 200 := by show T.toArray.size ≤ 200; simpa using hsl
      replace hx := hide hx
      clear c0 c1 c2
      by_cases h0 : 0 < k
      · go_wp2_with (go_at_call 55; (with_reducible refine seq_gw (hsx'.out _) ?_); intro g)
        go_roundg (l.length - (k + 1))
        case measure => omega
        case rel => exact ⟨k + 1, (a ++ [44, 32]) ++ T, by rw [← str_cat, ← str_cat], by go_num, by omega, by simp only [List.length_append, List.length_cons, List.length_nil]; omega, hny.out h0, hX.trans g.grown⟩
      · go_wp2_with (go_at_call 55; (with_reducible refine seq_gw (hsx'.out _) ?_); intro g)
        go_roundg (l.length - (k + 1))
        case measure => omega
        case rel => exact ⟨k + 1, a ++ T, by rw [← str_cat], by go_num, by omega, by rw [List.length_append]; omega, hnx.out (by omega), hX.trans g.grown⟩
    · have hk' : k = l.length := by omega
      have hge : (l.length : Int) ≤ k := by omega
      have hf := hL.out
      rw [hk', List.take_length] at hf
      replace hf := hide hf
      replace hk' := hide hk'
      clear hL
      go_wp2_with fail
      go_returns
      exact ⟨by rw [hf.out, str_cat _ [41]]; simp [rowT], hX⟩
set_option maxHeartbeats 8000000 in
set_option maxRecDepth 100000 in
theorem refShowCti_c (i f t : Int) (hf : inI f) (l : List Vl) (v : Value) (w : World) (hl : Rw w [] v l) (hm : mchk 3 i f t l = 0) :
    Calls Tryd.prog 8 #[mg 3 i f t v] w fun e w' => e = .returned (.string ((⟨#[99, 116, 105, 32]⟩ : ByteArray) ++ dg f)) ∧ Ext w w' := by
  have hck := hide (fun w' (hX : Ext w w') => refCheck_c 3 i f t l v w' (Sl.ext hl hX))
  rw [hm] at hck
  have hsf : Hid (∀ w : World, Calls Tryd.prog 26 #[.int .i64 f] w fun e w' => e = .returned (.string (dg f)) ∧ Ext w w') := hide (fun w => refShow_c f hf w)
  have lsf := dg_len hf
  generalize dg f = Df at *
  obtain ⟨Av, capv, rfl, hlc, hlm, -⟩ := rw_form hl
  have hX0 := hide ((Ext.refl w).alloc (mO 3 i f t (.slice Av l.length capv)))
  clear hl hm
  go_enter Tryd.func8, Tryd.ntmps8
  go_wp2_with (first | (go_at_call 19; (with_reducible refine seq_gw (hck.out _ hX0.out) ?_); intro g) | (go_at_call 26; (with_reducible refine seq_gw' (hsf.out _) ?_); intro g2))
  go_returns
  exact ⟨rfl, hX0.out.trans g2.grown⟩
set_option maxHeartbeats 8000000 in
set_option maxRecDepth 100000 in
theorem refShowRetract_c (i f t : Int) (hi : inI i) (ht : inI t) (l : List Vl) (v : Value) (w : World) (hl : Rw w [] v l) (hm : mchk 2 i f t l = 0) :
    Calls Tryd.prog 8 #[mg 2 i f t v] w fun e w' => e = .returned (.string (((⟨#[114, 101, 116, 114, 97, 99, 116, 32]⟩ : ByteArray) ++ dg i) ++ ⟨#[32, 116, 111, 32]⟩ ++ dg t)) ∧ Ext w w' := by
  have hck := hide (fun w' (hX : Ext w w') => refCheck_c 2 i f t l v w' (Sl.ext hl hX))
  rw [hm] at hck
  have hsi : Hid (∀ w : World, Calls Tryd.prog 26 #[.int .i64 i] w fun e w' => e = .returned (.string (dg i)) ∧ Ext w w') := hide (fun w => refShow_c i hi w)
  have lsi := dg_len hi
  generalize dg i = Di at *
  have hst : Hid (∀ w : World, Calls Tryd.prog 26 #[.int .i64 t] w fun e w' => e = .returned (.string (dg t)) ∧ Ext w w') := hide (fun w => refShow_c t ht w)
  have lst := dg_len ht
  generalize dg t = Dt at *
  obtain ⟨Av, capv, rfl, hlc, hlm, -⟩ := rw_form hl
  have hX0 := hide ((Ext.refl w).alloc (mO 2 i f t (.slice Av l.length capv)))
  clear hl hm
  go_enter Tryd.func8, Tryd.ntmps8
  go_wp2_with (first | (go_at_call 19; (with_reducible refine seq_gw (hck.out _ hX0.out) ?_); intro g))
  refine wp_region_gw (by kernel_rfl) (by kernel_rfl) ?_
  repeat (go_big_quiet_step ((go_at_call 26; first | with_reducible exact quiet_gw (hsi.out _) | with_reducible exact quiet_gw (hst.out _))))
  refine wpQuiet_nil ?_
  intro g2
  go_wp2_with fail
  go_returns
  exact ⟨rfl, (hX0.out.trans g.grown).trans g2.grown⟩
set_option maxHeartbeats 8000000 in
set_option maxRecDepth 100000 in
theorem refShowInsert_c (i f t : Int) (hi : inI i) (hf : inI f) (ht : inI t) (l : List Vl) (v : Value) (rt : ByteArray) (hrl : rt.size ≤ 2000) (w : World) (hl : Rw w [] v l) (hm : mchk 1 i f t l = 0) (hr : ∀ w', Ext w w' → Calls Tryd.prog 27 #[v] w' fun e w'' => e = .returned (.string rt) ∧ Ext w' w'') :
    Calls Tryd.prog 8 #[mg 1 i f t v] w fun e w' => e = .returned (.string (((((((((⟨#[105, 110, 115, 101, 114, 116, 32]⟩ : ByteArray) ++ dg i) ++ ⟨#[32, 91]⟩) ++ dg f) ++ ⟨#[44, 32]⟩) ++ dg t) ++ ⟨#[41, 32]⟩) ++ rt))) ∧ Ext w w' := by
  have hck := hide (fun w' (hX : Ext w w') => refCheck_c 1 i f t l v w' (Sl.ext hl hX))
  rw [hm] at hck
  have hsi : Hid (∀ w : World, Calls Tryd.prog 26 #[.int .i64 i] w fun e w' => e = .returned (.string (dg i)) ∧ Ext w w') := hide (fun w => refShow_c i hi w)
  have lsi := dg_len hi
  generalize dg i = Di at *
  have hsf : Hid (∀ w : World, Calls Tryd.prog 26 #[.int .i64 f] w fun e w' => e = .returned (.string (dg f)) ∧ Ext w w') := hide (fun w => refShow_c f hf w)
  have lsf := dg_len hf
  generalize dg f = Df at *
  have hst : Hid (∀ w : World, Calls Tryd.prog 26 #[.int .i64 t] w fun e w' => e = .returned (.string (dg t)) ∧ Ext w w') := hide (fun w => refShow_c t ht w)
  have lst := dg_len ht
  generalize dg t = Dt at *
  obtain ⟨Av, capv, rfl, hlc, hlm, -⟩ := rw_form hl
  have hX0 := hide ((Ext.refl w).alloc (mO 1 i f t (.slice Av l.length capv)))
  have hrt := hide hr
  clear hl hm hr
  go_enter Tryd.func8, Tryd.ntmps8
  go_wp2_with (first | (go_at_call 19; (with_reducible refine seq_gw (hck.out _ hX0.out) ?_); intro g))
  refine wp_region_gw (by kernel_rfl) (by kernel_rfl) ?_
  repeat (go_big_quiet_step ((first | (go_at_call 26; first | with_reducible exact quiet_gw (hsi.out _) | with_reducible exact quiet_gw (hsf.out _) | with_reducible exact quiet_gw (hst.out _)) | (go_at_call 27; with_reducible exact quiet_gw (hrt.out _ ((hX0.out.trans g.grown).trans (GW.grown _)))))))
  refine wpQuiet_nil ?_
  intro g2
  go_wp2_with fail
  go_returns
  exact ⟨rfl, (hX0.out.trans g.grown).trans g2.grown⟩
end Go.Proofs.YthidjngipkelcaaDoor
set_option linter.unusedVariables false
set_option linter.unusedSimpArgs false
namespace Go.Proofs.YthidjngipkelcaaDoor
open Go.RowKit
attribute [local go_sem] GW.cell GW.frozen In.eq_true In.le_true In.ne In.ne' In.ne_add In.ne_add' In.lt_add Upto.le_true Upto.le_add Upto.lt_add
theorem as_list (a : ByteArray) : ∃ A : List UInt8, a = ⟨A.toArray⟩ := ⟨a.data.toList, by rw [Array.toArray_toList]⟩
theorem txt_cti (a : ByteArray) : (⟨#[99, 116, 105, 32]⟩ : ByteArray) ++ a = ⟨(wordsT [⟨#[99, 116, 105]⟩, a]).toArray⟩ := by
  obtain ⟨A, rfl⟩ := as_list a
  rw [str_cat [99, 116, 105, 32] A]
  simp [wordsT, join_two, Lib.join_one]
theorem txt_ret (a b : ByteArray) : ((⟨#[114, 101, 116, 114, 97, 99, 116, 32]⟩ : ByteArray) ++ a) ++ ⟨#[32, 116, 111, 32]⟩ ++ b = ⟨(wordsT [⟨#[114, 101, 116, 114, 97, 99, 116]⟩, a, ⟨#[116, 111]⟩, b]).toArray⟩ := by
  obtain ⟨A, rfl⟩ := as_list a
  obtain ⟨B, rfl⟩ := as_list b
  rw [str_cat [114, 101, 116, 114, 97, 99, 116, 32] A, str_cat _ [32, 116, 111, 32], str_cat]
  simp [wordsT, join_two, Lib.join_one]
theorem txt_ins (i f t : Int) (r : ByteArray) : ((((((((⟨#[105, 110, 115, 101, 114, 116, 32]⟩ : ByteArray) ++ dg i) ++ ⟨#[32, 91]⟩) ++ dg f) ++ ⟨#[44, 32]⟩) ++ dg t) ++ ⟨#[41, 32]⟩) ++ r) = ⟨(wordsT [⟨#[105, 110, 115, 101, 114, 116]⟩, dg i, segT f t, r]).toArray⟩ := by
  unfold segT
  obtain ⟨A, hA⟩ := as_list (dg i)
  obtain ⟨B, hB⟩ := as_list (dg f)
  obtain ⟨C, hC⟩ := as_list (dg t)
  obtain ⟨D, rfl⟩ := as_list r
  rw [hA, hB, hC, str_cat [105, 110, 115, 101, 114, 116, 32] A, str_cat _ [32, 91], str_cat _ B, str_cat _ [44, 32], str_cat _ C, str_cat _ [41, 32], str_cat _ D, str_cat [91] B, str_cat _ [44, 32], str_cat _ C, str_cat _ [41]]
  simp [wordsT, join_two, Lib.join_one]
/-- A message, written. -/
def mT (k i f t : Int) (l : List Vl) : List UInt8 := if mchk k i f t l = 0 then (if k = 1 then wordsT [⟨#[105, 110, 115, 101, 114, 116]⟩, dg i, segT f t, ⟨(rowT showV l).toArray⟩] else if k = 2 then wordsT [⟨#[114, 101, 116, 114, 97, 99, 116]⟩, dg i, ⟨#[116, 111]⟩, dg t] else wordsT [⟨#[99, 116, 105]⟩, dg f]) else []
theorem rowT_len {l : List Vl} (hn : ∀ x ∈ l, inI x.2.1) (hm : mayR l = true) : (⟨(rowT showV l).toArray⟩ : ByteArray).size ≤ 2000 := by
  have l8 := (mayR_iff.1 hm).1
  have hJ := join_le [44, 32] 200 (l.map showV) (by intro x hx; obtain ⟨y, hy, rfl⟩ := List.mem_map.1 hx; exact showV_len (k := y.1) (n := y.2.1) (s := y.2.2) (hn y hy))
  rw [List.length_map] at hJ
  simp only [List.length_cons, List.length_nil] at hJ
  have e : (rowT showV l).length = (Lib.join (l.map showV) [44, 32]).length + 2 := by unfold rowT; simp
  show (rowT showV l).toArray.size ≤ 2000
  rw [List.size_toArray, e]
  omega
theorem in_id {n : Int} (h : 1 ≤ n ∧ n ≤ 1099511627776) : inI n := ⟨by omega, by omega⟩
theorem in_tick {n : Int} (h : 0 ≤ n ∧ n ≤ 1125899906842624) : inI n := ⟨by omega, by omega⟩
theorem msgShow_c (k i f t : Int) (l : List Vl) (hn : ∀ x ∈ l, inI x.2.1) (v : Value) (w : World) (hl : Rw w [] v l) (hT : Tab w) : Calls Tryd.prog 7 #[mg k i f t v] w fun e w' => e = .returned (.string ⟨(mT k i f t l).toArray⟩) ∧ Ext w w' := by
  by_cases hm : mchk k i f t l = 0
  · have e : mT k i f t l = (if k = 1 then wordsT [⟨#[105, 110, 115, 101, 114, 116]⟩, dg i, segT f t, ⟨(rowT showV l).toArray⟩] else if k = 2 then wordsT [⟨#[114, 101, 116, 114, 97, 99, 116]⟩, dg i, ⟨#[116, 111]⟩, dg t] else wordsT [⟨#[99, 116, 105]⟩, dg f]) := by unfold mT; rw [if_pos hm]
    rw [e]
    rcases chkK hm with rfl | rfl | rfl
    · obtain ⟨hr, hi, hf, ht⟩ := chk1 hm
      rw [if_pos rfl]
      exact showInsert_c i f t (in_id hi) (in_tick hf) (in_tick ht) l v _ (rowT_len hn hr) w hl hm hT (fun w' hX => rowShow_c showV l v w' (Sl.ext hl hX) hr (fun x hx => showV_len (k := x.1) (n := x.2.1) (s := x.2.2) (hn x hx)) (fun x hx w2 h2 => vshow_c x.1 x.2.1 x.2.2 (hn x hx) w2 (hT.ext (hX.trans h2))))
    · obtain ⟨hi, hf, ht, -⟩ := chk2 hm
      rw [if_neg (by decide), if_pos rfl]
      exact showRetract_c i f t (in_id hi) (in_tick ht) l v w hl hm hT
    · obtain ⟨hi, hf, ht, -⟩ := chk3 hm
      rw [if_neg (by decide), if_neg (by decide)]
      exact showCti_c i f t (in_tick hf) l v w hl hm hT
  · rw [show mT k i f t l = [] by unfold mT; rw [if_neg hm]]
    exact showBad_c k i f t l v w hl hm
theorem refMsgShow_c (k i f t : Int) (l : List Vl) (hn : ∀ x ∈ l, inI x.2.1) (v : Value) (w : World) (hl : Rw w [] v l) : Calls Tryd.prog 8 #[mg k i f t v] w fun e w' => e = .returned (.string ⟨(mT k i f t l).toArray⟩) ∧ Ext w w' := by
  by_cases hm : mchk k i f t l = 0
  · have e : mT k i f t l = (if k = 1 then wordsT [⟨#[105, 110, 115, 101, 114, 116]⟩, dg i, segT f t, ⟨(rowT showV l).toArray⟩] else if k = 2 then wordsT [⟨#[114, 101, 116, 114, 97, 99, 116]⟩, dg i, ⟨#[116, 111]⟩, dg t] else wordsT [⟨#[99, 116, 105]⟩, dg f]) := by unfold mT; rw [if_pos hm]
    rw [e]
    rcases chkK hm with rfl | rfl | rfl
    · obtain ⟨hr, hi, hf, ht⟩ := chk1 hm
      rw [if_pos rfl, ← txt_ins]
      exact refShowInsert_c i f t (in_id hi) (in_tick hf) (in_tick ht) l v _ (rowT_len hn hr) w hl hm (fun w' hX => refRowShow_c l hn v w' (Sl.ext hl hX) hr)
    · obtain ⟨hi, hf, ht, -⟩ := chk2 hm
      rw [if_neg (by decide), if_pos rfl, ← txt_ret]
      exact refShowRetract_c i f t (in_id hi) (in_tick ht) l v w hl hm
    · obtain ⟨hi, hf, ht, -⟩ := chk3 hm
      rw [if_neg (by decide), if_neg (by decide), ← txt_cti]
      exact refShowCti_c i f t (in_tick hf) l v w hl hm
  · rw [show mT k i f t l = [] by unfold mT; rw [if_neg hm]]
    exact refShowBad_c k i f t l v w hl hm
end Go.Proofs.YthidjngipkelcaaDoor
