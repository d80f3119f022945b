/-
  A helper of ours: no claim of its own. Layer 8 (msg): a message written, by the code: its words, and an insert.
-/
import Derived.Test.YthidjngipkelcaaDoorMsgS
set_option linter.unusedVariables false
set_option linter.unusedSimpArgs false
namespace Go.Proofs.YthidjngipkelcaaDoor
open Go.RowKit
attribute [local go_sem] GW.cell GW.frozen In.eq_true In.le_true In.ne In.ne' In.ne_add In.ne_add' In.lt_add Upto.le_true Upto.le_add Upto.lt_add
def JoinsW (w : World) (v : Value) (R : List UInt8) : Prop := Calls Tryd.prog 25 #[v, .string ⟨#[32]⟩] w fun e w' => e = .returned (.string ⟨R.toArray⟩) ∧ Ext w w'
theorem join_words {w : World} {B : Nat} {v : Value} {l : List ByteArray} (h : OwnT w B v l) (h0 : l ≠ []) (hN : l.length ≤ 1000) (hlen : (Lib.join (l.map (·.data.toList)) [32]).length ≤ 140737488355328) : JoinsW w v (Lib.join (l.map (·.data.toList)) [32]) := by
  have hpos : 0 < l.length := List.length_pos_iff.2 h0
  rcases h.2 with ⟨rfl, hz⟩ | ⟨g, cap, cur, rfl, hb, hg, hn, hc, hcs, ht⟩
  · omega
  · refine (Tryd.strings_Join g 0 cap l ⟨#[32]⟩ w (fun j x hx => ?_) (lt_of_block hg) (by omega) hn (by simpa using hlen)).mono ?_
    · have := h.cells (g := g) rfl j (.string x) (by simp [sc, hx])
      rw [add_plain] at this
      exact this
    · rintro e w' ⟨rfl, hB⟩
      exact ⟨by simp, hB⟩
/-- Words, one space between. -/
def wordsT (l : List ByteArray) : List UInt8 := Lib.join (l.map (·.data.toList)) [32]
theorem words_len (l : List ByteArray) (K : Nat) (h : ∀ x ∈ l, x.size ≤ K) : (wordsT l).length ≤ l.length * (K + 1) := by
  have := join_le [32] K (l.map (·.data.toList)) (by
    intro x hx
    obtain ⟨y, hy, rfl⟩ := List.mem_map.1 hx
    rw [size_lst]; exact h y hy)
  rw [List.length_map] at this
  exact this
theorem run_addT (a b : ByteArray) (h : a.size + b.size ≤ 4000) (w : World) : (binOp .add 9 (.string a) (.string b)).run Tryd.prog w = .ok (.string (a ++ b)) w := by
  simp [go_sem, Op.stringOp, maxLen]; omega
theorem size_cat (a b : ByteArray) : (a ++ b).size = a.size + b.size := ByteArray.size_append
/-- A lifetime, written. -/
def segT (f t : Int) : ByteArray := (((⟨#[91]⟩ : ByteArray) ++ dg f) ++ ⟨#[44, 32]⟩) ++ dg t ++ ⟨#[41]⟩
set_option maxHeartbeats 8000000 in
set_option maxRecDepth 100000 in
theorem showInsert_c (i f t : Int) (hi : inI i) (hf : inI f) (ht : inI t) (l : List Vl) (v : Value) (rt : ByteArray) (hrl : rt.size ≤ 2000) (w : World) (hl : Rw w [] v l) (hm : mchk 1 i f t l = 0) (hT : Tab w) (hr : ∀ w', Ext w w' → Calls Tryd.prog 24 #[v] w' fun e w'' => e = .returned (.string rt) ∧ Ext w' w'') :
    Calls Tryd.prog 7 #[mg 1 i f t v] w fun e w' => e = .returned (.string ⟨(wordsT [⟨#[105, 110, 115, 101, 114, 116]⟩, dg i, segT f t, rt]).toArray⟩) ∧ Ext w w' := by
  have hck := hide (fun w' (hX : Ext w w') => check_c 1 i f t l v w' (Sl.ext hl hX))
  rw [hm] at hck
  obtain ⟨Av, capv, rfl, hlc, hlm, -⟩ := rw_form hl
  have hX0 := hide ((Ext.refl w).alloc (mO 1 i f t (.slice Av l.length capv)))
  have M0 := hide (Ob.new w 26 [.int .i64 1, .int .i64 i, .int .i64 f, .int .i64 t, .slice Av l.length capv])
  have htb := hide hT
  have hrt := hide hr
  have hcf := hide (fun w h => show_c f hf w h)
  have hct := hide (fun w h => show_c t ht w h)
  have lf := dg_len hf
  have lt := dg_len ht
  have li := dg_len hi
  have hmf : ∀ (fn : Fn) (first cap : Array Value) (w : World), (Instr.makeFunc fn first cap).run Tryd.prog w = .ok (.func fn first cap) w := fun _ _ _ _ => rfl
  have lseg : (segT f t).size ≤ 50 := by
    unfold segT
    rw [size_cat, size_cat, size_cat, size_cat]
    show 1 + (dg f).size + 2 + (dg t).size + 1 ≤ 50
    omega
  have hwl := words_len [⟨#[105, 110, 115, 101, 114, 116]⟩, dg i, segT f t, rt] 2000 (by
    intro x hx
    simp only [List.mem_cons, List.not_mem_nil, or_false] at hx
    rcases hx with rfl | rfl | rfl | rfl
    · show 6 ≤ 2000; omega
    · omega
    · omega
    · exact hrl)
  clear hl hm hT hr
  go_enter Tryd.func7, Tryd.ntmps7
  go_wp2_with (first | (go_at_call 9; (with_reducible refine seq_gw (hck.out _ hX0.out) ?_); intro g) | (go_at_call 22; refine (add_c (w.heap.size + 1) g.val.heap.size (.slice none 0 0) [] ⟨#[105, 110, 115, 101, 114, 116]⟩ i hi _ (htb.out.ext (hX0.out.trans (g.grown.alloc _))) ⟨Ob.new g.val _ _, World.ownsRow_nil _ _ _ _, (by have := GW.size g; simp only [World.size_alloc] at this; omega)⟩ (by simp)).mono ?_; rintro ee wa ⟨rfl, va, hbx, hFa⟩; have hgs := GW.size g; simp only [World.size_alloc] at hgs; have hMa := ((M0.out.ext g.grown).alloc (.cells #[.slice none 0 0] 48)).fr hFa (by simp [ob, Value.ownBlock]; omega); have m0 := hMa.cell 0 rfl; have m1 := hMa.cell 1 rfl; have hMlt := hMa.lt; haveI : In w.heap.size wa := ⟨hMlt⟩))
  have hXa := hide (ext_fr (hX0.out.trans (g.grown.alloc (.cells #[.slice none 0 0] 48))) hFa (by intro y hy; simp [ob, Value.ownBlock] at hy; omega))
  obtain ⟨B, hBe⟩ : ∃ B, B = g.val.heap.size := ⟨_, rfl⟩
  rw [← hBe] at hbx ⊢
  have hMB : w.heap.size < B := by omega
  obtain ⟨hO, ho, hbB⟩ := hbx
  obtain ⟨ws, hws⟩ : ∃ ws : List ByteArray, ws = [⟨#[105, 110, 115, 101, 114, 116]⟩, dg i] := ⟨_, rfl⟩
  rw [List.nil_append, ← hws] at ho
  have hw2 : ws.length ≤ 2 := by rw [hws]; simp
  have hjn : ∀ (w1 : World) (v1 : Value), OwnT w1 (w.heap.size + 1) v1 (ws ++ [segT f t, rt]) → (∃ u, Ob w1 B 48 [u]) → JoinsW (w1.setCell ⟨B, 0, none⟩ v1) v1 (wordsT (ws ++ [segT f t, rt])) := by
    rintro w1 v1 h1 ⟨u, h2⟩
    have h3 := own_far h1 ⟨B, 0, none⟩ v1 (h2.not_own h1 (by decide))
    exact join_words h3 (by simp) (by rw [List.length_append]; simp; omega) (by show (wordsT (ws ++ [segT f t, rt])).length ≤ _; rw [hws]; exact Nat.le_trans hwl (by simp))
  have hM := hide hMa
  have hbase := hO.lt
  replace hO := hide hO
  replace ho := hide ho
  obtain ⟨A, cap, rfl⟩ := own_form ho.out
  have hres : Hid (wordsT (ws ++ [segT f t, rt]) = wordsT [⟨#[105, 110, 115, 101, 114, 116]⟩, dg i, segT f t, rt]) := by rw [hws]; rfl
  unfold JoinsW at hjn
  replace hws := hide hws
  replace hjn := hide hjn
  clear hMa hFa hwl m0 m1 hgs hck lseg hrl hBe
  refine wp_region_list_tail 15 [.is (.slice A ws.length cap), .is (.pointer (some ⟨w.heap.size, 2, none⟩)), .is (.int .i64 f), .is (.string (dg f)), .is (.string ((⟨#[91]⟩ : ByteArray) ++ dg f)), .is (.string (((⟨#[91]⟩ : ByteArray) ++ dg f) ++ ⟨#[44, 32]⟩)), .is (.pointer (some ⟨w.heap.size, 3, none⟩)), .is (.int .i64 t), .is (.string (dg t)), .is (.string ((((⟨#[91]⟩ : ByteArray) ++ dg f) ++ ⟨#[44, 32]⟩) ++ dg t)), .is (.string (segT f t)), .is (.pointer (some ⟨w.heap.size, 4, none⟩)), .is (.slice Av l.length capv), .is (.string rt), two (segT f t) rt] (by kernel_rfl) (by kernel_rfl) (by kernel_rfl) (by kernel_rfl) (by kernel_rfl) (by kernel_rfl) (by kernel_rfl) ?_ ?_
  · refine ⟨?_, ?_, ?_, ?_, ?_, ?_, ?_, ?_, ?_, ?_, ?_, ?_, ?_, ?_, ?_, trivial⟩
    · intro b w' h hE
      have f3 : b.tmps.getD 3 undef = .pointer (some ⟨B, 0, none⟩) := hE 3 (of_decide_eq_true (by kernel_rfl))
      have c0 := (hO.out.ext h.ext).cell 0 rfl
      exact good_load (wanted_none rfl) rfl f3 (by simp [go_sem, c0]) rfl
    · intro b w' h hE
      have f1 : b.tmps.getD 1 undef = .pointer (some ⟨w.heap.size, 0, none⟩) := hE 1 (of_decide_eq_true (by kernel_rfl))
      exact good_field (wanted_none rfl) rfl f1 (by simp [go_sem]) rfl
    · intro b w' h hE
      have f18 : b.tmps.getD 18 undef = .pointer (some ⟨w.heap.size, 2, none⟩) := h.dep 1 _ 18 (by kernel_rfl) rfl rfl
      have c0 := (hM.out.ext h.ext).cell 2 rfl
      exact good_load (wanted_none rfl) rfl f18 (by simp [go_sem, c0]) rfl
    · intro b w' h hE
      have f19 : b.tmps.getD 19 undef = .int .i64 f := h.dep 2 _ 19 (by kernel_rfl) rfl rfl
      refine good_call (wanted_none rfl) rfl (enters Tryd.func23 (by kernel_rfl) rfl) ?_
      rw [show (#[.tmp 19] : Array Operand).map b.eval = #[.int .i64 f] by simp [Act.eval, f19]]
      exact (hcf.out _ (htb.out.ext (hXa.out.trans h.ext))).mono fun e w1 ⟨he, hx⟩ => ⟨_, he, rfl, hx⟩
    · intro b w' h hE
      have f20 : b.tmps.getD 20 undef = .string (dg f) := h.dep 3 _ 20 (by kernel_rfl) rfl rfl
      exact good_bin (wanted_none rfl) rfl rfl f20 (guard_str _) (run_addT _ _ (by show 1 + (dg f).size ≤ 4000; omega) _) rfl
    · intro b w' h hE
      have f21 : b.tmps.getD 21 undef = .string ((⟨#[91]⟩ : ByteArray) ++ dg f) := h.dep 4 _ 21 (by kernel_rfl) rfl rfl
      exact good_bin (wanted_none rfl) rfl f21 rfl (guard_str _) (run_addT _ _ (by rw [size_cat]; show 1 + (dg f).size + 2 ≤ 4000; omega) _) rfl
    · intro b w' h hE
      have f1 : b.tmps.getD 1 undef = .pointer (some ⟨w.heap.size, 0, none⟩) := hE 1 (of_decide_eq_true (by kernel_rfl))
      exact good_field (wanted_none rfl) rfl f1 (by simp [go_sem]) rfl
    · intro b w' h hE
      have f23 : b.tmps.getD 23 undef = .pointer (some ⟨w.heap.size, 3, none⟩) := h.dep 6 _ 23 (by kernel_rfl) rfl rfl
      have c0 := (hM.out.ext h.ext).cell 3 rfl
      exact good_load (wanted_none rfl) rfl f23 (by simp [go_sem, c0]) rfl
    · intro b w' h hE
      have f24 : b.tmps.getD 24 undef = .int .i64 t := h.dep 7 _ 24 (by kernel_rfl) rfl rfl
      refine good_call (wanted_none rfl) rfl (enters Tryd.func23 (by kernel_rfl) rfl) ?_
      rw [show (#[.tmp 24] : Array Operand).map b.eval = #[.int .i64 t] by simp [Act.eval, f24]]
      exact (hct.out _ (htb.out.ext (hXa.out.trans h.ext))).mono fun e w1 ⟨he, hx⟩ => ⟨_, he, rfl, hx⟩
    · intro b w' h hE
      have f22 : b.tmps.getD 22 undef = .string (((⟨#[91]⟩ : ByteArray) ++ dg f) ++ ⟨#[44, 32]⟩) := h.dep 5 _ 22 (by kernel_rfl) rfl rfl
      have f25 : b.tmps.getD 25 undef = .string (dg t) := h.dep 8 _ 25 (by kernel_rfl) rfl rfl
      exact good_bin (wanted_none rfl) rfl f22 f25 (guard_str _) (run_addT _ _ (by rw [size_cat, size_cat]; show 1 + (dg f).size + 2 + (dg t).size ≤ 4000; omega) _) rfl
    · intro b w' h hE
      have f26 : b.tmps.getD 26 undef = .string ((((⟨#[91]⟩ : ByteArray) ++ dg f) ++ ⟨#[44, 32]⟩) ++ dg t) := h.dep 9 _ 26 (by kernel_rfl) rfl rfl
      exact good_bin (wanted_none rfl) rfl f26 rfl (guard_str _) (run_addT _ _ (by rw [size_cat, size_cat, size_cat]; show 1 + (dg f).size + 2 + (dg t).size + 1 ≤ 4000; omega) _) rfl
    · intro b w' h hE
      have f1 : b.tmps.getD 1 undef = .pointer (some ⟨w.heap.size, 0, none⟩) := hE 1 (of_decide_eq_true (by kernel_rfl))
      exact good_field (wanted_none rfl) rfl f1 (by simp [go_sem]) rfl
    · intro b w' h hE
      have f28 : b.tmps.getD 28 undef = .pointer (some ⟨w.heap.size, 4, none⟩) := h.dep 11 _ 28 (by kernel_rfl) rfl rfl
      have c0 := (hM.out.ext h.ext).cell 4 rfl
      exact good_load (wanted_none rfl) rfl f28 (by simp [go_sem, c0]) rfl
    · intro b w' h hE
      have f29 : b.tmps.getD 29 undef = .slice Av l.length capv := h.dep 12 _ 29 (by kernel_rfl) rfl rfl
      refine good_call (wanted_none rfl) rfl (enters Tryd.func24 (by kernel_rfl) rfl) ?_
      rw [show (#[.tmp 29] : Array Operand).map b.eval = #[.slice Av l.length capv] by simp [Act.eval, f29]]
      exact (hrt.out _ (hXa.out.trans h.ext)).mono fun e w1 ⟨he, hx⟩ => ⟨_, he, rfl, hx⟩
    · intro b w' h hE
      have f27 : b.tmps.getD 27 undef = .string (segT f t) := h.dep 10 _ 27 (by kernel_rfl) rfl rfl
      have f30 : b.tmps.getD 30 undef = .string rt := h.dep 13 _ 30 (by kernel_rfl) rfl rfl
      refine good_grow (w' := w'.alloc (.cells #[.string (segT f t), .string rt] 9)) (v := .slice (some ⟨w'.heap.size, 0, none⟩) 2 2) (wanted_none rfl) ?_ (two_new _ _ _) ((Ext.refl _).alloc _)
      have g27 : b.tmps[27]?.getD undef = .string (segT f t) := by rw [← Array.getD_eq_getD_getElem?]; exact f27
      have g30 : b.tmps[30]?.getD undef = .string rt := by rw [← Array.getD_eq_getD_getElem?]; exact f30
      have := buildT2 (segT f t) rt w'
      simp [execOp, Act.eval, g27, g30, this, Sem.run_bind, Sem.run_pure, Result.andThen_ok]
  · intro b w2 hX2 hd hz he' hf
    have f0 : b.tmps.getD 17 undef = .slice A ws.length cap := hf 0 _ 17 (by omega) rfl rfl
    have f9 : Sl w2 [] 1 (b.tmps.getD 31 undef) 2 [.string (segT f t), .string (rt)] := hf 14 _ 31 (by omega) rfl rfl
    have e := frame_puts hd hz he'
    obtain ⟨x, hx⟩ : ∃ x : Nat → Value, ∀ d, b.tmps.getD d undef = x d := ⟨_, fun _ => rfl⟩
    rw [hx] at f0 f9
    obtain ⟨A2, c2, e9, _⟩ := id f9
    rw [show dstsOf _ = [17, 18, 19, 20, 21, 22, 23, 24, 25, 26, 27, 28, 29, 30, 31] from rfl] at e
    simp only [List.foldl_cons, List.foldl_nil, hx, Act.put, List.setIfInBounds_toArray, List.set_cons_succ, List.set_cons_zero] at e
    rw [f0, e9] at e
    rw [e9] at f9
    replace f9 := hide f9
    clear hf he' hz hd hx f0
    subst e
    have hzw := hX2.size
    have hnB := hO.out.not_own ho.out (T := 48) (by decide)
    simp only [List.drop_succ_cons, List.drop_zero]
    go_wp2_with (first | (at_builtin; (refine wpl_app tStr rfl (.tmp 17) (.tmp 31) rfl rfl (own_ext ho.out hX2) rfl (src_sl Tryd.underlying48 f9.out (by intro u hu; simp at hu; rcases hu with rfl | rfl <;> rfl) (by omega)) (by unfold maxLen; omega) (by omega) (by omega) ?_; intro v1 w1 ho1 hg1 hob1; replace hg1 : w2.grownBy w1 (Value.slice A ws.length cap).ownBlock := hg1; have O1 := (hO.out.ext hX2).grown hg1 (fun e => hnB e.symm); have k0 := O1.cell 0 rfl; have z0 := O1.free 0; have hlt1 := O1.lt; haveI : In B w1 := ⟨hlt1⟩; obtain ⟨A1, cp1, rfl⟩ := own_form ho1; replace ho1 := own_twoT ho1)) | (go_at_call 25; go_loud ((with_reducible refine seq_gw (hjn.out w1 (.slice A1 (ws.length + 2) cp1) ho1 ⟨_, O1⟩) ?_)); intro g9))
    go_returns
    rw [hres.out]
    have hF := ((Fr.of_ext (S := B :: ob (.slice A ws.length cap)) hX2).then (fr_grown hg1) (fun x hx => .inl (by simp; exact .inr (by simpa [ob] using hx)))).setCell ⟨B, 0, none⟩ (.slice A1 (ws.length + 2) cp1) (.inl (by simp))
    exact ⟨rfl, (ext_fr hXa.out hF (by intro y hy; rcases List.mem_cons.1 hy with rfl | hy; omega; have := (ob_ge ho.out y hy).1; omega)).trans g9.grown⟩
end Go.Proofs.YthidjngipkelcaaDoor
