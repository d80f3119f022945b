/-
  A helper of ours: no claim of its own. Layer 28 (hop): where windows begin, gathered out of a map of them and put in order, by the code.
-/
import Derived.Test.YtljkneajdndgjaaGreatStepR
import Derived.Test.YtljkneajdndgjaaGreatRfw
import Derived.Test.YtljkneajdndgjaaGreatShelf
import Derived.Test.YtljkneajdndgjaaGreatSnaM
import Derived.Test.YtljkneajdndgjaaGreatEdgGr
import Derived.Test.YtljkneajdndgjaaGreatEdgM
import Derived.Test.YtljkneajdndgjaaGreatHopQ
import Derived.Test.YtljkneajdndgjaaGreatRgx
set_option linter.unusedVariables false
set_option linter.unusedSimpArgs false
namespace Go.Proofs.YtljkneajdndgjaaGreat
open Go.RowKit
theorem itake_put (cur : Array Value) (xs : List Value) (h : xs.length ≤ cur.size) : (Go.Sort.putCells id 0 xs.toArray cur).toList.take xs.length = xs := by
  apply List.ext_getElem?
  intro i
  by_cases hi : i < xs.length
  · rw [List.getElem?_take_of_lt hi, Array.getElem?_toList]
    simp [Go.Sort.putCells, hi, show i < cur.size by omega]
  · rw [List.getElem?_eq_none (by rw [List.length_take]; omega), List.getElem?_eq_none (by omega)]
theorem iheap_put {w : World} {g n : Nat} {os : Array Obj} {cur : Array Value} {e : TypeId} {fr : Nat × Nat} (d : Array Value) (hb : w.heap[g]? = some (.cells cur e fr)) :
    (Go.Sort.grow (Go.Sort.putRow id (Go.Sort.ahead w n) g 0 d) os).heap[g]? = some (.cells (Go.Sort.putCells id 0 d cur) e fr) := by
  have hg : g < w.heap.size := (Array.getElem?_eq_some_iff.1 hb).1
  rw [Go.Sort.heap_grow_old _ _ (by simpa using hg)]
  simp [Go.Sort.putRow, Go.Sort.mapBlock, Go.Sort.ahead, Array.getElem?_modify, hb, Go.Sort.onCells]
theorem igrown_put {w : World} {g n : Nat} {os : Array Obj} (d : Array Value) : w.grownBy (Go.Sort.grow (Go.Sort.putRow id (Go.Sort.ahead w n) g 0 d) os) (some g) := by
  refine ⟨rfl, rfl, rfl, by simp, fun k hk hne => ?_⟩
  rw [Go.Sort.heap_grow_old _ _ (by simpa using hk)]
  have : g ≠ k := fun e => hne (by rw [e])
  simp [Go.Sort.putRow, Go.Sort.mapBlock, Go.Sort.ahead, Array.getElem?_modify, this]
theorem iput_map {α : Type} [Inhabited α] (enc : α → Value) (d : Array α) (c : Array Value) : Go.Sort.putCells enc 0 d c = Go.Sort.putCells id 0 (d.map enc) c := by
  unfold Go.Sort.putCells
  congr 1
  funext k x
  by_cases hk : k < d.size
  · rw [if_pos (by omega), if_pos (by simpa using hk)]
    simp [getElem!_pos d k hk, hk]
  · rw [if_neg (by omega), if_neg (by simpa using hk)]
theorem irow_map {α : Type} [Inhabited α] (enc : α → Value) (w : World) (g : Nat) (d : Array α) : Go.Sort.putRow enc w g 0 d = Go.Sort.putRow id w g 0 (d.map enc) := by
  unfold Go.Sort.putRow
  congr 1
  funext c
  exact iput_map enc d c
/-- Numbers in their order. -/
def srt (D : List Int) : List Int := D.mergeSort fun x y => decide (x ≤ y)
theorem srt_perm (D : List Int) : (srt D).Perm D := List.mergeSort_perm _ _
theorem srt_asc (D : List Int) : (srt D).Pairwise (· ≤ ·) := by
  have := List.pairwise_mergeSort (le := fun x y : Int => decide (x ≤ y)) (fun a b c h1 h2 => by simp at *; omega) (fun a b => by simp; omega) D
  exact this.imp fun h => by simpa using h
theorem srt_len (D : List Int) : (srt D).length = D.length := (srt_perm D).length_eq
theorem srt_mem (D : List Int) (x : Int) : x ∈ srt D ↔ x ∈ D := (srt_perm D).mem_iff
theorem srt_lt {D : List Int} (h : D.Nodup) : (srt D).Pairwise (· < ·) := by
  have h1 := srt_asc D
  have h2 : (srt D).Nodup := (srt_perm D).nodup_iff.2 h
  exact (h1.and h2).imp fun ⟨a, b⟩ => by omega
set_option maxHeartbeats 2000000 in
/-- Sorted in place. -/
theorem isort_c (B : Nat) (D : List Int) (v : Value) (w : World) (h : OwnZ w B v D) (hn : D.length ≤ 1000000000) : Calls Tryz.prog 110 #[v] w fun e w' => e = .returned (.tuple #[]) ∧ OwnZ w' B v (srt D) ∧ Fr (ob v) w w' := by
  have hl := srt_len D
  rcases h.2 with ⟨rfl, h0⟩ | ⟨g, cap, cur, rfl, hb, hg, hnc, hcm, hcs, ht⟩
  · obtain rfl : D = [] := List.eq_nil_of_length_eq_zero (by simpa using h0)
    refine (Tryz.slices_Sort_int_none none 0 w).mono ?_
    rintro e w' ⟨rfl, rfl⟩
    exact ⟨rfl, by rw [show srt [] = [] by simp [srt]]; exact h, Fr.refl _ _⟩
  · have hH : Go.Sort.Holds (Value.int .i64) w g 0 D.toArray := by
      intro j hj
      have hj' : j < D.length := by simpa using hj
      have h1 := World.ownsRow.cellAt h j (by omega)
      have h2 := World.ownsRow.frozenAt h j
      rw [Nat.zero_add]
      refine ⟨?_, h2⟩
      rw [h1, getElem!_pos D.toArray j hj]
      simp [zc, hj']
    refine (Tryz.slices_Sort_int g 0 cap D w hH (lt_of_block hg) (by omega)).mono ?_
    rintro e w' ⟨rfl, n, os, rfl⟩
    refine ⟨rfl, ?_, (Fr.refl _ _).grown (by rw [irow_map]; exact igrown_put _) (fun k hk => by cases hk; exact .inl (by simp [ob, Value.ownBlock]))⟩
    have hmap : ((D.mergeSort fun x y => decide (x ≤ y)).toArray.map (Value.int .i64)) = (zc (srt D)).toArray := by simp [zc, srt]
    have hzl : (zc (srt D)).length = D.length := by rw [zc_len, hl]
    refine ⟨by rw [zc_len, Nat.mul_one], .inr ⟨g, cap, Go.Sort.putCells id 0 (zc (srt D)).toArray cur, by rw [hl], hb, ?_, by rw [hl]; exact hnc, hcm, by simp [Go.Sort.putCells, hcs], ?_⟩⟩
    · rw [irow_map, hmap]
      exact iheap_put _ hg
    · have := itake_put cur (zc (srt D)) (by rw [hzl, hcs]; omega)
      rwa [hzl, ← hl, ← Nat.mul_one (List.length _)] at this
end Go.Proofs.YtljkneajdndgjaaGreat
set_option linter.unusedVariables false
set_option linter.unusedSimpArgs false
namespace Go.Proofs.YtljkneajdndgjaaGreat
open Go.RowKit
attribute [local go_sem] GW.cell GW.frozen In.eq_true In.le_true In.ne In.ne' In.ne_add In.ne_add' In.lt_add Upto.le_true Upto.le_add Upto.lt_add
section
variable {α : Type} {f : α → Lit × Value} {P : Program} {k : TypeId} {w : World} {b n : Nat} {M : List α} {ops : Array Oper} {rest : List Oper} {o : Oper} {a : Act} {Q : Exit → Act → World → Prop}
theorem wpl_minsert {t e : TypeId} (hg : o.guard = none) (m x v : Operand) (hop : o.op = Op.insert t m x v) {key : Value} (y : α) (hm : a.eval m = .map (some b)) (hx : a.eval x = key) (hv : a.eval v = (f y).2) (K : Go.Maps.Keyed P k) (ht : P.underlying t = some (.map k e)) (hn : n < maxLen) (h : Mv w P k f b n M) (hkey : keyOf P k key = some (f y).1)
    (hK : ∀ w', Mv w' P k f b (n + 1) (putM f M y) → w.grownBy w' (some b) → wpList P ops Q rest (a.put o.dst undef) w') : wpList P ops Q (o :: rest) a w := by
  refine wpList_plain hg fun K' hK' => ?_
  obtain ⟨w', hrun, r1, r2⟩ := h.store K ht hn y hkey
  unfold Oper.wp
  simp [execOp, hop, hm, hx, hv, hrun, Result.andThen]
  exact hK' _ _ (hK w' r1 r2)
end
/-- A place among the keys. -/
def ckent (t : Int) : Lit × Value := (.int .i64 t, .agg #[])
theorem cKey : Go.Maps.Keyed Tryz.prog 3 := Go.Maps.int_keyed Tryz.underlying3
theorem ckey_of {t : Int} (h : -9223372036854775808 ≤ t ∧ t ≤ 9223372036854775807) : keyOf Tryz.prog 3 (.int .i64 t) = some (.int .i64 t) := Go.Maps.keyOf_int_mk Tryz.underlying3 (by simp [Lit.wf, IntKind.min, IntKind.max, IntKind.bits, IntKind.signed]; omega)
theorem ck_same (s t : Int) : (ckent s).1.sameKey (ckent t).1 = decide (s = t) := by
  unfold ckent
  by_cases h : s = t <;> simp [Lit.sameKey, h]
theorem ck_put_mem (T : List Int) (t x : Int) : x ∈ putM ckent T t ↔ x = t ∨ x ∈ T := by
  unfold putM delM
  rw [List.mem_cons, List.mem_filter, ck_same]
  by_cases h : x = t <;> simp [h]
theorem ck_nodup {w : World} {b n : Nat} {T : List Int} (h : Mv w Tryz.prog 3 ckent b n T) : T.Nodup := (h.apart cKey).1.imp fun hne e => hne (by rw [e])
set_option maxHeartbeats 4000000 in
set_option maxRecDepth 100000 in
theorem snNext_c (c : List Int) (i : Nat) (hi : i < c.length) (hl : c.length ≤ 1000000) (v : Value) (w : World) (h : Zw w [] v c) : Calls Tryz.prog 73 #[v, .int .i64 i] w fun e w' => e = .returned (.int .i64 ((c[i + 1]?).getD 1125899906842624)) ∧ Ext w w' := by
  obtain ⟨A, cap, rfl, hlc, hlm, hat⟩ := zw_form h
  clear h
  by_cases hn : i + 1 = c.length
  · have e0 : c[i + 1]? = none := List.getElem?_eq_none (by omega)
    rw [e0]
    have hb : ((i : Int) + 1 == (c.length : Int)) = true := by simp; omega
    clear hat
    go_enter Tryz.func73, Tryz.ntmps73
    go_wp2_with fail
    all_goals
      go_returns
      exact ⟨rfl, Ext.refl _⟩
  · obtain ⟨x, hx⟩ : ∃ x, c[i + 1]? = some x := ⟨_, List.getElem?_eq_getElem (by omega)⟩
    obtain ⟨b, o, rfl, -, hb, c0⟩ := hat _ _ hx
    rw [hx]
    have hbn : ((i : Int) + 1 == (c.length : Int)) = false := by simp; omega
    haveI : In b w := ⟨hb⟩
    have hlt : i + 1 < c.length := by omega
    clear hat hx hn
    go_enter Tryz.func73, Tryz.ntmps73
    go_wp2_with fail
    all_goals
      go_returns
      exact ⟨rfl, Ext.refl _⟩
set_option maxHeartbeats 8000000 in
set_option maxRecDepth 100000 in
/-- The keys, in order. -/
theorem snSorted_c (T : List Int) (mb n : Nat) (hT : T.length ≤ 1000000) (w : World) (h : Mv w Tryz.prog 3 ckent mb n T) : Calls Tryz.prog 117 #[.map (some mb)] w fun e w' => ∃ v, e = .returned v ∧ OwnZ w' w.heap.size v (srt T) ∧ Ext w w' := by
  have hM := hide h
  have hml := h.lt
  clear h
  go_enter Tryz.func117, Tryz.ntmps117
  go_wp2_with (at_range; refine wpl_range rfl (.tmp 5) rfl rfl cKey Tryz.underlying143 hM.out ?_; intro w1 hr1 hg1 hs1)
  go_frame
  have hX1 := hide (ext_grown (Ext.refl w) hg1 (by simp))
  obtain ⟨r, hrr⟩ : ∃ r, r = w.heap.size := ⟨_, rfl⟩
  rw [← hrr] at hr1 ⊢
  have hrle : w.heap.size ≤ r := by omega
  have hrl : r < w1.heap.size := by omega
  have hsz1 : w1.heap.size = r + 1 := by omega
  replace hr1 := hide hr1
  have hXr := hX1
  clear hg1 hs1
  replace hrr := hide hrr
  go_loopg [3, 4] T.length (fun gh u z wr => ∃ (D L : List Int), L.length = gh ∧ Hid (T.Perm (D ++ L)) ∧ Hid (Rgv wr Tryz.prog 3 ckent mb r n T L) ∧ Hid (OwnZ wr (r + 1) u D) ∧ Hid (Ext w wr) ∧ r < wr.heap.size)
  case atStart => exact ⟨[], T, rfl, List.Perm.refl _, hr1, World.ownsRow_nil _ _ _ _, hX1, hrl⟩
  case round =>
    clear hr1 hX1
    obtain ⟨D, L, hL, hp0, hRv, hO, hX, hrl2⟩ := hrel
    obtain ⟨DA, dcap, rfl⟩ := own_form hO.out
    go_wp2_with (at_next; refine wpl_next rfl (.tmp 6) rfl rfl cKey hRv.out ?_ ?_)
    · intro hl0
      subst hl0
      have hD := hide (show D.Perm T by have := hp0.out; rw [List.append_nil] at this; exact this.symm)
      have hDl := hD.out.length_eq
      have hs := hide (isort_c (r + 1) D (.slice DA D.length dcap) wr hO.out (by omega))
      clear hRv hp0 hDl
      go_wp2_with (go_at_call 110; refine hs.out.mono ?_; rintro ee w2 ⟨rfl, ho2, hF2⟩; have ho3 := hide ho2; have hF3 := hide hF2; clear ho2 hF2)
      go_returns
      have e1 : srt D = srt T := by
        refine List.Perm.eq_of_pairwise (fun a b _ _ h1 h2 => by omega) (srt_asc D) (srt_asc T) ((srt_perm D).trans (hD.out.trans (srt_perm T).symm))
      refine ⟨_, rfl, ?_, ext_fr hX.out hF3.out fun b hb => ?_⟩
      · have h5 : OwnZ w2 w.heap.size (.slice DA D.length dcap) (srt D) := own_base ho3.out (by omega)
        rw [e1] at h5
        exact h5
      · have := (ob_ge hO.out b hb).1
        omega
    · intro key q L' w4 hkey hq hp hR4 hg4 hs4 hen
      have hlen : L'.length + 1 = L.length := by rw [hp.length_eq]; rfl
      obtain ⟨x, hkx, hkl, -⟩ := Go.Maps.keyOf_int_inv Tryz.underlying3 hkey
      obtain rfl : q = x := by unfold ckent at hkl; simpa using hkl
      subst hkx
      have hE : (ckent q).2 = .agg #[] := rfl
      rw [hE] at hen ⊢
      have hpn := hide (show T.Perm ((D ++ [q]) ++ L') by rw [List.append_assoc]; exact hp0.out.trans ((List.Perm.refl D).append hp))
      have hobD := ob_ge hO.out
      have hnr : (Value.slice DA D.length dcap).ownBlock ≠ some r := fun h => by have := (hobD r (Option.mem_toList.2 h)).1; omega
      have hO4 := hide (World.ownsRow.kept hO.out hg4 (.inr hnr))
      have hX4 := hide (ext_grown hX.out hg4 (fun z hz => by obtain rfl := Option.some.inj hz; exact hrle))
      have hDT : D.length + 1 ≤ T.length := by have := hp0.out.length_eq; rw [List.length_append] at this; omega
      have hr4 : r < w4.heap.size := by omega
      have hR5 := hide hR4
      clear hkey hq hp hR4 hg4 hs4 hRv hO hX hp0 hE hkl
      go_wp2_with (at_builtin; refine wpl_app tZ rfl (.tmp 11) (.tmp 13) rfl rfl (own_ext hO4.out ((Ext.refl w4).alloc _)) rfl (src_one Tryz.underlying78 w4 _ _ rfl) (by unfold maxLen; omega) (by omega) (by simp only [World.size_alloc]; omega) ?_; intro v8 w8 ho8 hg8 hob8; have ho9 := hide ho8; have hg9 := hide hg8; obtain ⟨A8, c8, q8⟩ := own_form ho8; subst q8; clear ho8 hg8 hob8)
      have hX9 : Ext w w8 := ext_grown (hX4.out.alloc _) hg9.out (fun z hz => by have := (hobD z (Option.mem_toList.2 hz)).1; omega)
      have hz9 := hg9.out.size
      simp only [World.size_alloc] at hz9
      go_roundg L'.length
      case measure => omega
      case rel =>
        refine ⟨D ++ [q], L', rfl, hpn, (hR5.out.kept (World.grownBy_alloc w4 _ none) (by simp) (by simp)).kept hg9.out (fun h => ?_) (fun h => hnr h.symm), own_appZ ho9.out, hX9, by omega⟩
        have := (hobD mb (Option.mem_toList.2 h.symm)).1
        omega
end Go.Proofs.YtljkneajdndgjaaGreat
set_option linter.unusedVariables false
set_option linter.unusedSimpArgs false
namespace Go.Proofs.YtljkneajdndgjaaGreat
open Go.RowKit
attribute [local go_sem] GW.cell GW.frozen In.eq_true In.le_true In.ne In.ne' In.ne_add In.ne_add' In.lt_add Upto.le_true Upto.le_add Upto.lt_add Oper.semAt_some wide_depth wide_fn
/-- What a map's iterator tells: an event's pointer. -/
def Hky (p : Eh) (vs : Array Value) (W : World) : Prop := vs = #[Value.int .i64 p.1]
theorem Hky.stab {B : Nat} (p : Eh) (vs : Array Value) : Stab B (Hky p vs) := Stab.pure _
set_option maxHeartbeats 8000000 in
set_option maxRecDepth 100000 in
theorem hkeys_seq (X : List Nat) (mb n : Nat) (T : List Eh) (w0 w : World) (b : Nat) (hM : Mv w0 Tryz.prog 3 kentH mb n T) (hX : Ext w0 w) (hb : Ob w b 83 [.map (some mb)]) (hmX : mb ∉ X) :
    SeqsG Tryz.prog w0.heap.size X 111 #[.pointer (some ⟨b, 0, none⟩)] Hky T w := by
  intro l J Jx Fb W hW hJ hJx hFb hY h0
  have q0 := (hb.ext hW).cell 0 rfl
  have hbl := (hb.ext hW).lt
  have hml := hM.lt
  have hz0 := hX.size
  have hz1 := hW.size
  have hMW := hide (hM.kept (ext_by (hX.trans hW)) (by simp))
  have hJ' := hide hJ
  have hY' := hide hY
  have h0' := hide h0
  haveI : In b W := ⟨hbl⟩
  clear hJ hJx hY hFb hb hX hW h0 hM
  refine (callsIn_wide (n := 1)).1 ?_
  refine callsIn_of_wp Tryz.func111 rfl trivial ?_ rfl
  simp only [Tryz.ntmps111, List.size_toArray, List.length_cons, List.length_nil, Nat.reduceAdd, Nat.reduceSub, Array.replicate_succ, Array.replicate_zero, List.push_toArray, List.append_toArray, List.nil_append, List.cons_append]
  gi_wp2_with (refine wplIn_range rfl (.tmp 4) rfl rfl hKey Tryz.underlying83 hMW.out ?_; intro w1 hr1 hg1 hs1)
  go_frame
  have hX1 : Ext W w1 := ext_grown (Ext.refl W) hg1 (by simp)
  obtain ⟨r, hrr⟩ : ∃ r, r = W.heap.size := ⟨_, rfl⟩
  rw [← hrr] at hr1 ⊢
  have hJ1 := hide ((hJ'.out []).ext _ _ h0'.out hX1)
  have hB1 := hide (belX_fr (X := X) (n₀ := w0.heap.size) (S := []) (Fr.of_ext hX1) (by omega) (by simp))
  have hrle : w0.heap.size ≤ r := by omega
  replace hr1 := hide hr1
  clear hg1 hs1 hX1 h0'
  replace hrr := hide hrr
  gi_loopg [3] T.length (fun gh z wr => ∃ (D L : List Eh), L.length = gh ∧ Hid (T.Perm (D ++ L)) ∧ Hid (Rgv wr Tryz.prog 3 kentH mb r n T L) ∧ Hid (J D wr) ∧ Hid (BelX w0.heap.size X W wr))
  case atStart => exact ⟨[], T, rfl, List.Perm.refl _, hr1, hJ1, hB1⟩
  case round =>
    clear hr1 hJ1 hB1
    obtain ⟨D, L, hL, hp0, hRv, hJD, hBx⟩ := hrel
    gi_wp2_with (refine wplIn_next rfl (.tmp 5) rfl rfl hKey hRv.out ?_ ?_)
    · intro hl0
      subst hl0
      have hD := hide (show D.Perm T by have := hp0.out; rw [List.append_nil] at this; exact this.symm)
      clear hRv hp0
      gi_wp2
      go_end0
      exact ⟨⟨_, rfl⟩, .inl ⟨D, hD.out, hJD.out⟩⟩
    · intro key qt qv qc L' w4 hkey hq hp hR4 hg4 hs4 hen
      obtain ⟨q, hqe⟩ : ∃ q : Eh, q = (qt, qv, qc) := ⟨_, rfl⟩
      rw [← hqe] at hkey hq hp hen ⊢
      obtain ⟨x, hkx, hkl, -⟩ := Go.Maps.keyOf_int_inv Tryz.underlying3 hkey
      obtain rfl : qt = x := by rw [hqe] at hkl; unfold kentH at hkl; simpa using hkl
      subst hkx
      have hE : (kentH q).2 = q.2.1 := rfl
      rw [hE] at hen ⊢
      have hlen : L'.length + 1 = L.length := by rw [hp.length_eq]; rfl
      have hJ4 := hide (next_stab (hJ'.out D) hJD.out hg4 hs4 (by rw [hrr.out]; exact Nat.le_refl _) hRv.out.iter)
      have hB4 := hide (hBx.out.trans (belX_fr (X := X) (n₀ := w0.heap.size) (S := [r]) ((Fr.refl [r] wr).grown hg4 (fun k hk => by obtain rfl := Option.some.inj hk; exact .inl (by simp))) (by have := hBx.out.size; omega) (by intro y hy; simp only [List.mem_singleton] at hy; subst hy; exact .inl hrle)))
      have hpn := hide (show T.Perm (D ++ q :: L') from hp0.out.trans ((List.Perm.refl D).append hp))
      obtain ⟨fn, tmps, assign, body, hy, hRd⟩ := hY'.out D q #[.int .i64 q.1] w4 ⟨L', hpn.out⟩ hJ4.out rfl
      rw [show q.1 = qt by rw [hqe]] at hy
      have hR5 := hide hR4
      have hB5 := hB4
      replace hRd := hide hRd
      clear hkey hq hp hR4 hg4 hs4 hRv hE hJ4 hB4 hBx hJD hp0 hkl
      gi_wp2
      refine hRd.out.mono ?_
      rintro e W3 (⟨rfl, hJ3, hB3, hK3, -⟩ | ⟨rfl, hJx3, -⟩)
      · have hR3 : Rgv W3 Tryz.prog 3 kentH mb r n T L' := by
          obtain ⟨o, ho, hc⟩ := hR5.out.iter
          refine hR5.out.of_blocks (hB3.block mb hml hmX) ?_
          rw [ho]
          exact hK3.same r o (by rw [hrr.out]; exact Nat.le_refl _) ho hc
        replace hR3 := hide hR3
        replace hJ3 := hide hJ3
        have hB6 := hide (hB5.out.trans hB3)
        clear hB3 hK3
        gi_wp2
        gi_roundg L'.length
        case measure => omega
        case rel => exact ⟨D ++ [q], L', rfl, (by show List.Perm _ _; rw [List.append_assoc]; exact hpn.out), hR3, hJ3, hB6⟩
      · replace hJx3 := hide hJx3
        gi_wp2
        refine bodyPost_ret (results_none rfl _ _ _) rfl ?_
        exact ⟨⟨_, rfl⟩, .inr ⟨_, hJx3.out⟩⟩
abbrev OwnKy (w : World) (base : Nat) (v : Value) (D : List Eh) : Prop := OwnZ w base v (D.map Prod.fst)
abbrev IAk (w : World) (b2 B0 : Nat) (T : List Eh) (D : List Eh) (W : World) : Prop :=
  (∃ mv, Ob W b2 78 [mv] ∧ OwnKy W B0 mv D) ∧ ((∃ L', T.Perm (D ++ L')) ∧ (Ext w W ∧ B0 ≤ W.heap.size))
theorem IAk.stab (w : World) (b2 B0 : Nat) (T D : List Eh) (C : Nat) (hC : w.heap.size ≤ C) : Stab C (IAk w b2 B0 T D) :=
  (Stab.ex fun mv => (Stab.ob _ _ _).and (Stab.own _ _ _ _ _ _)).and ((Stab.pure _).and ((Stab.of_ext hC).and ⟨fun A C h e => Nat.le_trans h e.size, fun A l o o' h _ _ _ => by simpa using h⟩))
set_option maxHeartbeats 8000000 in
set_option maxRecDepth 100000 in
theorem happendSeq_c (mb n : Nat) (T : List Eh) (b : Nat) (w : World) (hM : Mv w Tryz.prog 3 kentH mb n T) (hb : Ob w b 83 [.map (some mb)]) (hT : T.length ≤ 1000000) : Calls Tryz.prog 149 #[.slice none 0 0, .func (.func 111) #[] #[.pointer (some ⟨b, 0, none⟩)]] w fun e w' => ∃ v' D, e = .returned v' ∧ D.Perm T ∧ OwnKy w' w.heap.size v' D ∧ Ext w w' := by
  have hml := hM.lt
  obtain ⟨W0, hW0⟩ : ∃ W0, W0 = w.alloc (.cells #[.slice none 0 0] 78) := ⟨_, rfl⟩
  have hX0 : Ext w W0 := by rw [hW0]; exact (Ext.refl w).alloc _
  have p2 : Ob W0 w.heap.size 78 [.slice none 0 0] := by rw [hW0]; exact Ob.new w _ _
  have hM0 : Mv W0 Tryz.prog 3 kentH mb n T := hM.kept (ext_by hX0) (by simp)
  have hseq := hkeys_seq [w.heap.size] mb n T W0 W0 b hM0 (Ext.refl _) (hb.ext hX0) (by simp; omega)
  have hzw := hX0.size
  have hb2l := p2.lt
  have hW0s : W0.heap.size = w.heap.size + 1 := by rw [hW0]; simp
  rw [hW0s] at hseq
  refine calls_marks Tryz.func149 rfl ?_
  simp only [Tryz.ntmps149, List.size_toArray, List.length_cons, List.length_nil, Nat.reduceAdd, Nat.reduceSub, Array.replicate_succ, Array.replicate_zero, List.push_toArray, List.append_toArray, List.nil_append, List.cons_append]
  go_wp2_with fail
  rw [← hW0]
  refine wp_rangeG (X := [w.heap.size]) (xs := T) rfl (enters_of Tryz.func111 (by kernel_rfl) rfl) hseq (Ext.refl _) (by omega) (fun x vs W h => by rw [h]; rfl) (fun x vs => Hky.stab x vs)
    (fun _ _ => False) (fun b => Stab.pure _) (IAk w w.heap.size (w.heap.size + 1) T) (fun c D W => False)
    (fun D => IAk.stab w _ _ T D _ hzw) (fun c D => Stab.pure _)
    ⟨⟨_, p2, World.ownsRow_nil _ _ _ _⟩, ⟨T, by simp⟩, hX0, by omega⟩
    (fun D x vs a' W => a' = { tmps := #[.slice none 0 0, .func (.func 111) #[] #[.pointer (some ⟨b, 0, none⟩)], .pointer (some ⟨w.heap.size, 0, none⟩), undef, .slice none 0 0, (.int .i64 x.1), .func (.func 111) #[] #[.pointer (some ⟨b, 0, none⟩)], (.int .i64 x.1), undef, undef, undef, undef, undef], defers := [] })
    (fun D x vs a' => Stab.pure _) ?assign ?body ?done ?stop
  case assign =>
    rintro LL D x vs W K _ rfl hK
    gi_wp2
    exact hK _ _ (Ext.refl _) rfl
  case body =>
    rintro LL D x vs a' W ⟨L', hp⟩ ⟨⟨mv, o2, ho⟩, -, hXk, h1W⟩ rfl rfl
    have k2 := o2.cell 0 rfl
    have hDl : D.length < 1000000 := by have := hp.length_eq; rw [List.length_append, List.length_cons] at this; omega
    have hDm : (D.map Prod.fst).length = D.length := List.length_map _
    unfold OwnKy OwnZ at ho
    rw [hDm] at ho
    have hno := Ob.not_own o2 ho (by decide)
    have hp' := hide hp
    have hobg := ob_ge ho
    obtain ⟨MA, mcap, rfl⟩ := own_form ho
    have ho' := hide ho
    have o2' := hide o2
    have hXk' := hide hXk
    clear ho o2 hXk hp
    gi_wp2_with (refine wplIn_app tZ rfl (.tmp 8) (.tmp 10) rfl rfl (own_ext ho'.out ((Ext.refl W).alloc _)) rfl (src_one Tryz.underlying78 W _ _ rfl) (by unfold maxLen; omega) (by omega) (by simp only [World.size_alloc]; omega) ?_; intro v8 w8 ho8 hg8 hob8; have o8 := (o2'.out.alloc (.cells #[(.int .i64 x.1)] 3)).grown hg8 (Ne.symm hno); have k8 := o8.cell 0 rfl; have fr8 := o8.free 0; have l8 := o8.lt; haveI : In w.heap.size w8 := ⟨l8⟩; replace o8 := hide o8; obtain ⟨A8, c8, q8⟩ := own_form ho8; subst q8)
    have hS : ∀ y ∈ w.heap.size :: ob (.slice MA D.length mcap), y = w.heap.size ∨ w.heap.size + 1 ≤ y := fun y hy => (List.mem_cons.1 hy).imp id (fun h => (hobg y h).1)
    have hF : Fr (w.heap.size :: ob (.slice MA D.length mcap)) W (w8.setCell ⟨w.heap.size, 0, none⟩ (.slice A8 (D.length + 1) c8)) := ((((Fr.refl _ W).alloc _).grown hg8 (fun k hk => .inl (List.mem_cons_of_mem _ (by unfold ob; rw [show (Value.slice MA D.length mcap).ownBlock = some k from hk]; exact List.mem_singleton.2 rfl)))).setCell ⟨w.heap.size, 0, none⟩ _ (.inl (by simp)))
    have hown : OwnKy (w8.setCell ⟨w.heap.size, 0, none⟩ (.slice A8 (D.length + 1) c8)) (w.heap.size + 1) (.slice A8 (D.length + 1) c8) (D ++ [x]) := by
      have h1 := own_fr ho8 ((Fr.refl [w.heap.size] w8).setCell ⟨w.heap.size, 0, none⟩ (.slice A8 (D.length + 1) c8) (.inl (by simp))) (by simp)
      unfold OwnKy
      rw [List.map_append]
      refine own_appZ ?_
      rw [hDm]
      exact h1
    have o9 := o8.out.set 0 (.slice A8 (D.length + 1) c8)
    refine ⟨keeps_fr hF (fun y hy => ?_), belX_fr hF h1W (fun y hy => ?_), ⟨⟨_, o9, hown⟩, ⟨L', by rw [List.append_assoc]; exact hp'.out⟩, ext_fr hXk'.out hF (fun y hy => by have := hS y hy; omega), Nat.le_trans h1W hF.size⟩, fun _ _ _ h => h.elim⟩
    · rcases List.mem_cons.1 hy with rfl | hy
      · exact ⟨_, _, o2'.out⟩
      · exact ob_obj ho'.out y hy
    · rcases hS y hy with h | h
      · exact .inr (by simp [h])
      · exact .inl h
  case done =>
    rintro Dd D W hD hDp ⟨⟨mv, o2, ho⟩, -, hXk, h1W⟩ hK
    have k2 := o2.cell 0 rfl
    have hDm : (D.map Prod.fst).length = D.length := List.length_map _
    unfold OwnKy OwnZ at ho
    rw [hDm] at ho
    obtain ⟨MA, mcap, rfl⟩ := own_form ho
    have ho' := hide ho
    have hXk' := hide hXk
    have hK' := hide hK
    have hDp' := hide hDp
    clear ho hXk hK hDp
    go_wp2_with fail
    refine ret_mark hK'.out (v := .slice MA D.length mcap) (by simp [results, Tryz.f149, go_sem]) ⟨_, D, rfl, hDp'.out, ?_, put_ext hXk'.out (by omega) _⟩
    have h1 := (Stab.own (B := 0) _ _ _ _ _ _).put _ Dd _ (.deferred none) ho'.out (Nat.zero_le _) hK'.out rfl
    have h2 := own_base (B' := w.heap.size) h1 (by omega)
    unfold OwnKy OwnZ
    rw [hDm]
    exact h2
  case stop =>
    rintro D c k W _ h
    exact h.elim
set_option maxHeartbeats 2000000 in
theorem hkeysFn_c (mb : Nat) (w : World) : Calls Tryz.prog 58 #[.map (some mb)] w fun e w' => e = .returned (.func (.func 111) #[] #[.pointer (some ⟨w.heap.size, 0, none⟩)]) ∧ Ob w' w.heap.size 83 [.map (some mb)] ∧ Ext w w' := by
  have o := hide (Ob.new w 83 [.map (some mb)])
  go_enter Tryz.func58, Tryz.ntmps58
  go_wp2_with fail
  go_returns
  exact ⟨rfl, o.out, (Ext.refl w).alloc _⟩
set_option maxHeartbeats 2000000 in
theorem hcollectKeys_c (mb n : Nat) (T : List Eh) (b : Nat) (w : World) (hM : Mv w Tryz.prog 3 kentH mb n T) (hb : Ob w b 83 [.map (some mb)]) (hT : T.length ≤ 1000000) : Calls Tryz.prog 109 #[.func (.func 111) #[] #[.pointer (some ⟨b, 0, none⟩)]] w fun e w' => ∃ v' D, e = .returned v' ∧ D.Perm T ∧ OwnKy w' w.heap.size v' D ∧ Ext w w' := by
  have h1 := hide (happendSeq_c mb n T b w hM hb hT)
  clear hM hb
  go_enter Tryz.func109, Tryz.ntmps109
  go_wp2_with (go_at_call 149; refine h1.out.mono ?_; rintro ee w1 ⟨v1, D, rfl, hD, ho, hX⟩; (unfold OwnKy OwnZ at ho; rw [List.length_map] at ho); obtain ⟨A1, c1, rfl⟩ := own_form ho; replace ho := hide ho; replace hX := hide hX; replace hD := hide hD)
  go_returns
  exact ⟨_, D, rfl, hD.out, by unfold OwnKy OwnZ; rw [List.length_map]; exact ho.out, hX.out⟩
end Go.Proofs.YtljkneajdndgjaaGreat
