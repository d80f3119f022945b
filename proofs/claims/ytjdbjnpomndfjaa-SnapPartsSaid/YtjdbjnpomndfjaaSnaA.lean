/-
  A helper of ours: no claim of its own. Layer 27 (snap): where a table changes, by the code.
-/
import Derived.Test.YtjdbjnpomndfjaaSnaM
import Derived.Test.YtjdbjnpomndfjaaSnaZ
import Derived.Test.YtjdbjnpomndfjaaMapV
import Derived.Test.YtjdbjnpomndfjaaEdgM
set_option linter.unusedVariables false
set_option linter.unusedSimpArgs false
namespace Go.Proofs.Ytjdbjnpomndfjaa
open Go.RowKit
attribute [local go_sem] GW.cell GW.frozen In.eq_true In.le_true In.ne In.ne' In.ne_add In.ne_add' In.lt_add Upto.le_true Upto.le_add Upto.lt_add
section
variable {α : Type} {f : α → Lit × Value} {P : Program} {k : TypeId} {w : World} {b n : Nat} {M : List α} {ops : Array Oper} {rest : List Oper} {o : Oper} {a : Act} {Q : Exit → Act → World → Prop}
theorem wpl_minsert {t e : TypeId} (hg : o.guard = none) (m x v : Operand) (hop : o.op = Op.insert t m x v) {key : Value} (y : α) (hm : a.eval m = .map (some b)) (hx : a.eval x = key) (hv : a.eval v = (f y).2) (K : Go.Maps.Keyed P k) (ht : P.underlying t = some (.map k e)) (hn : n < maxLen) (h : Mv w P k f b n M) (hkey : keyOf P k key = some (f y).1)
    (hK : ∀ w', Mv w' P k f b (n + 1) (putM f M y) → w.grownBy w' (some b) → wpList P ops Q rest (a.put o.dst undef) w') : wpList P ops Q (o :: rest) a w := by
  refine wpList_plain hg fun K' hK' => ?_
  obtain ⟨w', hrun, r1, r2⟩ := h.store K ht hn y hkey
  unfold Oper.wp
  simp [execOp, hop, hm, hx, hv, hrun, Result.andThen]
  exact hK' _ _ (hK w' r1 r2)
end
/-- A place among the keys. -/
def ckent (t : Int) : Lit × Value := (.int .i64 t, .agg #[])
theorem cKey : Go.Maps.Keyed Try.prog 3 := Go.Maps.int_keyed Try.underlying3
theorem ckey_of {t : Int} (h : -9223372036854775808 ≤ t ∧ t ≤ 9223372036854775807) : keyOf Try.prog 3 (.int .i64 t) = some (.int .i64 t) := Go.Maps.keyOf_int_mk Try.underlying3 (by simp [Lit.wf, IntKind.min, IntKind.max, IntKind.bits, IntKind.signed]; omega)
theorem ck_same (s t : Int) : (ckent s).1.sameKey (ckent t).1 = decide (s = t) := by
  unfold ckent
  by_cases h : s = t <;> simp [Lit.sameKey, h]
theorem ck_put_mem (T : List Int) (t x : Int) : x ∈ putM ckent T t ↔ x = t ∨ x ∈ T := by
  unfold putM delM
  rw [List.mem_cons, List.mem_filter, ck_same]
  by_cases h : x = t <;> simp [h]
theorem ck_nodup {w : World} {b n : Nat} {T : List Int} (h : Mv w Try.prog 3 ckent b n T) : T.Nodup := (h.apart cKey).1.imp fun hne e => hne (by rw [e])
set_option maxHeartbeats 4000000 in
set_option maxRecDepth 100000 in
theorem snNext_c (c : List Int) (i : Nat) (hi : i < c.length) (hl : c.length ≤ 1000000) (v : Value) (w : World) (h : Zw w [] v c) : Calls Try.prog 52 #[v, .int .i64 i] w fun e w' => e = .returned (.int .i64 ((c[i + 1]?).getD 1125899906842624)) ∧ Ext w w' := by
  obtain ⟨A, cap, rfl, hlc, hlm, hat⟩ := zw_form h
  clear h
  by_cases hn : i + 1 = c.length
  · have e0 : c[i + 1]? = none := List.getElem?_eq_none (by omega)
    rw [e0]
    have hb : ((i : Int) + 1 == (c.length : Int)) = true := by simp; omega
    clear hat
    go_enter Try.func52, Try.ntmps52
    go_wp2_with fail
    all_goals
      go_returns
      exact ⟨rfl, Ext.refl _⟩
  · obtain ⟨x, hx⟩ : ∃ x, c[i + 1]? = some x := ⟨_, List.getElem?_eq_getElem (by omega)⟩
    obtain ⟨b, o, rfl, -, hb, c0⟩ := hat _ _ hx
    rw [hx]
    have hbn : ((i : Int) + 1 == (c.length : Int)) = false := by simp; omega
    haveI : In b w := ⟨hb⟩
    have hlt : i + 1 < c.length := by omega
    clear hat hx hn
    go_enter Try.func52, Try.ntmps52
    go_wp2_with fail
    all_goals
      go_returns
      exact ⟨rfl, Ext.refl _⟩
set_option maxHeartbeats 8000000 in
set_option maxRecDepth 100000 in
/-- The keys, in order. -/
theorem snSorted_c (T : List Int) (mb n : Nat) (hT : T.length ≤ 1000000) (w : World) (h : Mv w Try.prog 3 ckent mb n T) : Calls Try.prog 46 #[.map (some mb)] w fun e w' => ∃ v, e = .returned v ∧ OwnZ w' w.heap.size v (srt T) ∧ Ext w w' := by
  have hM := hide h
  have hml := h.lt
  clear h
  go_enter Try.func46, Try.ntmps46
  go_wp2_with (at_range; refine wpl_range rfl (.tmp 5) rfl rfl cKey Try.underlying68 hM.out ?_; intro w1 hr1 hg1 hs1)
  go_frame
  have hX1 := hide (ext_grown (Ext.refl w) hg1 (by simp))
  obtain ⟨r, hrr⟩ : ∃ r, r = w.heap.size := ⟨_, rfl⟩
  rw [← hrr] at hr1 ⊢
  have hrle : w.heap.size ≤ r := by omega
  have hrl : r < w1.heap.size := by omega
  have hsz1 : w1.heap.size = r + 1 := by omega
  replace hr1 := hide hr1
  have hXr := hX1
  clear hg1 hs1
  replace hrr := hide hrr
  go_loopg [3, 4] T.length (fun gh u z wr => ∃ (D L : List Int), L.length = gh ∧ Hid (T.Perm (D ++ L)) ∧ Hid (Rgv wr Try.prog 3 ckent mb r n T L) ∧ Hid (OwnZ wr (r + 1) u D) ∧ Hid (Ext w wr) ∧ r < wr.heap.size)
  case atStart => exact ⟨[], T, rfl, List.Perm.refl _, hr1, World.ownsRow_nil _ _ _ _, hX1, hrl⟩
  case round =>
    clear hr1 hX1
    obtain ⟨D, L, hL, hp0, hRv, hO, hX, hrl2⟩ := hrel
    obtain ⟨DA, dcap, rfl⟩ := own_form hO.out
    go_wp2_with (at_next; refine wpl_next rfl (.tmp 6) rfl rfl cKey hRv.out ?_ ?_)
    · intro hl0
      subst hl0
      have hD := hide (show D.Perm T by have := hp0.out; rw [List.append_nil] at this; exact this.symm)
      have hDl := hD.out.length_eq
      have hs := hide (isort_c (r + 1) D (.slice DA D.length dcap) wr hO.out (by omega))
      clear hRv hp0 hDl
      go_wp2_with (go_at_call 80; refine hs.out.mono ?_; rintro ee w2 ⟨rfl, ho2, hF2⟩; have ho3 := hide ho2; have hF3 := hide hF2; clear ho2 hF2)
      go_returns
      have e1 : srt D = srt T := by
        refine List.Perm.eq_of_pairwise (fun a b _ _ h1 h2 => by omega) (srt_asc D) (srt_asc T) ((srt_perm D).trans (hD.out.trans (srt_perm T).symm))
      refine ⟨_, rfl, ?_, ext_fr hX.out hF3.out fun b hb => ?_⟩
      · have h5 : OwnZ w2 w.heap.size (.slice DA D.length dcap) (srt D) := own_base ho3.out (by omega)
        rw [e1] at h5
        exact h5
      · have := (ob_ge hO.out b hb).1
        omega
    · intro key q L' w4 hkey hq hp hR4 hg4 hs4 hen
      have hlen : L'.length + 1 = L.length := by rw [hp.length_eq]; rfl
      obtain ⟨x, hkx, hkl, -⟩ := Go.Maps.keyOf_int_inv Try.underlying3 hkey
      obtain rfl : q = x := by unfold ckent at hkl; simpa using hkl
      subst hkx
      have hE : (ckent q).2 = .agg #[] := rfl
      rw [hE] at hen ⊢
      have hpn := hide (show T.Perm ((D ++ [q]) ++ L') by rw [List.append_assoc]; exact hp0.out.trans ((List.Perm.refl D).append hp))
      have hobD := ob_ge hO.out
      have hnr : (Value.slice DA D.length dcap).ownBlock ≠ some r := fun h => by have := (hobD r (Option.mem_toList.2 h)).1; omega
      have hO4 := hide (World.ownsRow.kept hO.out hg4 (.inr hnr))
      have hX4 := hide (ext_grown hX.out hg4 (fun z hz => by obtain rfl := Option.some.inj hz; exact hrle))
      have hDT : D.length + 1 ≤ T.length := by have := hp0.out.length_eq; rw [List.length_append] at this; omega
      have hr4 : r < w4.heap.size := by omega
      have hR5 := hide hR4
      clear hkey hq hp hR4 hg4 hs4 hRv hO hX hp0 hE hkl
      go_wp2_with (at_builtin; refine wpl_app tZ rfl (.tmp 11) (.tmp 13) rfl rfl (own_ext hO4.out ((Ext.refl w4).alloc _)) rfl (src_one Try.underlying25 w4 _ _ rfl) (by unfold maxLen; omega) (by omega) (by simp only [World.size_alloc]; omega) ?_; intro v8 w8 ho8 hg8 hob8; have ho9 := hide ho8; have hg9 := hide hg8; obtain ⟨A8, c8, q8⟩ := own_form ho8; subst q8; clear ho8 hg8 hob8)
      have hX9 : Ext w w8 := ext_grown (hX4.out.alloc _) hg9.out (fun z hz => by have := (hobD z (Option.mem_toList.2 hz)).1; omega)
      have hz9 := hg9.out.size
      simp only [World.size_alloc] at hz9
      go_roundg L'.length
      case measure => omega
      case rel =>
        refine ⟨D ++ [q], L', rfl, hpn, (hR5.out.kept (World.grownBy_alloc w4 _ none) (by simp) (by simp)).kept hg9.out (fun h => ?_) (fun h => hnr h.symm), own_appZ ho9.out, hX9, by omega⟩
        have := (hobD mb (Option.mem_toList.2 h.symm)).1
        omega
end Go.Proofs.Ytjdbjnpomndfjaa
