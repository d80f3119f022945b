/-
  A helper of ours: no claim of its own. Layer 27 (snap): the rows that are there at a tick, by the code.
-/
import Derived.Test.YtjdbjnpomndfjaaSnaC
import Derived.Test.YtjdbjnpomndfjaaStepC
set_option linter.unusedVariables false
set_option linter.unusedSimpArgs false
namespace Go.Proofs.Ytjdbjnpomndfjaa
open Go.RowKit
attribute [local go_sem] GW.cell GW.frozen In.eq_true In.le_true In.ne In.ne' In.ne_add In.ne_add' In.lt_add Upto.le_true Upto.le_add Upto.lt_add
theorem tCp : ElemT Try.prog 34 77 (.agg #[.slice none 0 0, .int .i64 0]) 2 32 := ElemT.mk' Try.underlying34 (by kernel_rfl) rfl (by omega)
/-- One more copy. -/
theorem OwnC.app {w w' : World} {B : Nat} {v v' : Value} {C : List Vc} {c : Vc} {u : Value} {cs : List Value} {cap : Nat} (h : OwnC w B v C) (hF : Fr (ob v) w w') (ho : w'.ownsRow B 77 2 v' (C.length + 1) (cc C ++ cc1 c)) (hc : OwnR w 0 c.1 c.2.1) : OwnC w' B v' (C ++ [c]) := by
  refine ⟨by rw [List.length_append, cc_append]; simpa [cc] using ho, fun p hp => ?_⟩
  rcases List.mem_append.1 hp with hp | hp
  · exact own_away (h.2 p hp) hF (own_far h.1 (h.2 p hp) (by decide))
  · obtain rfl := List.mem_singleton.1 hp
    exact own_away hc hF (own_far h.1 hc (by decide))
set_option maxHeartbeats 8000000 in
set_option maxRecDepth 100000 in
theorem rowsAt_c (M : List Vk) (mv : Value) (b B0 : Nat) (t : Int) (w : World) (hb : Ob w b 128 [mv]) (hK : OwnK w B0 mv M) (hM : M.length ≤ 4096) : Calls Try.prog 97 #[.int .i64 t, .pointer (some ⟨b, 0, none⟩)] w fun e w' => ∃ v' C, e = .returned v' ∧ cps C = alG (kgp M) t ∧ OwnC w' w.heap.size v' C ∧ Ext w w' := by
  obtain ⟨MA, mcap, rfl⟩ := own_form hK.1
  have c0 := hb.cell 0 rfl
  have hlt := hb.lt
  have hK' := hide hK
  haveI : In b w := ⟨hlt⟩
  clear hb hK
  go_enter Try.func97, Try.ntmps97
  go_wp2_with fail
  go_loopg [4, 10] M.length (fun gh u i wr => ∃ (k : Nat) (C : List Vc), i = .int .i64 k ∧ k + gh = M.length ∧ Hid (OwnC wr w.heap.size u C) ∧ Hid (cps C = alG ((kgp M).take k) t) ∧ C.length ≤ k ∧ Hid (Ext w wr))
  case atStart => exact ⟨0, [], by go_num, by omega, OwnC.nil _ _, rfl, by simp, Ext.refl w⟩
  case round =>
    obtain ⟨k, C, rfl, hk, hO, hcp, hCl, hX⟩ := hrel
    obtain ⟨CA, ccap, rfl⟩ := hO.out.form
    by_cases hlt2 : k < M.length
    · obtain ⟨⟨r, f, x⟩, hd⟩ : ∃ p, M[k]? = some p := ⟨_, List.getElem?_eq_getElem hlt2⟩
      have hKr := hK'.out.ext hX.out
      obtain ⟨g, mc, eg, -, hgl⟩ := own_block2 hKr.1 (by omega)
      simp only [Value.slice.injEq] at eg
      obtain ⟨rfl, -, rfl⟩ := eg
      have q0 := World.ownsRow.cellAt hKr.1 (k * 2) (by omega)
      have q1 := World.ownsRow.cellAt hKr.1 (k * 2 + 1) (by omega)
      have q2 := kc_get M k _ hd 0 r rfl
      rw [Nat.add_zero] at q2
      rw [q2] at q0
      rw [kc_get M k _ hd 1 f rfl] at q1
      obtain ⟨hr, hf⟩ := hKr.2 _ (List.mem_of_getElem? hd)
      simp only at hr hf
      obtain ⟨RA, rcap, rfl⟩ := own_form hr
      obtain ⟨JA, jcap, rfl⟩ := own_form hf
      have hgk : (kgp M)[k]? = some x := by rw [List.getElem?_map, hd]; rfl
      have hnx := hide (alG_next hgk t)
      obtain ⟨n, hn⟩ : ∃ n, n = atV x.2 t := ⟨_, rfl⟩
      have hat := hide (fun w' (hX' : Ext wr w') => stepAt_c x.2 t (.slice JA x.2.length jcap) w' (Sl.ext (own_jw (S := []) hf (by simp)) hX'))
      rw [← hn] at hat hnx
      haveI : In g wr := ⟨hgl⟩
      have hr' := hide hr
      have hobC := hide (ob_ge hO.out.1)
      have hXa := hide (((Ext.refl wr).alloc (.cells #[.slice RA x.1.length rcap, .slice JA x.2.length jcap] 130)))
      have hA1 : Ob (wr.alloc (.cells #[.slice RA x.1.length rcap, .slice JA x.2.length jcap] 130)) wr.heap.size 130 [.slice RA x.1.length rcap, .slice JA x.2.length jcap] := Ob.new wr _ [_, _]
      clear hd hKr q2 hr hf hgk
      replace hn := hide hn
      by_cases hpos : 0 < n
      · rw [if_pos hpos] at hnx
        go_wp2_with (first | (go_at_call 98; (with_reducible refine seq_gw (hat.out _ hXa.out) ?_); intro g1; have hXg := hide (hXa.out.trans g1.grown); have hO1 := hide (hO.out.ext hXg.out); have hr1 := hide (own_ext hr'.out hXg.out); have p0 := (hA1.ext g1.grown).cell 0 rfl; have p1 := (hA1.ext g1.grown).lt; (haveI : In wr.heap.size g1.val := ⟨p1⟩)) | (at_builtin; refine wpl_app tCp rfl (.tmp 20) (.tmp 25) rfl rfl (own_ext hO1.out.1 ((Ext.refl g1.val).alloc _)) rfl (src_sl Try.underlying34 (sl_lit g1.val 77 2 [.slice RA x.1.length rcap, .int .i64 n] rfl) (by intro u hu; simp at hu; rcases hu with rfl | rfl <;> rfl) (by omega)) (by unfold maxLen; omega) (by omega) (by simp only [World.size_alloc]; have := hXg.out.size; have := hX.out.size; omega) ?_; intro v8 w8 ho8 hg8 hob8; have ho9 := hide ho8; have hg9 := hide hg8; obtain ⟨A8, c8, q8⟩ := own_form ho8; subst q8; clear ho8 hg8 hob8))
        have hF9 : Fr (ob (.slice CA C.length ccap)) g1.val w8 := ((Fr.refl _ _).alloc _).grown hg9.out (fun j hj => .inl (Option.mem_toList.2 hj))
        go_roundg (M.length - (k + 1))
        case measure => omega
        case rel =>
          refine ⟨k + 1, C ++ [(.slice RA x.1.length rcap, x.1, n)], by go_num, by omega, OwnC.app (cs := []) (cap := 0) (u := undef) hO1.out hF9 (by simpa [cc1] using ho9.out) hr1.out, ?_, by simp; omega, ext_fr (hX.out.trans hXg.out) hF9 (fun y hy => (hobC.out y hy).1)⟩
          show _ = _
          rw [hnx.out, ← hcp.out]
          simp
      · rw [if_neg hpos] at hnx
        go_wp2_with (go_at_call 98; (with_reducible refine seq_gw (hat.out _ hXa.out) ?_); intro g1; have hXg := hide (hXa.out.trans g1.grown))
        go_roundg (M.length - (k + 1))
        case measure => omega
        case rel => exact ⟨k + 1, C, by go_num, by omega, hO.out.ext hXg.out, (by show _ = _; rw [hnx.out, List.append_nil]; exact hcp.out), by omega, hX.out.trans hXg.out⟩
    · have hkM : k = M.length := by omega
      have hfin := hide (show cps C = alG (kgp M) t by rw [hcp.out, List.take_of_length_le (by simp; omega)])
      clear hcp
      go_wp2_with fail
      go_returns
      exact ⟨_, C, rfl, hfin.out, hO.out, hX.out⟩
end Go.Proofs.Ytjdbjnpomndfjaa
