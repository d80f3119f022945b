/-
  A helper of ours: no claim of its own. Layer 27 (snap): the snapshots and their rows, by the code.
-/
import Derived.Test.YtjdbjnpomndfjaaSnaM
import Derived.Test.YtjdbjnpomndfjaaReg3
import Derived.Test.YtjdbjnpomndfjaaReg2
import Derived.Test.YtjdbjnpomndfjaaHopV
import Derived.Test.YtjdbjnpomndfjaaEdgO
import Derived.Test.YtjdbjnpomndfjaaSnaA
set_option linter.unusedVariables false
set_option linter.unusedSimpArgs false
namespace Go.Proofs.Ytjdbjnpomndfjaa
open Go.RowKit
attribute [local go_sem] GW.cell GW.frozen In.eq_true In.le_true In.ne In.ne' In.ne_add In.ne_add' In.lt_add Upto.le_true Upto.le_add Upto.lt_add
theorem cps_len {L L' : List Vc} (h : cps L' = cps L) : L'.length = L.length := by have := congrArg List.length h; simpa using this
theorem cps_row {L L' : List Vc} (h : cps L' = cps L) {j : Nat} {c : Vc} (hc : L'[j]? = some c) : ∃ d ∈ L, d.2 = c.2 := by
  have h1 : (cps L')[j]? = (cps L)[j]? := by rw [h]
  rw [List.getElem?_map, List.getElem?_map, hc] at h1
  cases hd : L[j]? with
  | none => rw [hd] at h1; cases h1
  | some d => rw [hd] at h1; exact ⟨d, List.mem_of_getElem? hd, by simpa using h1.symm⟩
theorem own_ob {w : World} {base e size n cap g : Nat} {xs : List Value} (h : w.ownsRow base e size (.slice (some ⟨g, 0, none⟩) n cap) n xs) : ∃ vs, Ob w g e vs ∧ ∀ j : Nat, j < n * size → vs[j]? = xs[j]? := by
  rcases h.2 with ⟨e0, -⟩ | ⟨g', cap', cur, e1, hb, hg, hnc, hcm, hcs, ht⟩
  · cases e0
  · simp only [Value.slice.injEq, Option.some.injEq, Addr.mk.injEq] at e1
    obtain ⟨⟨rfl, -⟩, -, -⟩ := e1
    refine ⟨cur.toList, by unfold Ob; simpa using hg, fun j hj => ?_⟩
    rw [← ht, List.getElem?_take_of_lt hj]
end Go.Proofs.Ytjdbjnpomndfjaa
set_option linter.unusedVariables false
set_option linter.unusedSimpArgs false
namespace Go.Proofs.Ytjdbjnpomndfjaa
open Go.RowKit
attribute [local go_sem] GW.cell GW.frozen In.eq_true In.le_true In.ne In.ne' In.ne_add In.ne_add' In.lt_add Upto.le_true Upto.le_add Upto.lt_add
set_option maxHeartbeats 2000000 in
set_option maxRecDepth 20000 in
theorem hsorted_c (mb n : Nat) (T : List Eh) (b : Nat) (w : World) (hM : Mv w Try.prog 3 kentH mb n T) (hb : Ob w b 95 [.map (some mb)]) (hT : T.length ≤ 1000000) : Calls Try.prog 70 #[.func (.func 109) #[] #[.pointer (some ⟨b, 0, none⟩)]] w fun e w' => ∃ v, e = .returned v ∧ OwnZ w' w.heap.size v (srt (T.map Prod.fst)) ∧ Ext w w' := by
  have h1 := hide (hcollectKeys_c mb n T b w hM hb hT)
  have hs := hide (fun (D : List Eh) (v : Value) (w' : World) (h : OwnZ w' w.heap.size v (D.map Prod.fst)) (hn : D.length ≤ 1000000) => isort_c w.heap.size (D.map Prod.fst) v w' h (by rw [List.length_map]; omega))
  have hT' := hide hT
  clear hM hb hT
  go_enter Try.func70, Try.ntmps70
  go_wp2_with (first | (go_at_call 108; refine h1.out.mono ?_; rintro ee w1 ⟨v1, D, rfl, hD, ho, hX⟩; have hDl := hide hD.length_eq; have ho9 := hide ho; (unfold OwnKy OwnZ at ho; rw [List.length_map] at ho); obtain ⟨A1, c1, rfl⟩ := own_form ho; replace ho := hide ho; replace hX := hide hX; replace hD := hide hD) | (go_at_call 80; refine (hs.out D _ _ (by have h5 := ho9.out; unfold OwnKy at h5; exact h5) (by rw [hDl.out]; exact hT'.out)).mono ?_; rintro ee w2 ⟨rfl, ho2, hF2⟩; replace ho2 := hide ho2; replace hF2 := hide hF2))
  go_returns
  have e1 : srt (D.map Prod.fst) = srt (T.map Prod.fst) := List.Perm.eq_of_pairwise (fun a b _ _ h1 h2 => by omega) (srt_asc _) (srt_asc _) ((srt_perm _).trans ((hD.out.map _).trans (srt_perm _).symm))
  rw [← e1]
  exact ⟨_, rfl, ho2.out, ext_fr hX.out hF2.out fun b hb => (ob_ge ho.out b hb).1⟩
set_option maxHeartbeats 4000000 in
set_option maxRecDepth 100000 in
theorem hwith_c (C : List Vc) (B : Nat) (v : Value) (w : World) (h : OwnC w B v C) (hl : C.length ≤ 4096) (hr : ∀ c ∈ C, c.2.1.length ≤ 8) : Calls Try.prog 73 #[v] w fun e w' => ∃ C', e = .returned v ∧ cps C' = cps C ∧ OwnC w' B v C' ∧ Fr (ob v) w w' := by
  obtain ⟨A, cap, rfl⟩ := h.form
  have h' := hide h
  have hr' := hide hr
  clear h hr
  go_enter Try.func73, Try.ntmps73
  go_wp2_with fail
  go_loopg [7] C.length (fun gh i wr => ∃ (k : Nat) (C' : List Vc), i = .int .i64 k ∧ k + gh = C.length ∧ Hid (OwnC wr B (.slice A C.length cap) C') ∧ Hid (cps C' = cps C) ∧ Hid (Fr (ob (.slice A C.length cap)) w wr))
  case atStart => exact ⟨0, C, by go_num, by omega, h', rfl, Fr.refl _ _⟩
  case round =>
    obtain ⟨k, C', rfl, hk, hO, hcp, hFr⟩ := hrel
    by_cases hlt : k < C.length
    · have hl' := cps_len hcp.out
      obtain ⟨⟨u, q, n⟩, hc⟩ : ∃ c, C'[k]? = some c := ⟨_, List.getElem?_eq_getElem (by rw [hl']; exact hlt)⟩
      have hOo := hO.out.1
      rw [hl'] at hOo
      obtain ⟨g, mc, eg, hgB, hgl⟩ := own_block2 hOo (by omega)
      simp only [Value.slice.injEq] at eg
      obtain ⟨rfl, -, rfl⟩ := eg
      obtain ⟨vs, hgo, hvs⟩ := own_ob hOo
      have hcu0 : vs[k * 2]? = some u := by rw [hvs _ (by omega)]; have := cc_get C' k _ hc 0 u rfl; rwa [Nat.add_zero] at this
      have hcn1 : vs[k * 2 + 1]? = some (.int .i64 n) := by rw [hvs _ (by omega)]; exact cc_get C' k _ hc 1 _ rfl
      have hru := hO.out.2 _ (List.mem_of_getElem? hc)
      simp only at hru
      obtain ⟨RA, rcap, rfl⟩ := own_form hru
      have hq8 : q.length ≤ 8 := by
        obtain ⟨d, hd, e⟩ := cps_row hcp.out hc
        have := hr'.out d hd
        rw [e] at this
        exact this
      have k0 := hgo.cell (k * 2) hcu0
      have k1 := hgo.cell (k * 2 + 1) hcn1
      haveI : In g wr := ⟨hgo.lt⟩
      have hXa := hide ((Ext.refl wr).alloc (.cells #[.slice RA q.length rcap, .int .i64 n] 77))
      have hrc := hide (rowCopy_c q (.slice RA q.length rcap) (wr.alloc (.cells #[.slice RA q.length rcap, .int .i64 n] 77)) (Sl.own (S := []) (own_ext hru hXa.out) (by simp)) (by omega))
      have hcu := hide hcu0
      replace hgo := hide hgo
      replace hc := hide hc
      have hgob : Hid (g ∈ ob (Value.slice (some ⟨g, 0, none⟩) C.length cap)) := Option.mem_toList.2 rfl
      clear hOo hvs hcu0 hcn1 hru hgB hgl hl'
      go_wp2_with (go_at_call 110; refine hrc.out.mono ?_; rintro ee w2 ⟨v9, rfl, ho9, hX2⟩; obtain ⟨A26, c26, q26⟩ := own_form ho9; subst q26; have kg := (hgo.out.ext hXa.out).ext hX2; have kgl := kg.lt; (haveI : In g w2 := ⟨kgl⟩); have hfz := kg.free (k * 2); have hqc := kg.cell (k * 2) hcu.out; replace kg := hide kg; replace ho9 := hide ho9; replace hX2 := hide hX2)
      have hset := ((hO.out.ext hXa.out).ext hX2.out).set hc.out (own_base ho9.out (Nat.zero_le _))
      have hps := cps_set hc.out (.slice A26 q.length c26)
      have hFs := ((Fr.of_ext (S := ob (Value.slice (some ⟨g, 0, none⟩) C.length cap)) (hXa.out.trans hX2.out)).setCell ⟨g, k * 2, none⟩ (.slice A26 q.length c26) (.inl hgob.out))
      go_roundg (C.length - (k + 1))
      case measure => omega
      case rel => exact ⟨k + 1, _, by go_num, by omega, hset, hps.trans hcp.out, hFr.out.trans hFs⟩
    · have hkP : k = C.length := by omega
      go_wp2_with fail
      go_returns
      exact ⟨C', rfl, hcp.out, hO.out, hFr.out⟩
end Go.Proofs.Ytjdbjnpomndfjaa
set_option linter.unusedVariables false
set_option linter.unusedSimpArgs false
namespace Go.Proofs.Ytjdbjnpomndfjaa
open Go.RowKit
attribute [local go_sem] GW.cell GW.frozen In.eq_true In.le_true In.ne In.ne' In.ne_add In.ne_add' In.lt_add Upto.le_true Upto.le_add Upto.lt_add
end Go.Proofs.Ytjdbjnpomndfjaa
set_option linter.unusedVariables false
set_option linter.unusedSimpArgs false
namespace Go.Proofs.Ytjdbjnpomndfjaa
open Go.RowKit
attribute [local go_sem] GW.cell GW.frozen In.eq_true In.le_true In.ne In.ne' In.ne_add In.ne_add' In.lt_add Upto.le_true Upto.le_add Upto.lt_add
theorem tPa : ElemT Try.prog 30 38 (.agg #[.int .i64 0, .int .i64 0, .slice none 0 0]) 3 40 := ElemT.mk' Try.underlying30 (by kernel_rfl) rfl (by omega)
/-- One more part. -/
theorem OwnP.app {w w' : World} {B : Nat} {v v' : Value} {P : List Vp} {p : Vp} (h : OwnP w B v P) (hF : Fr (ob v) w w') (ho : w'.ownsRow B 38 3 v' (P.length + 1) (pt P ++ pt1 p)) (hp : OwnC w B p.1 p.2.2) : OwnP w' B v' (P ++ [p]) := by
  have hk : ∀ b ∈ ob v, ∀ cs c, w.heap[b]? ≠ some (.cells cs 62 c) := fun b hb => by
    obtain ⟨cs, c, hc⟩ := own_kind h.1 hb
    exact no_kind hc (by decide)
  refine ⟨by rw [List.length_append, pt_append]; simpa [pt] using ho, fun q hq => ?_⟩
  rcases List.mem_append.1 hq with hq | hq
  · exact (h.2 q hq).away hF fun b hb => ⟨own_far h.1 (h.2 q hq).1 (by decide) b hb, hk b hb⟩
  · obtain rfl := List.mem_singleton.1 hq
    exact hp.away hF fun b hb => ⟨own_far h.1 hp.1 (by decide) b hb, hk b hb⟩
theorem Dis.app {w : World} {B : Nat} {v : Value} {P : List Vp} {p : Vp} (h : Dis P) (ho : OwnP w B v P) (hp : ∀ b ∈ ob p.1, w.heap.size ≤ b) : Dis (P ++ [p]) := by
  unfold Dis
  rw [List.pairwise_append]
  refine ⟨h, by simp, fun a ha c hc b hb hb2 => ?_⟩
  obtain rfl := List.mem_singleton.1 hc
  have h1 := (ob_ge (ho.2 a ha).1 b hb).2
  have h2 := hp b hb2
  omega
end Go.Proofs.Ytjdbjnpomndfjaa
