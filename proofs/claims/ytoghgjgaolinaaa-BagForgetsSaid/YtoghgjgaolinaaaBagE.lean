/-
  A helper of ours: no claim of its own. Layer 12 (bag): what is ahead of a place is forgotten, by the code.
-/
import Derived.Test.YtoghgjgaolinaaaBagD
import Derived.Test.YtoghgjgaolinaaaStepE
set_option linter.unusedVariables false
set_option linter.unusedSimpArgs false
namespace Go.Proofs.Ytoghgjgaolinaaa
open Go.RowKit
attribute [local go_sem] GW.cell GW.frozen In.eq_true In.le_true In.ne In.ne' In.ne_add In.ne_add' In.lt_add Upto.le_true Upto.le_add Upto.lt_add
def restG (t : Int) (g : Gp) : Gp := (g.1, reR g.2 t)
theorem del_none {kf : List Vl → List UInt8} {V : List Fe} {kl : Lit} (h : ∀ x ∈ V, (fent kf x).1.sameKey kl = false) : delM (fent kf) V kl = V := by
  unfold delM
  rw [List.filter_eq_self]
  intro x hx
  rw [h x hx]; rfl
set_option maxHeartbeats 8000000 in
set_option maxRecDepth 100000 in
theorem bagForget_c (kf : List Vl → List UInt8) (S : List Nat) (B mb n : Nat) (mk t : Int) (T : List Fe) (hn : n + T.length < 1000000000) (w : World) (h : Bg kf w S B mb n mk T) (hB : B ≠ mb) (hS : ∀ b, b ∈ S → b < w.heap.size) (hBS : B ∈ S ∧ mb ∈ S) : Calls Try.prog 9 #[.pointer (some ⟨B, 0, none⟩), .int .i64 t] w fun e w' =>
    (t ≤ mk → e = .returned (.int .i64 0) ∧ Ext w w') ∧ (mk < t → (∃ p ∈ T, reE p.2.2.2 t ≠ 0 ∧ e = .returned (.int .i64 (reE p.2.2.2 t)) ∧ Ext w w') ∨
      ((∀ p ∈ T, reE p.2.2.2 t = 0) ∧ e = .returned (.int .i64 0) ∧ ∃ U : List Fe, (U.map (·.2.2)).Perm (T.map fun p => restG t p.2.2) ∧ (∀ p ∈ U, Rw w' S p.1 p.2.2.1 ∧ Jw w' S p.2.1 p.2.2.2) ∧ Mv w' Try.prog 9 (fent kf) mb (n + U.length) (updT kf T U) ∧ Ob w' B 68 [.int .i64 t, .map (some mb)] ∧ Fr [B, mb] w w')) := by
  have c0 := h.1.cell 0 rfl
  have c1 := h.1.cell 1 rfl
  have hlt := h.1.lt
  haveI : In B w := ⟨hlt⟩
  by_cases ht : t ≤ mk
  · have d1 : decide (t ≤ mk) = true := decide_eq_true ht
    replace ht := hide ht
    clear h
    go_enter Try.func9, Try.ntmps9
    go_wp2_with fail
    go_returns
    exact ⟨fun _ => ⟨rfl, Ext.refl _⟩, fun h2 => by have := ht.out; omega⟩
  have d1 : decide (t ≤ mk) = false := decide_eq_false ht
  have hO := hide h.1
  have hM := hide h.2.1
  have hT := hide h.2.2
  have hml := h.2.1.lt
  have hap := hide ((h.2.1.apart fnKey).1)
  have hSh := hide hS
  replace ht := hide ht
  have hMn := hide (Mv.made (fent kf) w Try.prog 9)
  have hmk : ∀ w, (Instr.makeMap 66 none).run Try.prog w = .ok (.map (some w.heap.size)) (w.alloc (.map #[] 0)) := fun _ => by kernel_rfl
  have hMa := hide (hM.out.alloc (.map #[] 0))
  clear h hS
  go_enter Try.func9, Try.ntmps9
  go_wp2_with (at_range; refine wpl_range rfl (.tmp 22) rfl rfl fnKey Try.underlying66 hMa.out ?_; intro w1 hr1 hg1 hs1)
  first | go_frame | skip
  simp only [World.size_alloc] at hr1 hs1
  obtain ⟨ob, hob⟩ : ∃ ob, ob = w.heap.size := ⟨_, rfl⟩
  obtain ⟨r, hrr⟩ : ∃ r, r = w.heap.size + 1 := ⟨_, rfl⟩
  have hMo := hide (show Mv w1 Try.prog 9 (fent kf) ob 0 [] by rw [hob]; exact hMn.out.kept hg1 (by simp))
  have hX1 := hide (show Ext w w1 from ext_grown ((Ext.refl w).alloc (.map #[] 0)) hg1 (by simp))
  rw [← hob, show ob + 1 = r by omega] at hr1 ⊢
  have hrle : w.heap.size ≤ r := by omega
  have hole : w.heap.size ≤ ob := by omega
  have hor : ob ≠ r := by omega
  obtain ⟨S2, hS2e⟩ : ∃ S2, S2 = r :: ob :: S := ⟨_, rfl⟩
  have hsub := hide (show ∀ b, b ∈ S → b ∈ S2 by rw [hS2e]; intro b hb; simp [hb])
  have hS2n := hide (show ∀ b, b ∈ S2 → b ∈ S ∨ w.heap.size ≤ b by rw [hS2e]; intro b hb; simp only [List.mem_cons] at hb; rcases hb with rfl | rfl | hb <;> first | exact .inr hrle | exact .inr hole | exact .inl hb)
  have hS2m := hide (show ∀ b, b ∈ [r, ob] → b ∈ S2 by rw [hS2e]; intro b hb; simp only [List.mem_cons, List.not_mem_nil, or_false] at hb; rcases hb with rfl | rfl <;> simp)
  have hS2l := hide (show ∀ b, b ∈ S2 → b ≤ r by rw [hS2e]; intro b hb; simp only [List.mem_cons] at hb; rcases hb with rfl | rfl | hb <;> first | omega | (have := hSh.out b hb; omega))
  have hrl := hide (show r < w1.heap.size by omega)
  clear hS2e
  replace hr1 := hide hr1
  clear hg1 hs1 hMa hMn
  replace hrr := hide hrr
  replace hob := hide hob
  go_loopg [6] T.length (fun gh u wr => ∃ (D L V : List Fe), L.length = gh ∧ Hid (T.Perm (D ++ L)) ∧ Hid ((V.map (·.2.2)).Perm (D.map fun p => restG t p.2.2)) ∧ Hid (∀ p ∈ D, reE p.2.2.2 t = 0) ∧ Hid (∀ p ∈ V, Rw wr S2 p.1 p.2.2.1 ∧ Jw wr S2 p.2.1 p.2.2.2) ∧ Hid (Mv wr Try.prog 9 (fent kf) ob V.length V) ∧ Hid (Rgv wr Try.prog 9 (fent kf) mb r n T L) ∧ Hid (Ext w wr ∧ r < wr.heap.size))
  case atStart => exact ⟨[], T, [], rfl, List.Perm.refl _, List.Perm.refl _, (by intro p hp; simp at hp), (by intro p hp; simp at hp), hMo, hr1, ⟨hX1.out, hrl.out⟩⟩
  case round =>
    clear hr1 hMo hX1
    obtain ⟨D, L, V, hL, hp0, hpV, hD0, hVf, hMv, hRv, hXr⟩ := hrel
    have hX := hide hXr.out.1
    have hrw5 := hXr.out.2
    have cB := cell_later hX.out c1
    have cBl := block_lt_of_cell cB
    haveI : In B wr := ⟨cBl⟩
    have hVD : V.length = D.length := by have := hpV.out.length_eq; simpa using this
    have hDT : D.length + L.length = T.length := by have := hp0.out.length_eq; rw [List.length_append] at this; omega
    go_wp2_with (at_next; refine wpl_next rfl (.tmp 23) rfl rfl fnKey hRv.out ?_ ?_)
    · intro hl0
      subst hl0
      have hBg : Bg kf wr S B mb n mk T := ⟨hO.out.ext hX.out, hM.out.kept (ext_by hX.out) (by simp), fun p hp => ⟨Sl.ext (hT.out p hp).1 hX.out, Sl.ext (hT.out p hp).2 hX.out⟩⟩
      have hput := hide (bagPut_c kf S B mb n ob V.length mk T V (by simp at hDT; omega) (by omega) wr hBg hB ⟨hMv.out, fun p hp => ⟨Sl.less (hVf.out p hp).1 hsub.out, Sl.less (hVf.out p hp).2 hsub.out⟩⟩)
      clear hRv hT hBg
      go_wp2_with (go_at_call 30; (refine hput.out.mono ?_; rintro ee w5 ⟨rfl, hM5, hF5⟩; have O5 := (hO.out.ext hX.out).fr hF5 (by simp; exact hB); have q0 := O5.cell 0 rfl; have qf := O5.free 0; have ql := O5.lt; haveI : In B w5 := ⟨ql⟩; replace O5 := hide O5; replace hM5 := hide hM5; replace hF5 := hide hF5))
      go_returns
      have hDp : D.Perm T := by have := hp0.out; rw [List.append_nil] at this; exact this.symm
      have hG : (w5.setCell ⟨B, 0, none⟩ (.int .i64 t)).heap.size = w5.heap.size := World.size_setCell ..
      have hFF : Fr [B, mb] w (w5.setCell ⟨B, 0, none⟩ (.int .i64 t)) := ((Fr.of_ext hX.out).then (S' := [mb]) hF5.out (by simp)).setCell ⟨B, 0, none⟩ _ (.inl (by simp))
      have hFs : Fr [B, mb] wr (w5.setCell ⟨B, 0, none⟩ (.int .i64 t)) := ((Fr.refl [B, mb] wr).then (S' := [mb]) hF5.out (by simp)).setCell ⟨B, 0, none⟩ _ (.inl (by simp))
      refine ⟨fun h1 => by have := ht.out; omega, fun _ => .inr ⟨fun p hp => hD0.out p (hDp.mem_iff.2 hp), rfl, V, hpV.out.trans (hDp.map _), fun p hp => ?_, ?_, ?_, hFF⟩⟩
      · have hm : ∀ b, b ∈ [B, mb] → b ∈ S := by
          intro b hb
          simp only [List.mem_cons, List.not_mem_nil, or_false] at hb
          rcases hb with rfl | rfl
          · exact hBS.1
          · exact hBS.2
        exact ⟨Sl.fr (Sl.less (hVf.out p hp).1 hsub.out) hFs hm, Sl.fr (Sl.less (hVf.out p hp).2 hsub.out) hFs hm⟩
      · obtain ⟨es, h1, h2⟩ := hM5.out
        exact ⟨es, h1.setCell (Ne.symm hB) _, h2⟩
      · exact O5.out.set 0 _
    · intro key vr vj q f L' w4 hkey hq hp hR4 hg4 hs4 hen
      have hE : (fent kf (vr, vj, q, f)).2 = .agg #[vr, vj] := rfl
      rw [hE] at hen ⊢
      obtain ⟨hrw, hjw⟩ := hT.out _ hq
      simp only at hrw hjw
      have hlen : L'.length + 1 = L.length := by rw [hp.length_eq]; rfl
      have hX4 := ext_grown hX.out hg4 (fun z hz => by obtain rfl := Option.some.inj hz; exact hrle)
      have hpD := hp0.out.trans ((List.Perm.refl D).append hp)
      have hneD : ∀ x ∈ D, (fent kf x).1.sameKey (fent kf (vr, vj, q, f)).1 = false := fun x hx => by
        cases hs : (fent kf x).1.sameKey (fent kf (vr, vj, q, f)).1
        · rfl
        · exfalso
          have h1 := (hpD.pairwise_iff (R := fun p q : Fe => (fent kf p).1 ≠ (fent kf q).1) (fun {a b} hab => Ne.symm hab)).1 hap.out
          rw [List.pairwise_append] at h1
          exact h1.2.2 x hx _ (by simp) (WideAt.sameKey_eq hs)
      have hneV := hide (show ∀ x ∈ V, (fent kf x).1.sameKey (fent kf (vr, vj, q, f)).1 = false from fun x hx => by
        have h1 : x.2.2 ∈ D.map fun p => restG t p.2.2 := hpV.out.mem_iff.1 (List.mem_map.2 ⟨x, hx, rfl⟩)
        obtain ⟨d, hd, e⟩ := List.mem_map.1 h1
        have h2 := hneD d hd
        have e2 : x.2.2.1 = d.2.2.1 := by rw [← e]; rfl
        have e3 : (fent kf x).1 = (fent kf d).1 := by unfold fent; rw [e2]
        rw [e3]; exact h2)
      have hpn := hide (show T.Perm ((D ++ [(vr, vj, q, f)]) ++ L') by rw [List.append_assoc]; exact hpD)
      obtain ⟨VA, vcap, rfl⟩ := (show ∃ A cap, vr = .slice A q.length cap by obtain ⟨A, cap, e, _⟩ := hrw; exact ⟨A, cap, e⟩)
      have hre := hide (fun w' (hx : Ext w w') => stepRest_c f t vj w' ((Sl.less hjw (S' := []) (by simp)).ext hx))
      obtain ⟨JA, jcap, rfl, hjl, hjm, -⟩ := jw_form hjw
      have hA := World.grownBy_alloc w4 (.cells #[.slice VA q.length vcap, .slice JA f.length jcap] 78) none
      have hMa := hide ((hMv.out.kept hg4 (by simpa using hor)).kept hA (by simp))
      have hRa := hide (hR4.kept hA (by simp) (by simp))
      have hXa := hide (hX4.alloc (.cells #[.slice VA q.length vcap, .slice JA f.length jcap] 78))
      have hO7 := hide (Ob.new w4 78 [.slice VA q.length vcap, .slice JA f.length jcap])
      have hgr := hide (show Fr [r] wr (w4.alloc (.cells #[.slice VA q.length vcap, .slice JA f.length jcap] 78)) from ((Fr.refl [r] wr).grown hg4 (fun k hk => by obtain rfl := Option.some.inj hk; exact .inl (by simp))).alloc _)
      have hnb : V.length < maxLen := by unfold maxLen; omega
      have hkk := hide (show keyOf Try.prog 9 key = some (fent kf (.slice VA q.length vcap, .slice JA f.length jcap, q, f)).1 from hkey)
      have hqm := hide hq
      have hrwh := hide (show Rw w S2 (.slice VA q.length vcap) q from Sl.new hrw hS2n.out)
      have hr4 := hide (show r < (w4.alloc (.cells #[.slice VA q.length vcap, .slice JA f.length jcap] 78)).heap.size by have := hgr.out.size; omega)
      clear hkey hq hp hp0 hpD hR4 hg4 hs4 hrw hjw hRv hE hA hMv cB cBl hneD hX4
      by_cases he0 : reE f t = 0
      · rw [he0] at hre
        go_wp2_with (first | (go_at_call 31; (refine (hre.out _ hXa.out).mono ?_; rintro ee w5 ⟨v5, rfl, ho5, hx5⟩; obtain ⟨A5, c5, e5⟩ := own_form ho5; subst e5; have O7 := hO7.out.ext hx5; have p0 := O7.cell 0 rfl; have p1 := O7.cell 1 rfl; have pl := O7.lt; haveI : In w4.heap.size w5 := ⟨pl⟩; have hM5 := hide (hMa.out.kept (ext_by hx5) (by simp)); have hx5h := hide hx5; replace ho5 := hide ho5; clear hx5)) | (at_mapUpdate; refine wpl_mstore rfl (.tmp 39) (.tmp 40) (.tmp 44) rfl ((.slice VA q.length vcap, .slice A5 (reR f t).length c5, (q, reR f t)) : Fe) rfl rfl rfl fnKey Try.underlying66 hnb hM5.out hkk.out ?_; intro w6 hM6 hg6))
        first | go_frame | skip
        go_roundg L'.length
        case measure => omega
        case rel =>
          have hFz : Fr [r, ob] wr w6 := ((hgr.out.more (S' := [r, ob]) (fun k _ hk => by simp at hk; simp [hk])).then (S' := []) (Fr.of_ext hx5h.out) (by simp)).grown hg6 (fun k hk => by obtain rfl := Option.some.inj hk; exact .inl (by simp))
          have hFy : Fr [r, ob] w5 w6 := (Fr.refl _ _).grown hg6 (fun k hk => by obtain rfl := Option.some.inj hk; exact .inl (by simp))
          refine ⟨D ++ [(.slice VA q.length vcap, .slice JA f.length jcap, q, f)], L', (.slice VA q.length vcap, .slice A5 (reR f t).length c5, (q, reR f t)) :: V, rfl, hpn, ?_, ?_, ?_, ?_, ?_, ?_⟩
          · show List.Perm _ _
            rw [List.map_cons, List.map_append]
            exact (hpV.out.cons _).trans (List.perm_append_singleton _ _).symm
          · intro p hp
            rcases List.mem_append.1 hp with hp | hp
            · exact hD0.out p hp
            · obtain rfl := List.mem_singleton.1 hp; exact he0
          · intro p hp
            rcases List.mem_cons.1 hp with rfl | hp
            · refine ⟨Sl.fr (Sl.ext hrwh.out (hXa.out.trans hx5h.out)) hFy hS2m.out, Sl.fr (Sl.own ho5.out fun b hb => ?_) hFy hS2m.out⟩
              have h1 := hS2l.out b hb
              have h2 := hr4.out
              omega
            · exact ⟨Sl.fr (hVf.out p hp).1 hFz hS2m.out, Sl.fr (hVf.out p hp).2 hFz hS2m.out⟩
          · have hM7 := hM6
            unfold putM at hM7
            rw [del_none (kl := (fent kf (.slice VA q.length vcap, .slice A5 (reR f t).length c5, q, reR f t)).1) hneV.out] at hM7
            exact hM7
          · exact (hRa.out.kept (ext_by hx5h.out) (by simp) (by simp)).kept hg6 (by simp; omega) (by simpa using Ne.symm hor)
          · exact ⟨ext_grown (hXa.out.trans hx5h.out) hg6 (fun k hk => by obtain rfl := Option.some.inj hk; exact hole), Nat.lt_of_lt_of_le hr4.out (Nat.le_trans hx5h.out.size hg6.size)⟩
      · have be : (reE f t != 0) = true := by simp [he0]
        obtain ⟨E, hEe⟩ : ∃ E, E = reE f t := ⟨_, rfl⟩
        rw [← hEe] at hre be he0
        replace hEe := hide hEe
        go_wp2_with (go_at_call 31; (refine (hre.out _ hXa.out).mono ?_; rintro ee w5 ⟨v5, rfl, ho5, hx5⟩; obtain ⟨A5, c5, e5⟩ := own_form ho5; subst e5; replace hx5 := hide hx5))
        go_returns
        exact ⟨fun h1 => by have := ht.out; omega, fun _ => .inl ⟨_, hqm.out, by rw [← hEe.out]; exact he0, by simp only; rw [← hEe.out]; rfl, hXa.out.trans hx5.out⟩⟩
end Go.Proofs.Ytoghgjgaolinaaa
